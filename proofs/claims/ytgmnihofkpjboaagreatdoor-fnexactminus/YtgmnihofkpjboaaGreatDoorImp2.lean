/-
  The program's table over all nodes: whether each node stands right behind its kids.
-/
import Derived.Test.YtgmnihofkpjboaaGreatDoorNs
namespace Go.Proofs.YtgmnihofkpjboaaGreatDoor
open Go.RowKit Go.Shelf
set_option linter.unusedSimpArgs false
set_option linter.unusedVariables false

attribute [local go_sem] Oper.semAt_some

/-- Between two rounds over the nodes: k nodes stand. -/
def NsInv (dp : Int) (K : Nat → List Int) (N kb s : Nat) (w : World) (a : Act) (W : World) : Prop :=
  ∃ (k : Nat) (Ds : List Nat) (u2 u3 u7 u8 u9 u10 u11 u12 u22 u23 u24 u25 u26 u27 u28 u29 u30 u31 u32 u33 u34 u35 u36 u37 u38 u39 u40 u41 u42 u43 u44 u45 u46 u47 u48 u49 u50 u51 u52 u53 u54 u55 u56 u57 u58 u59 u60 u61 u62 u63 u64 u65 u66 u67 u68 u69 u70 u71 u72 u73 u74 u75 u76 u77 u78 u79 : Value), k ≤ N ∧
    a = { tmps := #[.slice (some ⟨kb, 0, none⟩) N N, .int .i64 dp, u2, u3, .pointer (some ⟨s, 0, none⟩), .pointer (some ⟨s + 1 + 1, 0, none⟩), .pointer (some ⟨s + 1 + 1 + 1 + 1, 0, none⟩), u7, u8, u9, u10, u11, u12, .slice (some ⟨kb, 0, none⟩) N N, .int .i64 N, .slice (some ⟨s + 1, 0, none⟩) N N, .slice (some ⟨kb, 0, none⟩) N N, .int .i64 N, .slice (some ⟨s + 1 + 1 + 1, 0, none⟩) N N, .slice (some ⟨kb, 0, none⟩) N N, .int .i64 N, .int .i64 k, u22, u23, u24, u25, u26, u27, u28, u29, u30, u31, u32, u33, u34, u35, u36, u37, u38, u39, u40, u41, u42, u43, u44, u45, u46, u47, u48, u49, u50, u51, u52, u53, u54, u55, u56, u57, u58, u59, u60, u61, u62, u63, u64, u65, u66, u67, u68, u69, u70, u71, u72, u73, u74, u75, u76, u77, u78, u79], defers := Ds.map mark } ∧
    (∀ j, j < k → (tr K j).isSome = true) ∧ Tab s N W (fRow K k) (hRow K k) false ∧ Below s w W ∧ Marks W s Ds

def slot21 (a : Act) : Nat := (intOf (a.tmps.getD 21 undef)).toNat

set_option maxRecDepth 100000 in
set_option maxHeartbeats 4000000 in
theorem nodesStand_any (dp : Int) (B kb N : Nat) (K : Nat → List Int) (KV : Nat → Value) (w : World) (h1 : 1 ≤ N) (h2 : N ≤ 80) (hB : B ≤ w.heap.size) (hkb : kb < B)
    (hk : ∀ i, i < N → w.cell? ⟨kb, i, none⟩ = some (KV i) ∧ IntsAt B w (KV i) (K i)) :
    Calls Tryz.prog 58 #[.slice (some ⟨kb, 0, none⟩) N N, .int .i64 dp] w fun e w' => e = .returned (.bool (standB K N dp)) ∧ Below w.heap.size w w' := by
  refine (callsIn_wide (n := 6)).1 ?_
  have hmk := run_make_row' (P := Tryz.prog) 33 2 (.int .i64 0) 8 Tryz.underlying33 infoInt rfl .i64 .i64 N (by omega) (by omega)
  refine callsIn_of_wp_marks Tryz.func58 rfl trivial ?_ rfl
  simp only [Tryz.ntmps58, List.size_toArray, List.length_cons, List.length_nil, Nat.reduceAdd, Nat.reduceSub, Array.replicate_succ, Array.replicate_zero, List.push_toArray, List.append_toArray, List.nil_append, List.cons_append]
  gi_wp2
  clear hmk
  have T0 : Tab w.heap.size N (((((w.alloc (.cells #[.bool false] 4)).alloc (.cells (madeCells #[.int .i64 0] N) 2)).alloc (.cells #[.slice (some ⟨w.heap.size + 1, 0, none⟩) N N] 33)).alloc (.cells (madeCells #[.int .i64 0] N) 2)).alloc (.cells #[.slice (some ⟨w.heap.size + 1 + 1 + 1, 0, none⟩) N N] 33)) (fRow K 0) (hRow K 0) false := by
    refine ⟨((((Boxed.new w _ _).alloc _).alloc _).alloc _).alloc _, ?_, ?_, ?_, ?_⟩
    · have := (((World.rowIs_made (w.alloc (.cells #[.bool false] 4)) (.int .i64 0) N 2).alloc (.cells #[.slice (some ⟨w.heap.size + 1, 0, none⟩) N N] 33)).alloc (.cells (madeCells #[.int .i64 0] N) 2)).alloc (.cells #[.slice (some ⟨w.heap.size + 1 + 1 + 1, 0, none⟩) N N] 33)
      rw [World.size_alloc] at this
      exact this.congr fun j _ => by simp [fRow]
    · have := ((Boxed.new ((w.alloc (.cells #[.bool false] 4)).alloc (.cells (madeCells #[.int .i64 0] N) 2)) 33 (.slice (some ⟨w.heap.size + 1, 0, none⟩) N N)).alloc (.cells (madeCells #[.int .i64 0] N) 2)).alloc (.cells #[.slice (some ⟨w.heap.size + 1 + 1 + 1, 0, none⟩) N N] 33)
      simpa using this
    · have := (World.rowIs_made (((w.alloc (.cells #[.bool false] 4)).alloc (.cells (madeCells #[.int .i64 0] N) 2)).alloc (.cells #[.slice (some ⟨w.heap.size + 1, 0, none⟩) N N] 33)) (.int .i64 0) N 2).alloc (.cells #[.slice (some ⟨w.heap.size + 1 + 1 + 1, 0, none⟩) N N] 33)
      simp only [World.size_alloc] at this
      exact this.congr fun j _ => by simp [hRow]
    · have := Boxed.new ((((w.alloc (.cells #[.bool false] 4)).alloc (.cells (madeCells #[.int .i64 0] N) 2)).alloc (.cells #[.slice (some ⟨w.heap.size + 1, 0, none⟩) N N] 33)).alloc (.cells (madeCells #[.int .i64 0] N) 2)) 33 (.slice (some ⟨w.heap.size + 1 + 1 + 1, 0, none⟩) N N)
      simpa using this
  have B0 : Below w.heap.size w (((((w.alloc (.cells #[.bool false] 4)).alloc (.cells (madeCells #[.int .i64 0] N) 2)).alloc (.cells #[.slice (some ⟨w.heap.size + 1, 0, none⟩) N N] 33)).alloc (.cells (madeCells #[.int .i64 0] N) 2)).alloc (.cells #[.slice (some ⟨w.heap.size + 1 + 1 + 1, 0, none⟩) N N] 33)) :=
    (((((Below.refl _ w).alloc (Nat.le_refl _) _).alloc (by simp) _).alloc (by simp; omega) _).alloc (by simp; omega) _).alloc (by simp; omega) _
  refine wpIn_loop (NsInv dp K N kb w.heap.size w) (fun a _ => N - slot21 a) ?start ?round
  case start => exact ⟨0, [], undef, undef, undef, undef, undef, undef, undef, undef, undef, undef, undef, undef, undef, undef, undef, undef, undef, undef, undef, undef, undef, undef, undef, undef, undef, undef, undef, undef, undef, undef, undef, undef, undef, undef, undef, undef, undef, undef, undef, undef, undef, undef, undef, undef, undef, undef, undef, undef, undef, undef, undef, undef, undef, undef, undef, undef, undef, undef, undef, undef, undef, undef, undef, undef, undef, undef, Nat.zero_le _, rfl, fun j hj => by omega, T0, B0, List.nodup_nil, fun D hD => by cases hD⟩
  case round =>
    clear T0 B0
    rintro a W ⟨k, Ds, u2, u3, u7, u8, u9, u10, u11, u12, u22, u23, u24, u25, u26, u27, u28, u29, u30, u31, u32, u33, u34, u35, u36, u37, u38, u39, u40, u41, u42, u43, u44, u45, u46, u47, u48, u49, u50, u51, u52, u53, u54, u55, u56, u57, u58, u59, u60, u61, u62, u63, u64, u65, u66, u67, u68, u69, u70, u71, u72, u73, u74, u75, u76, u77, u78, u79, hkN, rfl, hall, HT, hbel, hmk⟩
    have HA := hideIt hall
    have HM := hideIt hmk
    clear hall hmk
    by_cases hlt : k < N
    · have hcK : W.cell? ⟨kb, k, none⟩ = some (KV k) := (below_cell hbel (by omega)).trans (hk k hlt).1
      have hIK := (hk k hlt).2.below (hbel.mono hB)
      have HI := hideIt hIK
      obtain ⟨hlenK, hbdK, aK, capK, eK, _⟩ := hIK
      rw [eK] at hcK HI
      clear eK
      have cR2 := HT.row2.cell hlt
      have fR2 := HT.row2.frozen
      have cB2 := HT.box2.cell
      have cB1 := HT.box1.cell
      have lB2 := HT.box2.lt
      have hsz := hbel.size
      have lB2' : w.heap.size + 1 + 1 + 1 < W.heap.size := by omega
      have HT' := hideIt HT
      have fA : ∀ o o', ((W.alloc o).alloc o').frozen? ⟨w.heap.size + 1 + 1 + 1, k, none⟩ = false := fun o o' => ((HT.row2.alloc o).alloc o').frozen k
      have cA : ∀ o o', ((W.alloc o).alloc o').cell? ⟨w.heap.size + 1 + 1 + 1, k, none⟩ = some (.int .i64 (hRow K k k)) := fun o o' => ((HT.row2.alloc o).alloc o').cell hlt
      clear HT hk fR2
      have ltk : kb < W.heap.size := by omega
      gi_wp2_with (refine ⟨trivial, ?_⟩; gi_at_call 67; refine (back_in Fence.wide _ trivial rfl _ _ _ _).mono ?_; rintro e w' ⟨rfl, rfl⟩)
      have TB : Tab w.heap.size N ((((W.alloc (.cells #[.int .i64 k] 3)).alloc (.cells #[.int .i64 k] 2)).setCell ⟨w.heap.size + 1 + 1 + 1, k, none⟩ (.int .i64 1)).alloc (.cells #[.slice aK (K k).length capK] 33)) (fRow K k) (fun j => if j = k then ((0 : Nat) : Int) + 1 else hRow K k j) false := (((HT'.out.alloc _).alloc _).setH k 1).alloc _
      have bi : Boxed ((((W.alloc (.cells #[.int .i64 k] 3)).alloc (.cells #[.int .i64 k] 2)).setCell ⟨w.heap.size + 1 + 1 + 1, k, none⟩ (.int .i64 1)).alloc (.cells #[.slice aK (K k).length capK] 33)) W.heap.size 3 (.int .i64 k) := (boxed_setOther ((Boxed.new W _ _).alloc _) (ne_blk (by omega)) _).alloc _
      have bb : Boxed ((((W.alloc (.cells #[.int .i64 k] 3)).alloc (.cells #[.int .i64 k] 2)).setCell ⟨w.heap.size + 1 + 1 + 1, k, none⟩ (.int .i64 1)).alloc (.cells #[.slice aK (K k).length capK] 33)) (W.heap.size + 1) 2 (.int .i64 k) := by
        have := Boxed.new (W.alloc (.cells #[.int .i64 k] 3)) 2 (.int .i64 k)
        rw [World.size_alloc] at this
        exact (boxed_setOther this (ne_blk (by omega)) _).alloc _
      have cS : ((((W.alloc (.cells #[.int .i64 k] 3)).alloc (.cells #[.int .i64 k] 2)).setCell ⟨w.heap.size + 1 + 1 + 1, k, none⟩ (.int .i64 1)).alloc (.cells #[.slice aK (K k).length capK] 33)).cell? ⟨W.heap.size + 1 + 1, 0, none⟩ = some (.slice aK (K k).length capK) := by
        have := (Boxed.new (((W.alloc (.cells #[.int .i64 k] 3)).alloc (.cells #[.int .i64 k] 2)).setCell ⟨w.heap.size + 1 + 1 + 1, k, none⟩ (.int .i64 1)) 33 (.slice aK (K k).length capK)).cell
        simpa using this
      have BE : Below w.heap.size w ((((W.alloc (.cells #[.int .i64 k] 3)).alloc (.cells #[.int .i64 k] 2)).setCell ⟨w.heap.size + 1 + 1 + 1, k, none⟩ (.int .i64 1)).alloc (.cells #[.slice aK (K k).length capK] 33)) := (((hbel.alloc hsz _).alloc (by simp; omega) _).setCell (by simp; omega) _).alloc (by simp; omega) _
      have ME : Marks ((((W.alloc (.cells #[.int .i64 k] 3)).alloc (.cells #[.int .i64 k] 2)).setCell ⟨w.heap.size + 1 + 1 + 1, k, none⟩ (.int .i64 1)).alloc (.cells #[.slice aK (K k).length capK] 33)) w.heap.size Ds := HM.out.keeps ((((KeepsOthers.alloc W _).trans (KeepsOthers.alloc _ _)).trans (KeepsOthers.setCell _ _ _)).trans (KeepsOthers.alloc _ _))
      have sE : ((((W.alloc (.cells #[.int .i64 k] 3)).alloc (.cells #[.int .i64 k] 2)).setCell ⟨w.heap.size + 1 + 1 + 1, k, none⟩ (.int .i64 1)).alloc (.cells #[.slice aK (K k).length capK] 33)).heap.size = W.heap.size + 1 + 1 + 1 := by simp
      have IE : IntsAt B ((((W.alloc (.cells #[.int .i64 k] 3)).alloc (.cells #[.int .i64 k] 2)).setCell ⟨w.heap.size + 1 + 1 + 1, k, none⟩ (.int .i64 1)).alloc (.cells #[.slice aK (K k).length capK] 33)) (.slice aK (K k).length capK) (K k) := HI.out.below ((((Below.refl _ W).alloc (by omega) _).alloc (by simp; omega) _).setCell (by simp; omega) _ |>.alloc (by simp; omega) _)
      have hDs : ∀ D ∈ Ds, D < W.heap.size := fun D hD => (Array.getElem?_eq_some_iff.1 (HM.out.2 D hD).2).1
      generalize ((((W.alloc (.cells #[.int .i64 k] 3)).alloc (.cells #[.int .i64 k] 2)).setCell ⟨w.heap.size + 1 + 1 + 1, k, none⟩ (.int .i64 1)).alloc (.cells #[.slice aK (K k).length capK] 33)) = W2 at *
      refine wpIn_rangeFunc_ownG (F := Fence.wide) (n := 6) rfl (by decide) (gf := 75) (lb := #[.pointer (some ⟨W.heap.size + 1 + 1, 0, none⟩)]) rfl trivial (enters_of Tryz.func75 (by kernel_rfl) rfl)
        (back_stops Fence.wide (6 - 1) trivial rfl (by decide) (W.heap.size + 1 + 1) B (.slice aK (K k).length capK) (K k) W2 (by omega) (by omega) cS IE) KpB.trans ?hKb (Below.refl _ _) (fun _ => rfl)
        (KidI K N w.heap.size W.heap.size k w Ds) (KidX K N w.heap.size W.heap.size k w Ds) (kidI_own (fun D hD => by have := hDs D hD; omega) (by omega)) (kidX_own (fun D hD => by have := hDs D hD; omega) (by omega)) ⟨k, 0, rfl, Nat.le_refl _, Nat.zero_le _, TB, bi, bb, BE, ME⟩
        (fun x => { tmps := #[.slice (some ⟨kb, 0, none⟩) N N, .int .i64 dp, u2, u3, .pointer (some ⟨w.heap.size, 0, none⟩), .pointer (some ⟨w.heap.size + 1 + 1, 0, none⟩), .pointer (some ⟨w.heap.size + 1 + 1 + 1 + 1, 0, none⟩), .pointer (some ⟨W.heap.size, 0, none⟩), .slice aK (K k).length capK, .pointer (some ⟨W.heap.size + 1, 0, none⟩), u10, .int .i64 x.2, u12, .slice (some ⟨kb, 0, none⟩) N N, .int .i64 N, .slice (some ⟨w.heap.size + 1, 0, none⟩) N N, .slice (some ⟨kb, 0, none⟩) N N, .int .i64 N, .slice (some ⟨w.heap.size + 1 + 1 + 1, 0, none⟩) N N, .slice (some ⟨kb, 0, none⟩) N N, .int .i64 N, .int .i64 k, .bool true, .int .i64 k, .pointer (some ⟨kb, k, none⟩), .slice aK (K k).length capK, .int .i64 k, .slice (some ⟨w.heap.size + 1 + 1 + 1, 0, none⟩) N N, .int .i64 k, .pointer (some ⟨w.heap.size + 1 + 1 + 1, k, none⟩), .slice aK (K k).length capK, .func (.func 75) #[] #[.pointer (some ⟨W.heap.size + 1 + 1, 0, none⟩)], .int .i64 (x.1 : Int), .int .i64 x.2, u34, u35, u36, u37, u38, u39, u40, u41, u42, u43, u44, u45, u46, u47, u48, u49, u50, u51, u52, u53, u54, u55, u56, u57, u58, u59, u60, u61, u62, u63, u64, u65, u66, u67, u68, u69, u70, u71, u72, u73, u74, u75, u76, u77, u78, u79], defers := [] }) ?assign ?body ?done ?stop
      case hKb =>
        intro X l o o' hl ho _ _
        refine ⟨⟨rfl, rfl, rfl, by simp [World.putObj], fun j hj => World.putObj_heap_other (by omega)⟩, ?_⟩
        unfold World.cell?
        rw [show (X.putObj l o').heap[(⟨W.heap.size + 1 + 1, 0, none⟩ : Addr).block]? = X.heap[(⟨W.heap.size + 1 + 1, 0, none⟩ : Addr).block]? from World.putObj_heap_other (by simp; omega)]
      case assign =>
        intro l x X K' hK'
        unfold encKV
        gi_wp2
        exact hK'
      case body =>
        rintro l pre x X ⟨b, h, hcame, hbk, hhk, TX, biX, bbX, BX, MX⟩ hlen
        have hmx : Tryz.prog.follows .mixedOrders = true := by kernel_rfl
        have HC := hideIt hcame
        have HX := hideIt TX
        have HMX := hideIt MX
        have Hbi := hideIt biX
        have Hbb := hideIt bbX
        have cb := bbX.cell
        have fb := bbX.frozen
        have ci := biX.cell
        have cR := TX.res.cell
        have fR := TX.res.frozen
        have cB1 := TX.box1.cell
        have cB2 := TX.box2.cell
        have lX := bbX.lt
        clear hcame TX MX biX bbX cS IE bi bb TB ME cA fA hlen
        by_cases hb0 : b = 0
        · have hq : ((b : Int) == 0) = true := by simp [hb0]
          have HN : Hid (came K k (pre ++ [x]) = none) := by rw [Hid, came_snoc, HC.out]; simp [stepKid, hb0]
          clear hb0
          gi_wp2
          exact ⟨(KeepsOthers.setCell _ _ _).from _, rfl, HN.out, (HX.out.setRes false).res, BX.setCell (Nat.le_refl _) _, HMX.out.keeps (KeepsOthers.setCell _ _ _)⟩
        · obtain ⟨m, rfl⟩ : ∃ m, b = m + 1 := ⟨b - 1, by omega⟩
          have hq : ((((m + 1 : Nat) : Int)) == 0) = false := by simp; omega
          have hq' : (((m : Int) + 1) == 0) = false := by simp; omega
          by_cases hx : x.2 = (m : Int)
          · obtain ⟨x1, x2⟩ := x
            simp only at hx
            subst hx
            obtain ⟨⟨p1, p2⟩, hp⟩ := Option.isSome_iff_exists.1 (HA.out m (by omega))
            have hd := tr_deep m _ hp
            simp only at hd
            have HN : Hid (came K k (pre ++ [(x1, (m : Int))]) = some (p1, max h p2)) := by rw [Hid, came_snoc, HC.out]; simp [stepKid, hp]
            have c1 : X.cell? ⟨w.heap.size + 1, m, none⟩ = some (.int .i64 (p1 : Int)) := by
              rw [HX.out.row1.cell (by omega), fRow, if_pos (by omega), hp]; rfl
            have hne : ((m : Int) != (m : Int)) = false := by simp
            have hmN : (m : Int) < (N : Int) := by omega
            have TY : Tab w.heap.size N (X.setCell ⟨W.heap.size + 1, 0, none⟩ (.int .i64 p1)) (fRow K k) (fun j => if j = k then (h : Int) + 1 else hRow K k j) false := HX.out.other (by simp; omega) _
            have biY : Boxed (X.setCell ⟨W.heap.size + 1, 0, none⟩ (.int .i64 p1)) W.heap.size 3 (.int .i64 k) := boxed_setOther Hbi.out (ne_blk (by omega)) _
            have bbY : Boxed (X.setCell ⟨W.heap.size + 1, 0, none⟩ (.int .i64 p1)) (W.heap.size + 1) 2 (.int .i64 p1) := Hbb.out.set _
            have BY : Below w.heap.size w (X.setCell ⟨W.heap.size + 1, 0, none⟩ (.int .i64 p1)) := BX.setCell (by simp; omega) _
            have MY : Marks (X.setCell ⟨W.heap.size + 1, 0, none⟩ (.int .i64 p1)) w.heap.size Ds := HMX.out.keeps (KeepsOthers.setCell _ _ _)
            have kY : KeepsOthers X (X.setCell ⟨W.heap.size + 1, 0, none⟩ (.int .i64 p1)) := KeepsOthers.setCell _ _ _
            have pY : KpB B (W.heap.size + 1 + 1) X (X.setCell ⟨W.heap.size + 1, 0, none⟩ (.int .i64 p1)) := ⟨(Below.refl _ _).setCell (by simp; omega) _, World.cell?_setCell_other _ _ _ _ (by simp)⟩
            have HTY := hideIt TY
            have HbiY := hideIt biY
            have HbbY := hideIt bbY
            have HBY := hideIt BY
            have HMY := hideIt MY
            have HkY := hideIt kY
            have HpY := hideIt pY
            clear TY biY bbY BY MY kY pY
            gi_wp2
            generalize (X.setCell ⟨W.heap.size + 1, 0, none⟩ (.int .i64 p1)) = Y at *
            refine wpIn_region_any hmx ?_
            have d1 : Y.drew.cell? ⟨w.heap.size + 1 + 1 + 1 + 1, 0, none⟩ = some (.slice (some ⟨w.heap.size + 1 + 1 + 1, 0, none⟩) N N) := HTY.out.drew.box2.cell
            have d2 : Y.drew.cell? ⟨W.heap.size, 0, none⟩ = some (.int .i64 k) := HbiY.out.cell
            have d3 : Y.drew.cell? ⟨w.heap.size + 1 + 1 + 1, k, none⟩ = some (.int .i64 ((h : Int) + 1)) := by
              rw [HTY.out.drew.row2.cell hlt, if_pos rfl]
            have d4 : Y.drew.cell? ⟨w.heap.size + 1 + 1 + 1, m, none⟩ = some (.int .i64 (p2 : Int)) := by
              rw [HTY.out.drew.row2.cell (by omega), if_neg (by omega), hRow, if_pos (by omega), hp]; rfl
            have d5 : Y.drew.frozen? ⟨w.heap.size + 1 + 1 + 1, k, none⟩ = false := HTY.out.drew.row2.frozen k
            clear cb fb ci cR fR cB1 cB2 c1 hp
            refine phase_store (s0 := 46) (N := 12) (W := Y.drew) (W' := Y.drew.setCell ⟨w.heap.size + 1 + 1 + 1, k, none⟩ (.int .i64 ((max h p2 : Nat) + 1 : Int))) (vN := .pointer (some ⟨w.heap.size + 1 + 1 + 1, k, none⟩))
              (val := fun i => ([.slice (some ⟨w.heap.size + 1 + 1 + 1, 0, none⟩) N N, .int .i64 k, .slice (some ⟨w.heap.size + 1 + 1 + 1, 0, none⟩) N N, .int .i64 k, .pointer (some ⟨w.heap.size + 1 + 1 + 1, k, none⟩), .int .i64 ((h : Int) + 1), .slice (some ⟨w.heap.size + 1 + 1 + 1, 0, none⟩) N N, .int .i64 m, .pointer (some ⟨w.heap.size + 1 + 1 + 1, m, none⟩), .int .i64 (p2 : Int), .int .i64 ((p2 : Int) + 1), .int .i64 ((max h p2 : Nat) + 1 : Int)] : List Value).getD i undef) rfl (by simp) ?hd ?hN ?hN1 ?hQ
            case hd =>
              intro i hi
              match i, hi with
              | 0, _ =>
                refine ⟨_, rfl, rfl, rfl, (fun c => by simp), (by simp [Region.binds]), fun ρ hr hlo hcs => ?_⟩
                have f6 := hlo 6 (by decide)
                simp [Act.eval] at f6
                clear hr hlo
                refine ⟨?_, by simp [Oper.about, go_sem]⟩
                go_simp
              | 1, _ =>
                refine ⟨_, rfl, rfl, rfl, (fun c => by simp), (by simp [Region.binds]), fun ρ hr hlo hcs => ?_⟩
                have f7 := hlo 7 (by decide)
                simp [Act.eval] at f7
                clear hr hlo
                refine ⟨?_, by simp [Oper.about, go_sem]⟩
                go_simp
              | 2, _ =>
                refine ⟨_, rfl, rfl, rfl, (fun c => by simp), (by simp [Region.binds]), fun ρ hr hlo hcs => ?_⟩
                have f6 := hlo 6 (by decide)
                simp [Act.eval] at f6
                clear hr hlo
                refine ⟨?_, by simp [Oper.about, go_sem]⟩
                go_simp
              | 3, _ =>
                refine ⟨_, rfl, rfl, rfl, (fun c => by simp), (by simp [Region.binds]), fun ρ hr hlo hcs => ?_⟩
                have f7 := hlo 7 (by decide)
                simp [Act.eval] at f7
                clear hr hlo
                refine ⟨?_, by simp [Oper.about, go_sem]⟩
                go_simp
              | 4, _ =>
                refine ⟨_, rfl, rfl, rfl, (fun c => by simp), (by simp [Region.binds]), fun ρ hr hlo hcs => ?_⟩
                have e2 := hr ⟨2, .data⟩ (by simp)
                have e3 := hr ⟨3, .data⟩ (by simp)
                simp [Act.eval] at e2 e3
                clear hr hlo
                refine ⟨?_, by simp [Oper.about, go_sem]⟩
                go_simp
              | 5, _ =>
                refine ⟨_, rfl, rfl, rfl, (fun c => by simp), (by simp [Region.binds]), fun ρ hr hlo hcs => ?_⟩
                have e4 := hr ⟨4, .data⟩ (by simp)
                simp [Act.eval] at e4
                clear hr hlo
                refine ⟨?_, by simp [Oper.about, go_sem]⟩
                go_simp
              | 6, _ =>
                refine ⟨_, rfl, rfl, rfl, (fun c => by simp), (by simp [Region.binds]), fun ρ hr hlo hcs => ?_⟩
                have f6 := hlo 6 (by decide)
                simp [Act.eval] at f6
                clear hr hlo
                refine ⟨?_, by simp [Oper.about, go_sem]⟩
                go_simp
              | 7, _ =>
                refine ⟨_, rfl, rfl, rfl, (fun c => by simp), (by simp [Region.binds]), fun ρ hr hlo hcs => ?_⟩
                have f11 := hlo 11 (by decide)
                simp [Act.eval] at f11
                clear hr hlo
                refine ⟨?_, by simp [Oper.about, go_sem]⟩
                go_simp
              | 8, _ =>
                refine ⟨_, rfl, rfl, rfl, (fun c => by simp), (by simp [Region.binds]), fun ρ hr hlo hcs => ?_⟩
                have e6 := hr ⟨6, .data⟩ (by simp)
                have e7 := hr ⟨7, .data⟩ (by simp)
                simp [Act.eval] at e6 e7
                clear hr hlo
                refine ⟨?_, by simp [Oper.about, go_sem]⟩
                go_simp
              | 9, _ =>
                refine ⟨_, rfl, rfl, rfl, (fun c => by simp), (by simp [Region.binds]), fun ρ hr hlo hcs => ?_⟩
                have e8 := hr ⟨8, .data⟩ (by simp)
                simp [Act.eval] at e8
                clear hr hlo
                refine ⟨?_, by simp [Oper.about, go_sem]⟩
                go_simp
              | 10, _ =>
                refine ⟨_, rfl, rfl, rfl, (fun c => by simp), (by simp [Region.binds]), fun ρ hr hlo hcs => ?_⟩
                have e9 := hr ⟨9, .data⟩ (by simp)
                simp [Act.eval] at e9
                clear hr hlo
                refine ⟨?_, by simp [Oper.about, go_sem]⟩
                go_simp
                rw [IntKind.wrap_i64]
                omega
              | 11, _ =>
                refine ⟨_, rfl, rfl, rfl, (fun c => by simp), (by simp [Region.binds]), fun ρ hr hlo hcs => ?_⟩
                have e5 := hr ⟨5, .data⟩ (by simp)
                have e10 := hr ⟨10, .data⟩ (by simp)
                simp [Act.eval] at e5 e10
                clear hr hlo
                refine ⟨?_, by simp [Oper.about, go_sem]⟩
                go_simp
                split <;> omega
            case hN =>
              refine ⟨_, rfl, rfl, rfl, (fun c => by simp), (by simp), ?_, fun ρ hr hlo => ?_⟩
              · intro j hj
                match j, hj with
                | 0, _ => exact ⟨⟨0, .phase⟩, by simp, rfl, rfl⟩
                | 1, _ => exact ⟨⟨1, .phase⟩, by simp, rfl, rfl⟩
                | 2, _ => exact ⟨⟨2, .phase⟩, by simp, rfl, rfl⟩
                | 3, _ => exact ⟨⟨3, .phase⟩, by simp, rfl, rfl⟩
                | 4, _ => exact ⟨⟨4, .phase⟩, by simp, rfl, rfl⟩
                | 5, _ => exact ⟨⟨5, .phase⟩, by simp, rfl, rfl⟩
                | 6, _ => exact ⟨⟨6, .phase⟩, by simp, rfl, rfl⟩
                | 7, _ => exact ⟨⟨7, .phase⟩, by simp, rfl, rfl⟩
                | 8, _ => exact ⟨⟨8, .phase⟩, by simp, rfl, rfl⟩
                | 9, _ => exact ⟨⟨9, .phase⟩, by simp, rfl, rfl⟩
                | 10, _ => exact ⟨⟨10, .phase⟩, by simp, rfl, rfl⟩
                | 11, _ => exact ⟨⟨11, .phase⟩, by simp, rfl, rfl⟩
              · have e0 := hr 0 (by decide)
                have e1 := hr 1 (by decide)
                simp at e0 e1
                clear hr hlo
                refine ⟨?_, by simp [Oper.about, go_sem]⟩
                go_simp
            case hN1 =>
              refine ⟨_, rfl, rfl, rfl, (fun c => by simp), (by simp), ⟨⟨12, .data⟩, by simp, rfl, rfl⟩, fun ρ hr hv hlo => ?_⟩
              have e11 := hr 11 (by decide)
              simp at e11 hv
              clear hr hlo
              refine ⟨?_, by simp [Oper.about, go_sem]⟩
              go_simp
            case hQ =>
              intro a'
              refine ⟨((HkY.out.trans (KeepsOthers.drew _)).trans (KeepsOthers.setCell _ _ _)).from _, HpY.out.trans ⟨((Below.refl _ _).drew).setCell (by simp; omega) _, World.cell?_setCell_other _ _ _ _ (by simp)⟩,
                p1, max h p2, HN.out, by omega, by omega, ?_, boxed_setOther (show Boxed Y.drew _ _ _ from HbiY.out) (ne_blk (by omega)) _, boxed_setOther (show Boxed Y.drew _ _ _ from HbbY.out) (ne_blk (by omega)) _, HBY.out.drew.setCell (by simp; omega) _, (HMY.out.keeps (KeepsOthers.drew _)).keeps (KeepsOthers.setCell _ _ _)⟩
              exact (HTY.out.drew.setH k _).congr (fun j _ => rfl) (fun j _ => by by_cases e : j = k <;> simp [e])
          · have hne : (x.2 != (m : Int)) = true := by simp [hx]
            have HN : Hid (came K k (pre ++ [x]) = none) := by rw [Hid, came_snoc, HC.out]; simp [stepKid, hx]
            clear hx
            gi_wp2
            exact ⟨(KeepsOthers.setCell _ _ _).from _, rfl, HN.out, (HX.out.setRes false).res, BX.setCell (Nat.le_refl _) _, HMX.out.keeps (KeepsOthers.setCell _ _ _)⟩
      case done =>
        rintro D xs X hD hS ⟨b, h, hcame, hbk, hhk, TX, biX, bbX, BX, MX⟩ hKX
        have HT2 : Hid (tr K k = some (b, h + 1)) := came_all hS hcame
        have c1 := TX.box1.cell
        have c2 := TX.row1.cell hlt
        have f2 := TX.row1.frozen k
        have c3 := biX.cell
        have c4 := bbX.cell
        have HX := hideIt TX
        have HMX := hideIt MX
        have HKX := hideIt hKX
        clear hcame TX biX bbX MX hKX hS cS IE bi bb TB ME cA fA
        gi_wp2
        have e1 : ((k : Int) + 1) = ((k + 1 : Nat) : Int) := by omega
        have hb2 : Below w.heap.size w (X.setCell ⟨w.heap.size + 1, k, none⟩ (.int .i64 b)) := BX.setCell (by simp) _
        have hm2 : Marks (X.setCell ⟨w.heap.size + 1, k, none⟩ (.int .i64 b)) w.heap.size (D :: Ds) := (marks_cons HMX.out hDs (by omega) (by omega) HKX.out).keeps (KeepsOthers.setCell _ _ _)
        have ht2 : Tab w.heap.size N (X.setCell ⟨w.heap.size + 1, k, none⟩ (.int .i64 b)) (fRow K (k + 1)) (hRow K (k + 1)) false := (HX.out.setF k b).congr (fun j _ => fRow_step HT2.out j) (fun j _ => hRow_step HT2.out j)
        rw [e1]
        refine ⟨⟨k + 1, D :: Ds, _, _, _, _, _, _, _, _, _, _, _, _, _, _, _, _, _, _, _, _, _, _, _, _, _, _, _, _, _, _, _, _, _, _, _, _, _, _, _, _, _, _, _, _, _, _, _, _, _, _, _, _, _, _, _, _, _, _, _, _, _, _, _, _, _, _, by omega, rfl, ?_, ht2, hb2, hm2⟩, ?_⟩
        · intro j hj
          by_cases e : j = k
          · subst e; rw [HT2.out]; rfl
          · exact HA.out j (by omega)
        · simp [slot21, intOf]; omega
      case stop =>
        rintro D c pre X hD hSp ⟨rfl, hcame, bR, BX, MX⟩ hKX
        have HT2 : Hid (standB K N dp = false) := standB_none hlt (came_none hSp hcame)
        have M2 := marks_cons MX hDs (by omega) (by omega) hKX
        clear hcame hSp cS IE bi bb TB ME cA fA
        gi_wp2
        refine leaves_marks (lo := w.heap.size) (D :: Ds) X M2 ?_
        intro X' hbX hsame
        have hc : X'.heap[w.heap.size]? = some (.cells #[.bool false] 4 (0, 0)) := (hsame _ (boxed_ne_mark bR M2)).trans bR
        have hc' : X'.cell? ⟨w.heap.size, 0, none⟩ = some (.bool false) := Boxed.cell hc
        refine ⟨.bool false, by simp [results, Tryz.results58, go_sem, hc'], ret_bool HT2.out.symm, BX.trans hbX⟩
    · obtain rfl : k = N := by omega
      obtain ⟨⟨p1, p2⟩, hp⟩ := Option.isSome_iff_exists.1 (HA.out (k - 1) (by omega))
      have HR : Hid (standB K k dp = (decide (p1 = 0) && decide ((p2 : Int) ≤ dp))) := by
        rw [Hid, standB_all HA.out, rootK, hp]
      have c1 : W.cell? ⟨w.heap.size + 1, k - 1, none⟩ = some (.int .i64 (p1 : Int)) := by
        rw [HT.row1.cell (by omega), fRow, if_pos (by omega), hp]; rfl
      have c2 : W.cell? ⟨w.heap.size + 1 + 1 + 1, k - 1, none⟩ = some (.int .i64 (p2 : Int)) := by
        rw [HT.row2.cell (by omega), hRow, if_pos (by omega), hp]; rfl
      have c3 := HT.box1.cell
      have c4 := HT.box2.cell
      have c5 := HT.res.cell
      have f5 := HT.res.frozen
      have p0 : ((k : Int) - 1).toNat = k - 1 := by omega
      have HT' := hideIt HT
      clear HT hk hp
      by_cases hz : p1 = 0
      · have hq : ((p1 : Int) == 0) = true := by simp [hz]
        have HP := hideIt hz
        clear hz
        gi_wp2
        have TR := HT'.out.setRes (decide ((p2 : Int) ≤ dp))
        have MR := HM.out.keeps (KeepsOthers.setCell W ⟨w.heap.size, 0, none⟩ (.bool (decide ((p2 : Int) ≤ dp))))
        refine leaves_marks (lo := w.heap.size) Ds _ MR ?_
        intro X' hbX hsame
        have hc : X'.heap[w.heap.size]? = some (.cells #[.bool (decide ((p2 : Int) ≤ dp))] 4 (0, 0)) := (hsame _ (boxed_ne_mark TR.res MR)).trans TR.res
        have hc' : X'.cell? ⟨w.heap.size, 0, none⟩ = some (.bool (decide ((p2 : Int) ≤ dp))) := Boxed.cell hc
        refine ⟨.bool (decide ((p2 : Int) ≤ dp)), by simp [results, Tryz.results58, go_sem, hc'], ret_bool (by rw [HR.out]; simp [HP.out]), (hbel.setCell (by simp) _).trans hbX⟩
      · have hq : ((p1 : Int) == 0) = false := by simp [hz]
        have HP := hideIt hz
        clear hz
        gi_wp2
        have TR := HT'.out.setRes false
        have MR := HM.out.keeps (KeepsOthers.setCell W ⟨w.heap.size, 0, none⟩ (.bool false))
        refine leaves_marks (lo := w.heap.size) Ds _ MR ?_
        intro X' hbX hsame
        have hc : X'.heap[w.heap.size]? = some (.cells #[.bool false] 4 (0, 0)) := (hsame _ (boxed_ne_mark TR.res MR)).trans TR.res
        have hc' : X'.cell? ⟨w.heap.size, 0, none⟩ = some (.bool false) := Boxed.cell hc
        refine ⟨.bool false, by simp [results, Tryz.results58, go_sem, hc'], ret_bool (by rw [HR.out]; simp [HP.out]), (hbel.setCell (by simp) _).trans hbX⟩
end Go.Proofs.YtgmnihofkpjboaaGreatDoor
