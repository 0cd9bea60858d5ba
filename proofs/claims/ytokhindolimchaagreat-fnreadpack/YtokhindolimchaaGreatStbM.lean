/-
  The program's packReader.readBits: a number in bytes of its own, by a range over a function that reads.
-/
import Derived.RangeFuncBox
import Derived.RangeFuncNested
import Derived.RangeFuncBound
import Derived.RangeFuncCalls
import Derived.Shelf.Abstract
import Derived.WalkKit
import Derived.OwnWalkIn
import Derived.TacticsInMore
import Derived.LoopNIn
import Derived.LoopIn
import Derived.Test.YtokhindolimchaaGreatEscP
import Derived.Test.YtokhindolimchaaGreatOrC
import Derived.Test.YtokhindolimchaaGreatScM
import Derived.Deep.QuietTactic
import Derived.Test.YtokhindolimchaaGreatWn1
import Derived.Test.YtokhindolimchaaGreatSMake
import Derived.Test.YtokhindolimchaaGreatGotP
namespace Go.Proofs.YtokhindolimchaaGreat
open Go.RowKit Go.Shelf
set_option linter.unusedSimpArgs false
set_option linter.unusedVariables false

attribute [local go_sem] Oper.semAt_some

def encU (x : UInt8) : Array Value := #[.int .u8 (x.toNat : Int)]
/-- The number of so many bytes. -/
def bigL (l : List UInt8) : Nat := l.foldl (fun a x => 256 * a + x.toNat) 0
theorem bigL_snoc (l : List UInt8) (x : UInt8) : bigL (l ++ [x]) = 256 * bigL l + x.toNat := by unfold bigL; rw [List.foldl_append]; rfl
theorem bigL_range (L : List UInt8) (p : Nat) : ∀ m, bigL ((List.range m).map fun i => L.getD (p + i) 0) = bigN L p m := by
  intro m
  induction m with
  | zero => rfl
  | succ m ih => rw [List.range_succ, List.map_append, List.map_cons, List.map_nil, bigL_snoc, ih, bigN]; rfl
theorem bigL_cut {L : List UInt8} {p m : Nat} (h : p + m ≤ L.length) : bigL ((L.drop p).take m) = bigN L p m := by rw [cut_list h, bigL_range]
theorem bigL_low {l : List UInt8} (h : l.length < 8) : bigL l < 72057594037927936 := by
  have key : ∀ n (l : List UInt8), l.length = n → bigL l < 256 ^ n := by
    intro n
    induction n with
    | zero => intro l h; rw [List.eq_nil_of_length_eq_zero h]; decide
    | succ n ih =>
      intro l h
      obtain ⟨m, x, rfl⟩ : ∃ m x, l = m ++ [x] := ⟨l.dropLast, l.getLast (by intro e; rw [e] at h; cases h), (List.dropLast_concat_getLast _).symm⟩
      rw [List.length_append, List.length_cons, List.length_nil] at h
      have := ih m (by omega)
      have hx := x.toNat_lt
      rw [bigL_snoc, Nat.pow_succ]
      omega
  exact Nat.lt_of_lt_of_le (key _ l rfl) (Nat.pow_le_pow_right (by omega) (show l.length ≤ 7 by omega))
theorem take_next {L : List UInt8} {p j : Nat} (h : p + j < L.length) : (L.drop p).take (j + 1) = (L.drop p).take j ++ [L.getD (p + j) 0] := by
  rw [List.take_add_one, List.getElem?_drop, List.getElem?_eq_getElem h, List.getD_eq_getElem?_getD, List.getElem?_eq_getElem h]
  rfl

/-- What a round must keep for the iterator: the reader and the two variables that it has captured. -/
def KpN (rb b1 b2 : Nat) (W W' : World) : Prop := W.heap.size ≤ W'.heap.size ∧ W'.heap[rb]? = W.heap[rb]? ∧ W'.heap[b1]? = W.heap[b1]? ∧ W'.heap[b2]? = W.heap[b2]?
theorem KpN.trans {rb b1 b2 : Nat} {X Y Z : World} (h : KpN rb b1 b2 X Y) (k : KpN rb b1 b2 Y Z) : KpN rb b1 b2 X Z := ⟨Nat.le_trans h.1 k.1, k.2.1.trans h.2.1, k.2.2.1.trans h.2.2.1, k.2.2.2.trans h.2.2.2⟩
theorem But.box {rb c : Nat} {w w' : World} {t : TypeId} {v : Value} (h : But rb w w') (hc : Boxed w c t v) (hne : c ≠ rb) : Boxed w' c t v := by
  have hh : w.heap[c]? = some (.cells #[v] t (0, 0)) := hc
  exact (h.block c hc.lt hne).trans hh

set_option maxRecDepth 100000 in
set_option maxHeartbeats 4000000 in
theorem next1_in (k : Nat) (hn : 1 ≤ k) (l b1 b2 rb p m : Nat) (s : ByteArray) (hs : s.size ≤ 4000) (hm : m ≤ 8) (h1b : b1 ≠ rb) (h2b : b2 ≠ rb) (J : List UInt8 → World → Prop)
    (hJm : ∀ pre X Y, J pre X → But rb X Y → J pre Y)
    (hY : ∀ pre x W, J pre W → pre.length < m → YieldAt Fence.wide (k - 1) Tryz.prog l (encU x) W fun e W' => e = .returned (.bool true) ∧ J (pre ++ [x]) W' ∧ KpN rb b1 b2 W W')
    (W : World) (hc1 : Boxed W b1 3 (.int .i64 m)) (hc2 : Boxed W b2 128 (.pointer (some ⟨rb, 0, none⟩))) (hbr : BrAt W rb s p) (h0 : J [] W) :
    CallsIn Fence.wide k Tryz.prog 124 #[.func (.yield l) #[] #[], .pointer (some ⟨b1, 0, none⟩), .pointer (some ⟨b2, 0, none⟩)] W fun e W' =>
      ((∃ v, e = .returned v) ∧ ∃ xs, (xs = (s.data.toList.drop p).take m ∧ p + m ≤ s.size ∧ BrAt W' rb s (p + m)) ∧ J xs W') ∨ (e = gup ∧ ∃ pre, s.size < p + m ∧ J pre W') := by
  have hlen := len_is s
  have hp0 := hbr.le
  refine callsIn_of_wp Tryz.func124 rfl trivial ?_ rfl
  simp only [Tryz.ntmps124, List.size_toArray, List.length_cons, List.length_nil, Nat.reduceAdd, Nat.reduceSub, Array.replicate_succ, Array.replicate_zero, List.push_toArray, List.append_toArray, List.nil_append, List.cons_append]
  have d1 := hc1.cell
  have d2 := hc2.cell
  have HLEN := hideIt hlen
  clear hlen
  gi_wp2
  gi_loopw [5] (fun i wr => ∃ (j : Nat), j ≤ m ∧ i = .int .i64 j ∧ p + j ≤ s.size ∧ Hid (J ((s.data.toList.drop p).take j) wr) ∧ Hid (BrAt wr rb s (p + j)) ∧ Hid (Boxed wr b1 3 (.int .i64 m)) ∧ Hid (Boxed wr b2 128 (.pointer (some ⟨rb, 0, none⟩)))) (fun i _ => m - (intOf i).toNat)
  case atStart => exact ⟨0, by omega, rfl, by omega, h0, hbr, hc1, hc2⟩
  case round =>
    clear d1 d2
    obtain ⟨j, hj, rfl, hpj, HJ, HB, HC1, HC2⟩ := hrel
    have d2 := HC2.out.cell
    by_cases hjm : j < m
    · have hlt : (j : Int) < (m : Int) := by omega
      by_cases hend : p + j = s.size
      · have HN := hideIt (next_no (by rw [← hend]; exact HB.out) (by omega) (w := wr) (rb := rb))
        gi_wp2_with (refine ⟨trivial, ?_⟩; gi_at_call 55; refine (callsIn_wide.2 HN.out).mono ?_; rintro e w3 ⟨rfl, hb3, k3⟩)
        rename_i ch heq
        exact ⟨rfl, .inr ⟨heq.symm, _, by omega, hJm _ _ _ HJ.out k3⟩⟩
      · have hpl : p + j < s.size := by omega
        have HN := hideIt (next_yes HB.out hpl (by omega))
        obtain ⟨x, hx⟩ : ∃ x, s[p + j] = x := ⟨_, rfl⟩
        have HX : Hid ((s.data.toList.drop p).take (j + 1) = (s.data.toList.drop p).take j ++ [x]) := by
          rw [Hid, take_next (by rw [HLEN.out]; exact hpl), List.getD_eq_getElem?_getD, getK? hpl, ← hx]; rfl
        rw [hx] at HN
        have HY := hideIt (fun W h => hY ((s.data.toList.drop p).take j) x W h (by rw [List.length_take]; omega))
        unfold encU at HY
        clear hx hY
        gi_wp2_with (refine ⟨trivial, ?_⟩; gi_at_call 55; refine (callsIn_wide.2 HN.out).mono ?_; rintro e w3 ⟨rfl, hb3, k3⟩; obtain ⟨fn, tmps, assign, body, hy, hR⟩ := HY.out _ (hJm _ _ _ HJ.out k3))
        refine hR.mono ?_
        rintro e W4 ⟨rfl, hJ4, hk4⟩
        have HJ4 : Hid (J ((s.data.toList.drop p).take (j + 1)) W4) := by rw [Hid, HX.out]; exact hJ4
        have HB4 : Hid (BrAt W4 rb s (p + (j + 1))) := hb3.keep hk4.2.1 hk4.1
        have HC4 : Hid (Boxed W4 b1 3 (.int .i64 m)) := hk4.2.2.1.trans (k3.box HC1.out h1b)
        have HD4 : Hid (Boxed W4 b2 128 (.pointer (some ⟨rb, 0, none⟩))) := hk4.2.2.2.trans (k3.box HC2.out h2b)
        clear hR hy hJ4 hk4 hb3 k3
        gi_wp2
        go_roundw
        case rel => exact ⟨j + 1, by omega, by go_num, by omega, HJ4, HB4, HC4, HD4⟩
        case measure => simp [intOf]; omega
    · obtain rfl : j = m := by omega
      gi_wp2
      go_end0
      exact .inl ⟨⟨_, rfl⟩, _, ⟨rfl, hpj, HB.out⟩, HJ.out⟩

set_option maxHeartbeats 1000000 in
theorem nextBytes_in (k rb : Nat) (m : Int) (w : World) :
    CallsIn Fence.wide k Tryz.prog 121 #[.pointer (some ⟨rb, 0, none⟩), .int .i64 m] w fun e w' => e = .returned (.func (.func 124) #[] #[.pointer (some ⟨w.heap.size + 1, 0, none⟩), .pointer (some ⟨w.heap.size, 0, none⟩)]) ∧ w' = (w.alloc (.cells #[.pointer (some ⟨rb, 0, none⟩)] 128)).alloc (.cells #[.int .i64 m] 3) := by
  refine callsIn_of_wp Tryz.func121 rfl trivial ?_ rfl
  simp only [Tryz.ntmps121, List.size_toArray, List.length_cons, List.length_nil, Nat.reduceAdd, Nat.reduceSub, Array.replicate_succ, Array.replicate_zero, List.push_toArray, List.append_toArray, List.nil_append, List.cons_append]
  gi_wp2
  go_ret
  exact ⟨rfl, rfl⟩

theorem But.farN {rb : Nat} {w X Y : World} {row : Option Nat} (h : But rb w X) (hg : X.grownBy Y row) (hr : ∀ r, row = some r → w.heap.size ≤ r) : But rb w Y :=
  h.next ((Below.refl w.heap.size X).grown hg h.size hr)
theorem BrAt.far {rb p B : Nat} {s : ByteArray} {X Y : World} {row : Option Nat} (h : BrAt X rb s p) (hg : X.grownBy Y row) (hr : ∀ r, row = some r → B ≤ r) (hB : rb < B) : BrAt Y rb s p :=
  h.keep (hg.block rb h.lt (fun e => by have := hr rb e.symm; omega)) hg.size
theorem keeps_but {rb B : Nat} {X Y : World} (h : But rb X Y) (hB : rb < B) : KeepsFrom B X Y :=
  ⟨h.size, fun k o hk ho _ => (h.block k (Array.getElem?_eq_some_iff.1 ho).1 (by omega)).trans ho⟩

set_option maxRecDepth 100000 in
set_option maxHeartbeats 4000000 in
theorem readBits_any {rb p : Nat} {s : ByteArray} {w : World} (h : BrAt w rb s p) (hs : s.size ≤ 4000) (m : Nat) (hm : m ≤ 8) :
    Calls Tryz.prog 116 #[.pointer (some ⟨rb, 0, none⟩), .int .i64 m] w fun e w' => ((e = .returned (.int .u64 (bigN s.data.toList p m)) ∧ p + m ≤ s.size ∧ BrAt w' rb s (p + m)) ∨ (e = gup ∧ s.size < p + m)) ∧ But rb w w' := by
  have hlt := h.lt
  have hlen := len_is s
  refine (callsIn_wide (n := 6)).1 ?_
  refine callsIn_of_wp_marks Tryz.func116 rfl trivial ?_ rfl
  simp only [Tryz.ntmps116, List.size_toArray, List.length_cons, List.length_nil, Nat.reduceAdd, Nat.reduceSub, Array.replicate_succ, Array.replicate_zero, List.push_toArray, List.append_toArray, List.nil_append, List.cons_append]
  gi_wp2_with (refine ⟨trivial, ?_⟩; gi_at_call 121; refine (nextBytes_in _ _ _ _).mono ?_; rintro e w' ⟨rfl, rfl⟩)
  have R0 : BrAt (((w.alloc (.cells #[.int .u64 0] 136)).alloc (.cells #[.pointer (some ⟨rb, 0, none⟩)] 128)).alloc (.cells #[.int .i64 m] 3)) rb s p := ((h.below ((Below.refl _ _).alloc (Nat.le_refl _) _)).below ((Below.refl _ _).alloc (Nat.le_refl _) _)).below ((Below.refl _ _).alloc (Nat.le_refl _) _)
  have x1 : Boxed (((w.alloc (.cells #[.int .u64 0] 136)).alloc (.cells #[.pointer (some ⟨rb, 0, none⟩)] 128)).alloc (.cells #[.int .i64 m] 3)) w.heap.size 136 (.int .u64 0) := ((Boxed.new w _ _).alloc _).alloc _
  have x2 : Boxed (((w.alloc (.cells #[.int .u64 0] 136)).alloc (.cells #[.pointer (some ⟨rb, 0, none⟩)] 128)).alloc (.cells #[.int .i64 m] 3)) (w.heap.size + 1) 128 (.pointer (some ⟨rb, 0, none⟩)) := by
    have := (Boxed.new (w.alloc (.cells #[.int .u64 0] 136)) 128 (.pointer (some ⟨rb, 0, none⟩))).alloc (.cells #[.int .i64 m] 3)
    rw [World.size_alloc] at this
    exact this
  have x3 : Boxed (((w.alloc (.cells #[.int .u64 0] 136)).alloc (.cells #[.pointer (some ⟨rb, 0, none⟩)] 128)).alloc (.cells #[.int .i64 m] 3)) (w.heap.size + 1 + 1) 3 (.int .i64 m) := by
    have := Boxed.new ((w.alloc (.cells #[.int .u64 0] 136)).alloc (.cells #[.pointer (some ⟨rb, 0, none⟩)] 128)) 3 (.int .i64 m)
    rw [World.size_alloc, World.size_alloc] at this
    exact this
  have B0 : But rb w (((w.alloc (.cells #[.int .u64 0] 136)).alloc (.cells #[.pointer (some ⟨rb, 0, none⟩)] 128)).alloc (.cells #[.int .i64 m] 3)) := But.of_below ((((Below.refl _ w).alloc (Nat.le_refl _) _).alloc (by simp) _).alloc (by simp; omega) _)
  have sE : (((w.alloc (.cells #[.int .u64 0] 136)).alloc (.cells #[.pointer (some ⟨rb, 0, none⟩)] 128)).alloc (.cells #[.int .i64 m] 3)).heap.size = w.heap.size + 1 + 1 + 1 := by simp
  generalize (((w.alloc (.cells #[.int .u64 0] 136)).alloc (.cells #[.pointer (some ⟨rb, 0, none⟩)] 128)).alloc (.cells #[.int .i64 m] 3)) = W2 at *
  refine rangeFunc_moves (F := Fence.wide) (n := 6) rfl (by decide) (gf := 124) (lb := #[.pointer (some ⟨w.heap.size + 1 + 1, 0, none⟩), .pointer (some ⟨w.heap.size + 1, 0, none⟩)]) rfl trivial (enters_of Tryz.func124 (by kernel_rfl) rfl)
    (encs := encU) (Kp := KpN rb (w.heap.size + 1 + 1) (w.heap.size + 1)) (Mv := But rb) (S := fun xs W' => xs = (s.data.toList.drop p).take m ∧ p + m ≤ s.size ∧ BrAt W' rb s (p + m)) (Sp := fun _ _ => s.size < p + m) (N := m) (ch := [{ v := .iface 97 (.agg #[]), recovered := false }])
    ?seq (fun X Y hxy => keeps_but hxy (by omega)) ?own KpN.trans ?hKb (fun _ => rfl)
    (fun pre W => Boxed W w.heap.size 136 (.int .u64 (bigL pre)) ∧ But rb w W) ?hI ?hIm ⟨x1, B0⟩
    (fun x => { tmps := #[.pointer (some ⟨rb, 0, none⟩), .int .i64 m, undef, undef, .int .u64 0, .pointer (some ⟨w.heap.size, 0, none⟩), .int .u8 (x.toNat : Int), .pointer (some ⟨rb, 0, none⟩), .int .i64 m, .func (.func 124) #[] #[.pointer (some ⟨w.heap.size + 1 + 1, 0, none⟩), .pointer (some ⟨w.heap.size + 1, 0, none⟩)], .int .u8 (x.toNat : Int), undef, undef, undef, undef, undef, undef], defers := [] }) ?assign ?body ?done ?pan
  case seq =>
    intro l J W hbw hJ hY h0
    exact next1_in (6 - 1) (by decide) l (w.heap.size + 1 + 1) (w.heap.size + 1) rb p m s hs hm (by omega) (by omega) J hJ hY W ((hbw.block _ (by omega)).trans x3) ((hbw.block _ (by omega)).trans x2) (R0.keep (hbw.block _ (by omega)) hbw.size) h0
  case own =>
    rintro xs X Y row ⟨h1, h2, h3⟩ hg hr
    exact ⟨h1, h2, h3.far hg (fun r e => (hr r e).1) (by omega)⟩
  case hKb =>
    intro X k o o' hk ho _ _
    exact ⟨(grownBy_putObj' X k o').size, World.putObj_heap_other (by omega), World.putObj_heap_other (by omega), World.putObj_heap_other (by omega)⟩
  case hI =>
    rintro pre X Y row ⟨h1, h2⟩ hg hr
    exact ⟨h1.kept hg (fun e => by have := (hr _ e.symm).1; omega), h2.farN hg (fun r e => by have := (hr r e).1; omega)⟩
  case hIm =>
    rintro pre X Y ⟨h1, h2⟩ hxy
    exact ⟨hxy.box h1 (by omega), h2.trans hxy⟩
  case assign =>
    intro k x X K' hK'
    unfold encU
    gi_wp2
    exact hK'
  case body =>
    rintro k pre x X ⟨h1, h2⟩ hpl
    have c1 := h1.cell
    have c2 := h1.frozen
    have hv8 := bigL_low (l := pre) (by omega)
    have HNX := hideIt (bigL_snoc pre x)
    have HOR := hideIt (or_byte hv8 x.toNat_lt)
    have H1 := hideIt h1
    have H2 := hideIt h2
    obtain ⟨vj, hvj⟩ : ∃ v, bigL pre = v := ⟨_, rfl⟩
    have HPL := hideIt hpl
    rw [hvj] at hv8 HNX HOR c1
    have hx8 := x.toNat_lt
    obtain ⟨xn, hxn⟩ : ∃ v, x.toNat = v := ⟨_, rfl⟩
    rw [hxn] at HNX HOR hx8 ⊢
    clear h1 h2 hpl hvj hxn
    gi_wp2
    refine ⟨KeepsFrom.of_grownBy (grownBy_setCell' X _ _) (fun j e => by cases e; omega), ⟨by simp, Below.heap_setCell _ _ _ _ (by show rb ≠ w.heap.size; omega), Below.heap_setCell _ _ _ _ (by show w.heap.size + 1 + 1 ≠ w.heap.size; omega), Below.heap_setCell _ _ _ _ (by show w.heap.size + 1 ≠ w.heap.size; omega)⟩, ?_, H2.out.farN (grownBy_setCell' X _ _) (fun r e => by cases e; exact Nat.le_refl _)⟩
    rw [HNX.out, ← HOR.out]
    exact H1.out.set _
  case done =>
    rintro D ys X hD ⟨rfl, hfit, hbr⟩ ⟨h1, h2⟩ hK
    have c1 := h1.cell
    rw [bigL_cut (by omega)] at c1
    gi_wp2
    refine ⟨by simp, .inl ⟨_, _, rfl, run_takeDeferred hK, ?_⟩⟩
    exact ⟨_, by simp [results, Tryz.results116, go_sem], .inl ⟨rfl, hfit, hbr.far (grownBy_putObj' X D (.deferred none)) (fun r e => by cases e; exact hD) (by omega)⟩, h2.farN (grownBy_putObj' X D (.deferred none)) (fun r e => by cases e; omega)⟩
  case pan =>
    rintro D pre X hD hno ⟨h1, h2⟩ hK
    refine ⟨by simp, .inl ⟨_, _, rfl, run_takeDeferred hK, ?_⟩⟩
    exact ⟨.inr ⟨rfl, hno⟩, h2.farN (grownBy_putObj' X D (.deferred none)) (fun r e => by cases e; omega)⟩
end Go.Proofs.YtokhindolimchaaGreat

/-
  The program's sortedPlaces with strings.Compare: the places of texts, so that the texts rise.
-/
namespace Go.Proofs.YtokhindolimchaaGreat
open Go.RowKit
set_option linter.unusedSimpArgs false
set_option linter.unusedVariables false

theorem Sw.cell {g : Nat} {w w' : World} (h : Sw g w w') {b o : Nat} (hb : b < w.heap.size) (hg : b ≠ g) : w'.cell? ⟨b, o, none⟩ = w.cell? ⟨b, o, none⟩ := h.2.2.2.cell hb hg

set_option maxRecDepth 100000 in
set_option maxHeartbeats 3200000 in
theorem closure_any (B h g : Nat) (l : List ByteArray) (v : Value) (w0 : World) (hl : StrsAt B w0 v l) (h1 : w0.cell? ⟨h, 0, none⟩ = some v) (h2 : w0.cell? ⟨h + 1, 0, none⟩ = some (.func (.func 111) #[] #[])) (hh : h + 1 < w0.heap.size) (hg : h + 1 < g) (hB : B ≤ h) :
    CmpAt g l.length w0 (.pointer (some ⟨h + 1, 0, none⟩)) (.pointer (some ⟨h, 0, none⟩)) (cfK l) := by
  intro W hsw x y hx1 hx2 hy1 hy2
  obtain ⟨i, rfl⟩ : ∃ i : Nat, x = (i : Int) := ⟨x.toNat, by omega⟩
  obtain ⟨j, rfl⟩ : ∃ j : Nat, y = (j : Int) := ⟨y.toNat, by omega⟩
  obtain ⟨hln, _, a, cap, rfl, hc⟩ := hl
  obtain ⟨b, o, rfl, hb, hcc⟩ := hc (by omega)
  have d1 := (hsw.cell (show h < w0.heap.size by omega) (show h ≠ g by omega)).trans h1
  have d2 := (hsw.cell hh (show h + 1 ≠ g by omega)).trans h2
  have d3 := (hsw.cell (show b < w0.heap.size by omega) (show b ≠ g by omega)).trans (hcc i (by omega))
  have d4 := (hsw.cell (show b < w0.heap.size by omega) (show b ≠ g by omega)).trans (hcc j (by omega))
  have hi : i < l.length := by omega
  have hj : j < l.length := by omega
  have HE : Hid (cfK l (i : Int) (j : Int) = cmpS (keyAt l i) (keyAt l j)) := by rw [Hid, cfK, Int.toNat_natCast, Int.toNat_natCast]
  clear hcc hc h1 h2 hx1 hx2 hy1 hy2
  go_enter Tryz.func99, Tryz.ntmps99
  go_wp2_with fail
  go_quiet ((go_at_call 111; exact Calls.quiet_of_same (stringsCompare_any _ _ _)))
  go_wp2_with fail
  go_ret
  exact ⟨by rw [HE.out]; rfl, nq, rfl⟩

set_option maxHeartbeats 1600000 in
theorem sortStable_any (R : Int → Int → Prop) (cf : Int → Int → Int) (g N cap : Nat) (w0 : World) (c1 c2 : Value) (f : Nat → Int) (w : World) (h : AskedS R cf g N w0 c1 c2 f w) :
    Calls Tryz.prog 98 #[.slice (some ⟨g, 0, none⟩) N cap, .func (.func 99) #[] #[c1, c2]] w fun e w' => e = .returned (.tuple #[]) ∧ ∃ f', w'.rowIs g 3 N (nums f') ∧ Blk R f f' 0 N ∧ Sw g w0 w' := by
  have H := hideIt h
  have hNN := h.NN
  clear h
  go_enter Tryz.func98, Tryz.ntmps98
  go_wp2_with fail
  refine (stable_any R cf g N cap w0 c1 c2 f w H.out).mono ?_
  rintro e w1 ⟨rfl, f1, hr1, hm1, hs1⟩
  have HH := hideIt (And.intro hr1 (And.intro hm1 hs1))
  clear hr1 hm1 hs1
  go_wp2_with fail
  exact ⟨rfl, .tuple #[], results_none rfl _ _ _, rfl, f1, HH.out⟩

theorem cell_new1 (w : World) (v : Value) (t : TypeId) : (w.alloc (.cells #[v] t)).cell? ⟨w.heap.size, 0, none⟩ = some v := by
  have h := heap_alloc_new w (.cells #[v] t)
  unfold World.cell?
  simp only [h]
  rfl
theorem cell_more {w : World} {b o : Nat} {v : Value} (h : w.cell? ⟨b, o, none⟩ = some v) (hb : b < w.heap.size) (ob : Obj) : (w.alloc ob).cell? ⟨b, o, none⟩ = some v := (below_cell ((Below.refl w.heap.size w).alloc (Nat.le_refl _) ob) hb).trans h

theorem infoI : (Tryz.prog.info? 3).map (fun i => (i.zero, i.size, i.bytes)) = some (some (.int .i64 0), 1, 8) := by kernel_rfl

def fillN (k j : Nat) : Int := if j < k then (j : Int) else 0

set_option maxRecDepth 100000 in
set_option maxHeartbeats 3200000 in
theorem sortedPlaces_any (B : Nat) (v : Value) (l : List ByteArray) (w : World) (h : StrsAt B w v l) (hB : B ≤ w.heap.size) (hn : l.length ≤ 1048576) :
    Calls Tryz.prog 72 #[v, .func (.func 111) #[] #[]] w fun e w' => ∃ g f', e = .returned (.slice (some ⟨g, 0, none⟩) l.length l.length) ∧ w.heap.size ≤ g ∧ w'.rowIs g 3 l.length (nums f') ∧ Blk (RK l) (fun p => (p : Int)) f' 0 l.length ∧ Below w.heap.size w w' := by
  have H := hideIt h
  obtain ⟨_, _, a, cap, rfl, _⟩ := h
  obtain ⟨N, hN⟩ : ∃ N, l.length = N := ⟨_, rfl⟩
  have HN := hideIt hN
  rw [hN] at hn ⊢
  rw [hN] at H
  clear hN
  have hmk := run_make_row' (P := Tryz.prog) 117 3 (.int .i64 0) 8 Tryz.underlying117 infoI rfl .i64 .i64 N (by omega) (by omega)
  obtain ⟨W3, hW3⟩ : ∃ W3, W3 = ((w.alloc (.cells #[.slice a N cap] 37)).alloc (.cells #[.func (.func 111) #[] #[]] 119)).alloc (.cells (madeCells #[Value.int .i64 0] N) 3) := ⟨_, rfl⟩
  have hr0 : W3.rowIs (w.heap.size + 1 + 1) 3 N (nums (fillN 0)) := by
    have := World.rowIs_made ((w.alloc (.cells #[.slice a N cap] 37)).alloc (.cells #[.func (.func 111) #[] #[]] 119)) (.int .i64 0) N 3
    simp only [World.size_alloc] at this
    rw [hW3]
    exact this.congr fun j _ => by simp [nums, fillN]
  have d1 : W3.cell? ⟨w.heap.size, 0, none⟩ = some (.slice a N cap) := by
    rw [hW3]
    exact cell_more (cell_more (cell_new1 w _ _) (by rw [World.size_alloc]; omega) _) (by rw [World.size_alloc, World.size_alloc]; omega) _
  have d2 : W3.cell? ⟨w.heap.size + 1, 0, none⟩ = some (.func (.func 111) #[] #[]) := by
    rw [hW3]
    have := cell_new1 (w.alloc (.cells #[.slice a N cap] 37)) (.func (.func 111) #[] #[]) 119
    rw [World.size_alloc] at this
    exact cell_more this (by rw [World.size_alloc, World.size_alloc]; omega) _
  have HZ : Hid (W3.heap.size = w.heap.size + 1 + 1 + 1) := by rw [Hid, hW3]; simp
  have HBW : Hid (Below w.heap.size w W3) := by
    rw [Hid, hW3]
    exact (((Below.refl _ _).alloc (Nat.le_refl _) _).alloc (by simp) _).alloc (by simp; omega) _
  have HW3 := hideIt hW3
  have HR0 := hideIt hr0
  clear hW3 hr0
  go_enter Tryz.func72, Tryz.ntmps72
  go_wp2_with fail
  rw [← HW3.out]
  clear hmk
  go_loopw [12] (fun vi wr => ∃ k : Nat, k ≤ N ∧ vi = .int .i64 k ∧ wr.rowIs (w.heap.size + 1 + 1) 3 N (nums (fillN k)) ∧ Sw (w.heap.size + 1 + 1) W3 wr) (fun vi _ => N - (intOf vi).toNat)
  case atStart => exact ⟨0, Nat.zero_le _, rfl, HR0.out, Sw.refl _ _⟩
  case round =>
    obtain ⟨k, hk, rfl, hrow, hsw⟩ := hrel
    by_cases hlt : k < N
    · have c1 := hrow.cell hlt
      have f1 := hrow.frozen k
      have HNEW : Hid ((wr.setCell ⟨w.heap.size + 1 + 1, k, none⟩ (.int .i64 k)).rowIs (w.heap.size + 1 + 1) 3 N (nums (fillN (k + 1)))) := by
        refine (hrow.set k _).congr fun p _ => ?_
        unfold nums fillN
        by_cases e : p = k
        · subst e; rw [if_pos rfl, if_pos (by omega)]
        · rw [if_neg e]
          by_cases c : p < k
          · rw [if_pos c, if_pos (by omega)]
          · rw [if_neg c, if_neg (by omega)]
      have HSN := hideIt (hsw.set k (.int .i64 k))
      clear hrow hsw
      go_wp2_with fail
      go_roundw
      case rel => exact ⟨k + 1, by omega, by go_num, HNEW.out, HSN.out⟩
      case measure => simp [intOf]; omega
    · obtain rfl : k = N := by omega
      have HC1 := hideIt ((hsw.cell (show w.heap.size < W3.heap.size by rw [HZ.out]; omega) (by omega)).trans d1)
      have HC2 := hideIt ((hsw.cell (show w.heap.size + 1 < W3.heap.size by rw [HZ.out]; omega) (by omega)).trans d2)
      have HSZ : Hid (W3.heap.size ≤ wr.heap.size) := hsw.2.2.2.1
      have HBR : Hid (Below w.heap.size w wr) := HBW.out.trans (hsw.below (by omega) (by rw [HZ.out]; omega))
      have HCM : Hid (CmpAt (w.heap.size + 1 + 1) k wr (.pointer (some ⟨w.heap.size + 1, 0, none⟩)) (.pointer (some ⟨w.heap.size, 0, none⟩)) (cfK l)) := by
        have := closure_any B w.heap.size (w.heap.size + 1 + 1) l (.slice a k cap) wr (H.out.below (HBR.out.mono hB)) HC1.out HC2.out (by have := HSZ.out; rw [HZ.out] at this; omega) (by omega) hB
        rw [HN.out] at this
        exact this
      have HA : Hid (AskedS (RK l) (cfK l) (w.heap.size + 1 + 1) k wr (.pointer (some ⟨w.heap.size + 1, 0, none⟩)) (.pointer (some ⟨w.heap.size, 0, none⟩)) (fun p => (p : Int)) wr) :=
        ⟨rk_tot l, HCM.out, rk_cross l, hrow.congr fun p hp => by unfold nums fillN; rw [if_pos hp], Sw.refl _ _, fun p hp => ⟨by omega, by omega⟩, hn, fun p q h1 h2 => by omega⟩
      clear hrow hsw d1 d2
      go_wp2_with fail
      refine (sortStable_any (RK l) (cfK l) (w.heap.size + 1 + 1) k k wr _ _ (fun p => (p : Int)) wr HA.out).mono ?_
      rintro e w2 ⟨rfl, f2, hr2, hb2, hs2⟩
      have HFIN := hideIt (And.intro hr2 (And.intro hb2 (HBR.out.trans (hs2.below (by omega) (by have := HSZ.out; rw [HZ.out] at this; omega)))))
      clear hr2 hb2 hs2
      go_wp2_with fail
      go_ret
      exact ⟨_, f2, rfl, by omega, HFIN.out⟩
end Go.Proofs.YtokhindolimchaaGreat

/-
  Parts as pointers: how a tree of parts lies in memory, each part between two blocks, its rows its own. No walk.
-/
namespace Go.Proofs.YtokhindolimchaaGreat
open Go.RowKit
set_option linter.unusedSimpArgs false
set_option linter.unusedVariables false

/-- The blocks of one part itself. -/
def POwn (p : Nat) (ks it : Value) (x : Nat) : Prop := x = p ∨ ks.ownBlock = some x ∨ it.ownBlock = some x

theorem own_same {w w' : World} {base e s n : Nat} {v : Value} {xs : List Value} (h : w.ownsRow base e s v n xs) (hb : ∀ x, v.ownBlock = some x → w'.heap[x]? = w.heap[x]?) : w'.ownsRow base e s v n xs := by
  refine ⟨h.1, ?_⟩
  rcases h.2 with hn | ⟨g, cap, cur, rfl, hg, hgg, rest⟩
  · exact .inl hn
  · exact .inr ⟨g, cap, cur, rfl, hg, (hb g rfl).trans hgg, rest⟩

end Go.Proofs.YtokhindolimchaaGreat

/-
  The program's sortedMap: keys and items in the keys' order. What its rounds leave in memory.
-/
namespace Go.Proofs.YtokhindolimchaaGreat
open Go.RowKit
set_option linter.unusedSimpArgs false
set_option linter.unusedVariables false

/-- The keys, and the items, at the first k places. -/
def keysTo (l : List ByteArray) (f : Nat → Int) (k : Nat) : List Value := (List.range k).map fun j => .string (keyAt l (f j).toNat)
def itemsTo (V : Nat → Value) (f : Nat → Int) (k : Nat) : List Value := (List.range k).map fun j => V (f j).toNat
theorem keysTo_succ (l : List ByteArray) (f : Nat → Int) (k : Nat) : keysTo l f (k + 1) = keysTo l f k ++ [.string (keyAt l (f k).toNat)] := by simp [keysTo, List.range_succ]
theorem itemsTo_succ (V : Nat → Value) (f : Nat → Int) (k : Nat) : itemsTo V f (k + 1) = itemsTo V f k ++ [V (f k).toNat] := by simp [itemsTo, List.range_succ]

/-- The map's two rows, from block base on, n keys and m items; its variable lies in block q, which was there in w1. -/
structure SM (q base : Nat) (w1 wr : World) (n m : Nat) (ks is : List Value) (kv iv : Value) : Prop where
  row : wr.rowIs q 116 2 (fun j => if j = 0 then kv else iv)
  rk : wr.ownsRow base 9 1 kv n ks
  ri : wr.ownsRow base 54 1 iv m is
  sw : Sw q w1 wr
  bs : base ≤ w1.heap.size
  qb : q < base

theorem SM.c0 {q base n m : Nat} {w1 wr : World} {ks is : List Value} {kv iv : Value} (h : SM q base w1 wr n m ks is kv iv) : wr.cell? ⟨q, 0, none⟩ = some kv := h.row.cell (by omega)
theorem SM.c1 {q base n m : Nat} {w1 wr : World} {ks is : List Value} {kv iv : Value} (h : SM q base w1 wr n m ks is kv iv) : wr.cell? ⟨q, 1, none⟩ = some iv := h.row.cell (i := 1) (by omega)

theorem SM.drew {q base n m : Nat} {w1 wr : World} {ks is : List Value} {kv iv : Value} (h : SM q base w1 wr n m ks is kv iv) : SM q base w1 wr.drew n m ks is kv iv := ⟨h.row, h.rk, h.ri, h.sw.drew, h.bs, h.qb⟩

theorem SM.size {q base n m : Nat} {w1 wr : World} {ks is : List Value} {kv iv : Value} (h : SM q base w1 wr n m ks is kv iv) : w1.heap.size ≤ wr.heap.size := h.sw.2.2.2.1

theorem sw_grown {q base : Nat} {w1 wr w5 : World} {o : Obj} {row : Option Nat} (h : Sw q w1 wr) (hg : (wr.alloc o).grownBy w5 row) (hr : ∀ x, row = some x → w1.heap.size ≤ x) : Sw q w1 w5 := by
  have hb : Below w1.heap.size wr w5 := ((Below.refl _ _).alloc h.2.2.2.1 o).grown hg (by have := h.2.2.2.1; simp; omega) (fun x hx => hr x hx)
  exact ⟨hb.os.trans h.1, hb.tape.trans h.2.1, hb.output.trans h.2.2.1, Nat.le_trans h.2.2.2.1 hb.size, fun c h1 h2 => (hb.block c h1).trans (h.2.2.2.2 c h1 h2)⟩

/-- One more key. -/
theorem SM.key {q base n m : Nat} {w1 wr w5 : World} {ks is : List Value} {kv iv kv' u : Value} {o : Obj} (h : SM q base w1 wr n m ks is kv iv) (hb : base = w1.heap.size)
    (hg : (wr.alloc o).grownBy w5 kv.ownBlock) (hown : w5.ownsRow base 9 1 kv' (n + 1) (ks ++ [u])) : SM q base w1 (w5.setCell ⟨q, 0, none⟩ kv') (n + 1) m (ks ++ [u]) is kv' iv := by
  have hz := h.size
  have hqb := h.qb
  have far : ∀ x, x < wr.heap.size → kv.ownBlock ≠ some x → w5.heap[x]? = wr.heap[x]? := fun x hx hne => (hg.block x (by simp; omega) (fun e => hne e.symm)).trans (Below.block ((Below.refl wr.heap.size wr).alloc (Nat.le_refl _) o) x hx)
  have hkq : kv.ownBlock ≠ some q := fun e => by have := (h.rk.lt q e).1; omega
  have hrow5 : w5.rowIs q 116 2 (fun j => if j = 0 then kv else iv) := h.row.of_block (far q h.row.lt hkq)
  have hri5 : w5.ownsRow base 54 1 iv m is := own_same h.ri (fun x hx => by
    refine far x (h.ri.lt x hx).2 (fun e => ?_)
    rcases own_apart h.rk h.ri (by decide) with e2 | e2
    · rw [e2] at e; cases e
    · exact e2 (by rw [e, hx]))
  refine ⟨(hrow5.set 0 kv').congr fun j _ => ?_, ?_, ?_, ?_, h.bs, h.qb⟩
  · by_cases e : j = 0
    · rw [if_pos e, if_pos e]
    · rw [if_neg e, if_neg e, if_neg e]
  · exact own_set hown kv' (fun x hx e => by have := (hown.lt x hx).1; omega)
  · exact own_set hri5 kv' (fun x hx e => by have := (h.ri.lt x hx).1; omega)
  · exact (sw_grown (base := base) h.sw hg (fun x hx => by have := (h.rk.lt x hx).1; omega)).set 0 kv'

/-- One more item. -/
theorem SM.item {q base n m : Nat} {w1 wr w5 : World} {ks is : List Value} {kv iv iv' u : Value} {o : Obj} (h : SM q base w1 wr n m ks is kv iv) (hb : base = w1.heap.size)
    (hg : (wr.alloc o).grownBy w5 iv.ownBlock) (hown : w5.ownsRow base 54 1 iv' (m + 1) (is ++ [u])) : SM q base w1 (w5.setCell ⟨q, 1, none⟩ iv') n (m + 1) ks (is ++ [u]) kv iv' := by
  have hz := h.size
  have hqb := h.qb
  have far : ∀ x, x < wr.heap.size → iv.ownBlock ≠ some x → w5.heap[x]? = wr.heap[x]? := fun x hx hne => (hg.block x (by simp; omega) (fun e => hne e.symm)).trans (Below.block ((Below.refl wr.heap.size wr).alloc (Nat.le_refl _) o) x hx)
  have hkq : iv.ownBlock ≠ some q := fun e => by have := (h.ri.lt q e).1; omega
  have hrow5 : w5.rowIs q 116 2 (fun j => if j = 0 then kv else iv) := h.row.of_block (far q h.row.lt hkq)
  have hrk5 : w5.ownsRow base 9 1 kv n ks := own_same h.rk (fun x hx => by
    refine far x (h.rk.lt x hx).2 (fun e => ?_)
    rcases own_apart h.rk h.ri (by decide) with e2 | e2
    · rw [e2] at hx; cases hx
    · exact e2 (by rw [e, hx]))
  refine ⟨(hrow5.set 1 iv').congr fun j hj => ?_, ?_, ?_, ?_, h.bs, h.qb⟩
  · by_cases e : j = 1
    · rw [if_pos e, if_neg (by omega)]
    · rw [if_neg e, if_pos (by omega), if_pos (by omega)]
  · exact own_set hrk5 iv' (fun x hx e => by have := (h.rk.lt x hx).1; omega)
  · exact own_set hown iv' (fun x hx e => by have := (hown.lt x hx).1; omega)
  · exact (sw_grown (base := base) h.sw hg (fun x hx => by have := (h.ri.lt x hx).1; omega)).set 1 iv'
end Go.Proofs.YtokhindolimchaaGreat
