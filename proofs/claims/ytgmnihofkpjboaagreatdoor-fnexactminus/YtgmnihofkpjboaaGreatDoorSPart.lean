/-
  The specification's part of a value: nodes from the part's first on, in new memory.
-/
import Derived.Test.YtgmnihofkpjboaaGreatDoorStbA
import Derived.Test.YtgmnihofkpjboaaGreatDoorStbB
import Derived.Test.YtgmnihofkpjboaaGreatDoorSpc3
import Derived.Test.YtgmnihofkpjboaaGreatDoorTree
namespace Go.Proofs.YtgmnihofkpjboaaGreatDoor
open Go.RowKit
set_option linter.unusedSimpArgs false
set_option linter.unusedVariables false

theorem run_snoc (vs : List VN) (d : Int) (a n : Nat) : run vs d a (n + 1) = run vs d a n ++ [shiftN d (nodeAt vs (a + n))] := by
  rw [← run_append]; simp [run]

theorem own_below {w w' : World} {base e s n : Nat} {v : Value} {xs : List Value} {B : Nat} (h : w.ownsRow base e s v n xs) (hb : Below B w w') (hB : ∀ x, v.ownBlock = some x → x < B) : w'.ownsRow base e s v n xs := by
  refine ⟨h.1, ?_⟩
  rcases h.2 with hn | ⟨g, cap, cur, rfl, hg, hgg, rest⟩
  · exact .inl hn
  · exact .inr ⟨g, cap, cur, rfl, hg, (hb.block g (hB g rfl)).trans hgg, rest⟩

theorem Nest.below {base : Nat} {w w' : World} {v : Value} {vs : List VN} {KV IV : Nat → Value} (h : Nest base w v vs KV IV) (hb : Below w.heap.size w w') : Nest base w' v vs KV IV :=
  ⟨own_below h.row hb (fun x hx => (h.row.lt x hx).2), fun i hi => own_below (h.rk i hi) hb (fun x hx => ((h.rk i hi).lt x hx).2), fun i hi => own_below (h.ri i hi) hb (fun x hx => ((h.ri i hi).lt x hx).2), h.dkk, h.dii⟩

theorem newcell (w : World) (cs : Array Value) (t b j : Nat) (v : Value) (hb : b = w.heap.size) (h : cs[j]? = some v) : (w.alloc (.cells cs t)).cell? ⟨b, j, none⟩ = some v := by
  subst hb
  rw [cell_of_row _ _ j cs t (0, 0) (heap_alloc_new w _)]; exact h

theorem own_mono {w : World} {base base' e s n : Nat} {v : Value} {xs : List Value} (h : w.ownsRow base e s v n xs) (hb : base' ≤ base) : w.ownsRow base' e s v n xs := by
  refine ⟨h.1, ?_⟩
  rcases h.2 with hn | ⟨g, cap, cur, rfl, hg, rest⟩
  · exact .inl hn
  · exact .inr ⟨g, cap, cur, rfl, by omega, rest⟩

theorem own_set {w : World} {base e s n : Nat} {v : Value} {xs : List Value} (h : w.ownsRow base e s v n xs) {b o : Nat} (u : Value) (hne : ∀ x, v.ownBlock = some x → x ≠ b) : (w.setCell ⟨b, o, none⟩ u).ownsRow base e s v n xs := by
  refine ⟨h.1, ?_⟩
  rcases h.2 with hn | ⟨g, cap, cur, rfl, hg, hgg, rest⟩
  · exact .inl hn
  · exact .inr ⟨g, cap, cur, rfl, hg, (Below.heap_setCell w _ u g (hne g rfl)).trans hgg, rest⟩

def shifted (l : List Int) (d : Int) (k : Nat) : List Value := (l.take k).map (fun q => .int .i64 (q + d))
theorem shifted_zero (l : List Int) (d : Int) : shifted l d 0 = [] := by simp [shifted]
theorem shifted_succ {l : List Int} {d : Int} {k : Nat} (h : k < l.length) : shifted l d (k + 1) = shifted l d k ++ [.int .i64 (intAt l k + d)] := by
  unfold shifted
  rw [List.take_add_one, List.map_append, List.getElem?_eq_getElem h, intAt_get h]
  simp
theorem shifted_all (l : List Int) (d : Int) : shifted l d l.length = (l.map (· + d)).map (.int .i64) := by simp [shifted]

theorem own_slice {w : World} {base e s n : Nat} {v : Value} {xs : List Value} (h : w.ownsRow base e s v n xs) : ∃ a c, v = .slice a n c := by
  rcases h.2 with ⟨rfl, rfl⟩ | ⟨g, cap, cur, rfl, _⟩
  · exact ⟨_, _, rfl⟩
  · exact ⟨_, _, rfl⟩

set_option maxRecDepth 100000 in
set_option maxHeartbeats 6400000 in
theorem l1Part_any (B : Nat) (v : Value) (vs : List VN) (n a h' : Nat) (w : World) (h : NodesAt B w v vs) (hB : B ≤ w.heap.size) (h80 : vs.length ≤ 80) (hkids : ∀ k, k < vs.length → kidsIn vs k = true ∧ (nodeAt vs k).kids.length ≤ 80 ∧ (nodeAt vs k).keys.length ≤ 80) (hn : n < vs.length) (htr : tr (kidsOf vs) n = some (a, h')) :
    Calls Tryz.prog 43 #[v, .int .i64 n] w fun e w' => ∃ r KV IV, e = .returned r ∧ Nest w.heap.size w' r (run vs (-(a : Int)) a (n + 1 - a)) KV IV ∧ Below w.heap.size w w' := by
  have HV := hideIt h
  obtain ⟨hlen, av, cap, rfl, hcell⟩ := h
  obtain ⟨b0, o0, rfl, hb0, hc⟩ := hcell (by omega)
  have HC := hideIt hc
  have HK := hideIt hkids
  have han := tr_le htr
  simp at han
  have HF : Hid (trF (tr (kidsOf vs) n) = (a : Int)) := by rw [Hid, htr]; rfl
  obtain ⟨i0, hi0, hz0, hs0, hy0⟩ := info_parts infoNode
  obtain ⟨i1, hi1, hz1, hs1, hy1⟩ := info_parts infoStr
  obtain ⟨i2, hi2, hz2, hs2, hy2⟩ := info_parts infoInt
  clear hcell hc hkids htr
  go_enter Tryz.func43, Tryz.ntmps43
  go_wp2_with fail
  refine (l1Tree_any B _ vs vs.length n _ hn hn HV.out).mono ?_
  rintro e w1 ⟨rfl, rfl⟩
  obtain ⟨w, rfl⟩ : ∃ w, w = w1 := ⟨_, rfl⟩
  rw [HF.out]
  go_wp2_with fail
  have hb1 : Below w.heap.size w (w.alloc (.cells #[] 37)) := (Below.refl _ _).alloc (Nat.le_refl _) _
  have hn0 : Nest w.heap.size (w.alloc (.cells #[] 37)) (.slice (some ⟨w.heap.size, 0, none⟩) 0 0) (run vs (-(a : Int)) a 0) (fun _ => undef) (fun _ => undef) :=
    ⟨World.ownsRow_lit w #[] 0 (Nat.le_refl _) (by simp [maxLen]) rfl, fun i hi => absurd hi (by simp [run]), fun i hi => absurd hi (by simp [run]), fun i j hi => absurd hi (by simp [run]), fun i j hi => absurd hi (by simp [run])⟩
  go_loopw [7, 8] (fun o i wr => ∃ (c : Nat) (KV IV : Nat → Value), a ≤ c ∧ c ≤ n + 1 ∧ i = .int .i64 c ∧ Nest w.heap.size wr o (run vs (-(a : Int)) a (c - a)) KV IV ∧ Below w.heap.size w wr) (fun _ i _ => n + 1 - (intOf i).toNat)
  case atStart => exact ⟨a, _, _, Nat.le_refl _, by omega, rfl, by rw [Nat.sub_self]; exact hn0, hb1⟩
  case round =>
    obtain ⟨c, KV, IV, hac, hcn, rfl, hnest, hbl⟩ := hrel
    clear hb1 hn0
    have HN := hideIt hnest
    have zs := hbl.size
    obtain ⟨ao, co, rfl⟩ := own_slice hnest.row
    by_cases hlt : c ≤ n
    · obtain ⟨ka, ki, hn1⟩ := HC.out c (by omega)
      have hn2 := hn1.below (hbl.mono hB) hb0
      have c0 := hn2.c0
      have c1 := hn2.c1
      have c2 := hn2.c2
      have c3 := hn2.c3
      have c4 := hn2.c4
      obtain ⟨_, _, aK, cK, eK, hkk⟩ := hn2.inn.keys
      obtain ⟨_, hkb, aI, cI, eI, hki⟩ := hn2.inn.kids
      subst eK eI
      have HKK := hideIt hkk
      have HKI := hideIt hki
      have kk := HK.out c (by omega)
      clear hn1 hn2 hkk hki hnest
      have hown1 : (((wr.alloc (.cells #[.int .i64 (nodeAt vs c).kind, .int .i64 (nodeAt vs c).n, .string (nodeAt vs c).s, .slice aK (nodeAt vs c).keys.length cK, .slice aI (nodeAt vs c).kids.length cI] 37)).alloc (.cells #[] 9))).ownsRow w.heap.size 9 1 (.slice (some ⟨wr.heap.size + 1, 0, none⟩) 0 0) 0 [] := by
        have := World.ownsRow_lit (base := w.heap.size) (e := 9) (size := 1) (wr.alloc (.cells #[.int .i64 (nodeAt vs c).kind, .int .i64 (nodeAt vs c).n, .string (nodeAt vs c).s, .slice aK (nodeAt vs c).keys.length cK, .slice aI (nodeAt vs c).kids.length cI] 37)) #[] 0 (by simp; omega) (by simp [maxLen]) rfl
        simpa using this
      have hx0 : (((wr.alloc (.cells #[.int .i64 (nodeAt vs c).kind, .int .i64 (nodeAt vs c).n, .string (nodeAt vs c).s, .slice aK (nodeAt vs c).keys.length cK, .slice aI (nodeAt vs c).kids.length cI] 37)).alloc (.cells #[] 9))).cell? ⟨wr.heap.size, 0, none⟩ = some (.int .i64 (nodeAt vs c).kind) := by simp
      have hx1 : (((wr.alloc (.cells #[.int .i64 (nodeAt vs c).kind, .int .i64 (nodeAt vs c).n, .string (nodeAt vs c).s, .slice aK (nodeAt vs c).keys.length cK, .slice aI (nodeAt vs c).kids.length cI] 37)).alloc (.cells #[] 9))).cell? ⟨wr.heap.size, 1, none⟩ = some (.int .i64 (nodeAt vs c).n) := by simp
      have hx2 : (((wr.alloc (.cells #[.int .i64 (nodeAt vs c).kind, .int .i64 (nodeAt vs c).n, .string (nodeAt vs c).s, .slice aK (nodeAt vs c).keys.length cK, .slice aI (nodeAt vs c).kids.length cI] 37)).alloc (.cells #[] 9))).cell? ⟨wr.heap.size, 2, none⟩ = some (.string (nodeAt vs c).s) := by simp
      have hx3 : (((wr.alloc (.cells #[.int .i64 (nodeAt vs c).kind, .int .i64 (nodeAt vs c).n, .string (nodeAt vs c).s, .slice aK (nodeAt vs c).keys.length cK, .slice aI (nodeAt vs c).kids.length cI] 37)).alloc (.cells #[] 9))).cell? ⟨wr.heap.size, 3, none⟩ = some (.slice aK (nodeAt vs c).keys.length cK) := by simp
      have hx4 : (((wr.alloc (.cells #[.int .i64 (nodeAt vs c).kind, .int .i64 (nodeAt vs c).n, .string (nodeAt vs c).s, .slice aK (nodeAt vs c).keys.length cK, .slice aI (nodeAt vs c).kids.length cI] 37)).alloc (.cells #[] 9))).cell? ⟨wr.heap.size, 4, none⟩ = some (.slice aI (nodeAt vs c).kids.length cI) := by simp
      have hfz : ∀ j, (((wr.alloc (.cells #[.int .i64 (nodeAt vs c).kind, .int .i64 (nodeAt vs c).n, .string (nodeAt vs c).s, .slice aK (nodeAt vs c).keys.length cK, .slice aI (nodeAt vs c).kids.length cI] 37)).alloc (.cells #[] 9))).frozen? ⟨wr.heap.size, j, none⟩ = false := fun j => by simp
      have hw1 : Below wr.heap.size wr (((wr.alloc (.cells #[.int .i64 (nodeAt vs c).kind, .int .i64 (nodeAt vs c).n, .string (nodeAt vs c).s, .slice aK (nodeAt vs c).keys.length cK, .slice aI (nodeAt vs c).kids.length cI] 37)).alloc (.cells #[] 9))) := ((Below.refl _ _).alloc (Nat.le_refl _) _).alloc (by simp) _
      have hS1 : (((wr.alloc (.cells #[.int .i64 (nodeAt vs c).kind, .int .i64 (nodeAt vs c).n, .string (nodeAt vs c).s, .slice aK (nodeAt vs c).keys.length cK, .slice aI (nodeAt vs c).kids.length cI] 37)).alloc (.cells #[] 9))).heap.size = wr.heap.size + 1 + 1 := by simp
      have HX := hideIt (And.intro hx0 (And.intro hx1 (And.intro hx2 (And.intro hx3 (And.intro hx4 hfz)))))
      have HW1 := hideIt hw1
      have HS1 := hideIt hS1
      have HOWN := hideIt hown1
      have HSRC : Hid (0 < (nodeAt vs c).keys.length → ∃ ad, aK = some ad ∧ ∀ j u, ((nodeAt vs c).keys.map Value.string)[j]? = some u → (((wr.alloc (.cells #[.int .i64 (nodeAt vs c).kind, .int .i64 (nodeAt vs c).n, .string (nodeAt vs c).s, .slice aK (nodeAt vs c).keys.length cK, .slice aI (nodeAt vs c).kids.length cI] 37)).alloc (.cells #[] 9))).cell? (ad.add j) = some u) := by
        intro hp
        obtain ⟨bk, ok, rfl, hbk, hck⟩ := HKK.out hp
        refine ⟨_, rfl, fun j u hj => ?_⟩
        have hj' : j < (nodeAt vs c).keys.length := by have := (List.getElem?_eq_some_iff.1 hj).1; simpa using this
        rw [show (⟨bk, ok, none⟩ : Addr).add j = ⟨bk, ok + j, none⟩ by simp [Addr.add], below_cell hw1 (by omega), hck j hj']
        simp [hj', keyAt] at hj ⊢
        exact hj
      clear hx0 hx1 hx2 hx3 hx4 hfz hw1 hS1 hown1
      go_wp2_with (at_builtin; refine wpList_append_src rfl _ _ 32 rfl w.heap.size 9 i1 (.string ByteArray.empty) 1 16 Tryz.underlying32 hi1 hz1 hs1 hy1 rfl (by decide) _ 0 [] rfl HOWN.out aK (nodeAt vs c).keys.length cK ((nodeAt vs c).keys.map .string) rfl (by simp) HSRC.out ?c2 ?c3 ?c4 ?c5 ?_)
      case c2 => intro u hu; obtain ⟨q, _, rfl⟩ := List.mem_map.1 hu; rfl
      case c3 => unfold maxLen; omega
      case c4 => omega
      case c5 => simp; omega
      intro v' w2 hk2 hg2 hat2
      (try simp only [Nat.zero_add, List.nil_append] at hk2)
      have hat3 : v'.ownBlock = some (wr.heap.size + 1) ∨ v'.ownBlock = some (wr.heap.size + 1 + 1) := by
        rcases hat2 with e | e
        · exact Or.inl e
        · exact Or.inr (by first | exact e | rw [e, HS1.out])
      obtain ⟨g2, p2, rfl⟩ : ∃ g p, v' = .slice (some ⟨g, 0, none⟩) (nodeAt vs c).keys.length p := by
        rcases hk2.2 with ⟨rfl, _⟩ | ⟨g, p, cur, rfl, _⟩
        · simp [Value.ownBlock] at hat3
        · exact ⟨g, p, rfl⟩
      have hg2b : g2 = wr.heap.size + 1 ∨ g2 = wr.heap.size + 1 + 1 := by simpa [Value.ownBlock] using hat3
      have hb2 : Below wr.heap.size wr w2 := HW1.out.grown hg2 (by rw [HS1.out]; omega) (fun r hr => by simp [Value.ownBlock] at hr; omega)
      have hg2l := (hk2.lt g2 rfl).2
      have z2 := hb2.size
      have hgs := hg2.size
      rw [HS1.out] at hgs
      have hne : some wr.heap.size ≠ (Value.slice (some ⟨wr.heap.size + 1, 0, none⟩) 0 0).ownBlock := by simp [Value.ownBlock]
      have y0 := hg2.cell HX.out.1 hne
      have y1 := hg2.cell HX.out.2.1 hne
      have y2 := hg2.cell HX.out.2.2.1 hne
      have y3 := hg2.cell HX.out.2.2.2.1 hne
      have y4 := hg2.cell HX.out.2.2.2.2.1 hne
      have yf : ∀ j, w2.frozen? ⟨wr.heap.size, j, none⟩ = false := fun j => (World.frozen?_of_block (hg2.block wr.heap.size (by rw [HS1.out]; omega) hne)).trans (HX.out.2.2.2.2.2 j)
      have HB2 := hideIt hb2
      have HK2 := hideIt hk2
      have HG2 := hideIt hg2b
      clear hk2 hg2 hat2 hat3 hg2b hne c0 c1 c2 c3 c4
      have HZ : Hid (((w2.setCell ⟨wr.heap.size, 3, none⟩ (.slice (some ⟨g2, 0, none⟩) (nodeAt vs c).keys.length p2)).alloc (.cells #[] 2)).cell? ⟨wr.heap.size, 0, none⟩ = some (.int .i64 (nodeAt vs c).kind) ∧ ((w2.setCell ⟨wr.heap.size, 3, none⟩ (.slice (some ⟨g2, 0, none⟩) (nodeAt vs c).keys.length p2)).alloc (.cells #[] 2)).cell? ⟨wr.heap.size, 1, none⟩ = some (.int .i64 (nodeAt vs c).n) ∧ ((w2.setCell ⟨wr.heap.size, 3, none⟩ (.slice (some ⟨g2, 0, none⟩) (nodeAt vs c).keys.length p2)).alloc (.cells #[] 2)).cell? ⟨wr.heap.size, 2, none⟩ = some (.string (nodeAt vs c).s) ∧
          ((w2.setCell ⟨wr.heap.size, 3, none⟩ (.slice (some ⟨g2, 0, none⟩) (nodeAt vs c).keys.length p2)).alloc (.cells #[] 2)).cell? ⟨wr.heap.size, 3, none⟩ = some (.slice (some ⟨g2, 0, none⟩) (nodeAt vs c).keys.length p2) ∧ ((w2.setCell ⟨wr.heap.size, 3, none⟩ (.slice (some ⟨g2, 0, none⟩) (nodeAt vs c).keys.length p2)).alloc (.cells #[] 2)).cell? ⟨wr.heap.size, 4, none⟩ = some (.slice aI (nodeAt vs c).kids.length cI) ∧ ∀ j, ((w2.setCell ⟨wr.heap.size, 3, none⟩ (.slice (some ⟨g2, 0, none⟩) (nodeAt vs c).keys.length p2)).alloc (.cells #[] 2)).frozen? ⟨wr.heap.size, j, none⟩ = false) := by
        have hal : ∀ j, ((w2.setCell ⟨wr.heap.size, 3, none⟩ (.slice (some ⟨g2, 0, none⟩) (nodeAt vs c).keys.length p2)).alloc (.cells #[] 2)).cell? ⟨wr.heap.size, j, none⟩ = (w2.setCell ⟨wr.heap.size, 3, none⟩ (.slice (some ⟨g2, 0, none⟩) (nodeAt vs c).keys.length p2)).cell? ⟨wr.heap.size, j, none⟩ := fun j => below_cell ((Below.refl _ _).alloc (Nat.le_refl _) _) (by simp; omega)
        refine ⟨?_, ?_, ?_, ?_, ?_, fun j => ?_⟩
        · rw [hal, World.cell?_setCell_other _ _ _ _ (by simp)]; exact y0
        · rw [hal, World.cell?_setCell_other _ _ _ _ (by simp)]; exact y1
        · rw [hal, World.cell?_setCell_other _ _ _ _ (by simp)]; exact y2
        · rw [hal]; exact World.cell?_setCell_same _ _ _ y3
        · rw [hal, World.cell?_setCell_other _ _ _ _ (by simp)]; exact y4
        · have hb : ((w2.setCell ⟨wr.heap.size, 3, none⟩ (.slice (some ⟨g2, 0, none⟩) (nodeAt vs c).keys.length p2)).alloc (.cells #[] 2)).heap[wr.heap.size]? = (w2.setCell ⟨wr.heap.size, 3, none⟩ (.slice (some ⟨g2, 0, none⟩) (nodeAt vs c).keys.length p2)).heap[wr.heap.size]? := ((Below.refl _ (w2.setCell ⟨wr.heap.size, 3, none⟩ (.slice (some ⟨g2, 0, none⟩) (nodeAt vs c).keys.length p2))).alloc (Nat.le_refl _) _).block _ (by simp; omega)
          rw [World.frozen?_of_block (a := ⟨wr.heap.size, j, none⟩) hb, World.frozen?_setCell]; exact yf j
      have HB3 : Hid (Below wr.heap.size wr ((w2.setCell ⟨wr.heap.size, 3, none⟩ (.slice (some ⟨g2, 0, none⟩) (nodeAt vs c).keys.length p2)).alloc (.cells #[] 2))) := (HB2.out.setCell (p := ⟨wr.heap.size, 3, none⟩) (Nat.le_refl _) _).alloc (by simp; omega) _
      have HK3 : Hid (((w2.setCell ⟨wr.heap.size, 3, none⟩ (.slice (some ⟨g2, 0, none⟩) (nodeAt vs c).keys.length p2)).alloc (.cells #[] 2)).ownsRow w.heap.size 9 1 (.slice (some ⟨g2, 0, none⟩) (nodeAt vs c).keys.length p2) (nodeAt vs c).keys.length ((nodeAt vs c).keys.map .string)) := by
        have h1 : Below (wr.heap.size + 1) w2 w2 := Below.refl _ _
        refine World.ownsRow.alloc ?_ _
        refine ⟨HK2.out.1, ?_⟩
        rcases HK2.out.2 with ⟨e, _⟩ | ⟨g, p, cur, e, q1, q2, q3⟩
        · simp at e
        · have eg : g2 = g := by simpa [Value.ownBlock] using (congrArg Value.ownBlock e)
          exact Or.inr ⟨g, p, cur, e, q1, (Below.heap_setCell w2 _ _ g (by rw [← eg]; rcases HG2.out with x | x <;> simp [x] <;> omega)).trans q2, q3⟩
      have HI3 : Hid (((w2.setCell ⟨wr.heap.size, 3, none⟩ (.slice (some ⟨g2, 0, none⟩) (nodeAt vs c).keys.length p2)).alloc (.cells #[] 2)).ownsRow w2.heap.size 2 1 (.slice (some ⟨w2.heap.size, 0, none⟩) 0 0) 0 []) := by
        have := World.ownsRow_lit (base := w2.heap.size) (e := 2) (size := 1) (w2.setCell ⟨wr.heap.size, 3, none⟩ (.slice (some ⟨g2, 0, none⟩) (nodeAt vs c).keys.length p2)) #[] 0 (by simp) (by simp [maxLen]) rfl
        rw [Hid]; simpa using this
      have HS3 : Hid (((w2.setCell ⟨wr.heap.size, 3, none⟩ (.slice (some ⟨g2, 0, none⟩) (nodeAt vs c).keys.length p2)).alloc (.cells #[] 2)).heap.size = w2.heap.size + 1) := by rw [Hid]; simp
      have f3 := yf 3
      go_wp2_with fail
      generalize ((w2.setCell ⟨wr.heap.size, 3, none⟩ (.slice (some ⟨g2, 0, none⟩) (nodeAt vs c).keys.length p2)).alloc (.cells #[] 2)) = W3 at *
      have z3 : w2.heap.size < W3.heap.size := by have := HS3.out; omega
      clear y0 y1 y2 y3 y4 yf f3 HX HW1 HOWN HSRC HS1
      obtain ⟨W0, rfl⟩ : ∃ W0, W0 = wr := ⟨_, rfl⟩
      go_loopw [10, 11] (fun it i wr => ∃ k : Nat, k ≤ (nodeAt vs c).kids.length ∧ i = .int .i64 k ∧ wr.ownsRow w2.heap.size 2 1 it k (shifted (nodeAt vs c).kids (-(a : Int)) k) ∧ Below w2.heap.size W3 wr) (fun _ i _ => (nodeAt vs c).kids.length - (intOf i).toNat)
      case atStart => exact ⟨0, Nat.zero_le _, rfl, by rw [shifted_zero]; exact HI3.out, Below.refl _ _⟩
      case round =>
        obtain ⟨k, hkl, rfl, hown, hbk⟩ := hrel
        have zk := hbk.size
        by_cases hkk : k < (nodeAt vs c).kids.length
        · obtain ⟨bk, ok, rfl, hbk', hck⟩ := HKI.out (by omega)
          have hkr := kidsIn_get kk.1 hkk
          obtain ⟨q, hq⟩ : ∃ q : Nat, intAt (nodeAt vs c).kids k = (q : Int) := ⟨(intAt (nodeAt vs c).kids k).toNat, by omega⟩
          have hqc : q < c := by omega
          have hcq : wr.cell? ⟨bk, ok + k, none⟩ = some (.int .i64 (q : Int)) := by
            rw [← hq]; exact (below_cell hbk (by omega)).trans ((below_cell HB3.out (by omega)).trans (hck k hkk))
          have z4 := (below_cell (o := 4) hbk (show W0.heap.size < w2.heap.size by omega)).trans HZ.out.2.2.2.2.1
          have HQ : Hid (shifted (nodeAt vs c).kids (-(a : Int)) (k + 1) = shifted (nodeAt vs c).kids (-(a : Int)) k ++ [.int .i64 ((q : Int) - (a : Int))]) := by
            rw [Hid, shifted_succ hkk, hq]; rfl
          have HBK := hideIt hbk
          clear hck hq hkr
          go_wp2_with (at_builtin; refine wpList_append_own _ rfl _ _ 33 rfl w2.heap.size 2 i2 (.int .i64 0) 1 8 Tryz.underlying33 hi2 hz2 hs2 hy2 rfl (by decide) _ _ _ rfl (hown.alloc _) ⟨wr.heap.size, 0, none⟩ 1 1 [.int .i64 ((q : Int) - (a : Int))] rfl rfl ?c1 ?c2 ?c3 ?c4 ?c5 ?_)
          case c1 =>
            intro j u hj
            match j, hj with
            | 0, hj => simp at hj; subst hj; simp [Addr.add]
          case c2 => intro u hu; simp at hu; subst hu; rfl
          case c3 => unfold maxLen; omega
          case c4 => omega
          case c5 => simp; omega
          intro v' w5 hown' hgrow _
          have hb5 : Below w2.heap.size W3 w5 := (HBK.out.alloc (by omega) _).grown hgrow (by simp; omega) (fun r hr => by
            rcases hown.2 with ⟨rfl, _⟩ | ⟨g, cp, cu, rfl, hbg, _⟩
            · simp [Value.ownBlock] at hr
            · simp [Value.ownBlock] at hr; omega)
          rw [← HQ.out] at hown'
          clear hgrow hown
          go_wp2_with fail
          go_roundw
          case rel => exact ⟨k + 1, by omega, by go_num, hown', hb5⟩
          case measure => simp [intOf]; omega
        · obtain rfl : k = (nodeAt vs c).kids.length := by omega
          obtain ⟨ai, ci, rfl⟩ := own_slice hown
          have hs5 := hbk.size
          have nb2 : W0.heap.size < w2.heap.size := by omega
          have hb5 : Below W0.heap.size W0 wr := HB3.out.trans (hbk.mono (by omega))
          have u0 := (below_cell (o := 0) hbk nb2).trans HZ.out.1
          have u1 := (below_cell (o := 1) hbk nb2).trans HZ.out.2.1
          have u2 := (below_cell (o := 2) hbk nb2).trans HZ.out.2.2.1
          have u3 := (below_cell (o := 3) hbk nb2).trans HZ.out.2.2.2.1
          have u4 := (below_cell (o := 4) hbk nb2).trans HZ.out.2.2.2.2.1
          have uf : wr.frozen? ⟨W0.heap.size, 4, none⟩ = false := (World.frozen?_of_block (hbk.block W0.heap.size nb2)).trans (HZ.out.2.2.2.2.2 4)
          have x0 := (World.cell?_setCell_other wr ⟨W0.heap.size, 4, none⟩ ⟨W0.heap.size, 0, none⟩ (.slice ai (nodeAt vs c).kids.length ci) (by simp)).trans u0
          have x1 := (World.cell?_setCell_other wr ⟨W0.heap.size, 4, none⟩ ⟨W0.heap.size, 1, none⟩ (.slice ai (nodeAt vs c).kids.length ci) (by simp)).trans u1
          have x2 := (World.cell?_setCell_other wr ⟨W0.heap.size, 4, none⟩ ⟨W0.heap.size, 2, none⟩ (.slice ai (nodeAt vs c).kids.length ci) (by simp)).trans u2
          have x3 := (World.cell?_setCell_other wr ⟨W0.heap.size, 4, none⟩ ⟨W0.heap.size, 3, none⟩ (.slice ai (nodeAt vs c).kids.length ci) (by simp)).trans u3
          have x4 := World.cell?_setCell_same wr ⟨W0.heap.size, 4, none⟩ (.slice ai (nodeAt vs c).kids.length ci) u4
          have HB6 : Hid (Below W0.heap.size W0 (wr.setCell ⟨W0.heap.size, 4, none⟩ (.slice ai (nodeAt vs c).kids.length ci))) := hb5.setCell (Nat.le_refl _) _
          have HN6 := hideIt ((HN.out.below HB6.out).below ((Below.refl _ (wr.setCell ⟨W0.heap.size, 4, none⟩ (.slice ai (nodeAt vs c).kids.length ci))).alloc (Nat.le_refl _) (.cells #[.int .i64 (nodeAt vs c).kind, .int .i64 (nodeAt vs c).n, .string (nodeAt vs c).s, .slice (some ⟨g2, 0, none⟩) (nodeAt vs c).keys.length p2, .slice ai (nodeAt vs c).kids.length ci] 37)))
          have HOW := hideIt hown
          have hrl : (run vs (-(a : Int)) a (c - a)).length ≤ 80 := by rw [run_length]; omega
          clear hown
          go_wp2_with (at_builtin; refine wpList_append_own _ rfl _ _ 24 rfl w.heap.size 37 i0 zeroNode 5 80 Tryz.underlying24 hi0 hz0 hs0 hy0 rfl (by decide) _ _ _ rfl HN6.out.row ⟨wr.heap.size, 0, none⟩ 1 1 [.int .i64 (nodeAt vs c).kind, .int .i64 (nodeAt vs c).n, .string (nodeAt vs c).s, .slice (some ⟨g2, 0, none⟩) (nodeAt vs c).keys.length p2, .slice ai (nodeAt vs c).kids.length ci] rfl rfl ?c1 ?c2 ?c3 ?c4 ?c5 ?_)
          case c1 =>
            intro j u hj
            have hj5 : j < 5 := by have := (List.getElem?_eq_some_iff.1 hj).1; simpa using this
            rw [show (⟨wr.heap.size, 0, none⟩ : Addr).add j = ⟨wr.heap.size, j, none⟩ by simp [Addr.add]; omega]
            exact newcell _ _ _ _ j u (by simp) (by simpa using hj)
          case c2 => intro u hu; simp at hu; rcases hu with rfl | rfl | rfl | rfl | rfl <;> rfl
          case c3 => unfold maxLen; omega
          case c4 => omega
          case c5 => simp; omega
          intro v' w6 hown' hgrow _
          have hkA := own_set (own_below HK3.out hbk (fun x hx => by simp [Value.ownBlock] at hx; omega)) (b := W0.heap.size) (o := 4) (.slice ai (nodeAt vs c).kids.length ci) (fun x hx => by simp [Value.ownBlock] at hx; have := HG2.out; omega)
          have hiA := own_set (own_mono HOW.out (show w.heap.size ≤ w2.heap.size by omega)) (b := W0.heap.size) (o := 4) (.slice ai (nodeAt vs c).kids.length ci) (fun x hx => by have := (HOW.out.lt x hx).1; omega)
          rw [shifted_all] at hiA
          have hnew := Nest.snoc (x := shiftN (-(a : Int)) (nodeAt vs c)) HN6.out (hkA.alloc _) (by simpa [shiftN] using hiA.alloc _)
            (fun i hi y hy h2 => by have := ((HN.out.rk i hi).lt y h2).2; have := HG2.out; simp [Value.ownBlock] at hy; omega)
            (fun i hi y hy h2 => by have := ((HN.out.ri i hi).lt y h2).2; have := (HOW.out.lt y hy).1; omega) hown' hgrow
          have hbn : Below w.heap.size w w6 := ((hbl.trans (HB6.out.mono zs)).alloc (by simp; omega) _).grown hgrow (by simp; omega) (fun r hr => (HN.out.row.lt r hr).1)
          have hrun : run vs (-(a : Int)) a (c - a) ++ [shiftN (-(a : Int)) (nodeAt vs c)] = run vs (-(a : Int)) a (c + 1 - a) := by rw [show c + 1 - a = (c - a) + 1 by omega, run_snoc, show a + (c - a) = c by omega]
          rw [hrun] at hnew
          clear hgrow hown' hkA hiA hrun
          go_wp2_with fail
          go_roundw
          case rel => exact ⟨c + 1, _, _, by omega, by omega, by go_num, hnew, hbn⟩
          case measure => simp [intOf]; omega
    · obtain rfl : c = n + 1 := by omega
      go_wp2_with fail
      go_ret
      exact ⟨_, KV, IV, rfl, HN.out, hbl⟩
end Go.Proofs.YtgmnihofkpjboaaGreatDoor
