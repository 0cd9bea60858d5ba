/-
  What a reading of a text's front answers.
-/
import Derived.Test.YtokhindolimchaaGreatRdFr
import Derived.Test.YtokhindolimchaaGreatSit
import Derived.Test.YtokhindolimchaaGreatDrL
import Derived.Test.YtokhindolimchaaGreatNmT
namespace Go.Proofs.YtokhindolimchaaGreat
open Go.RowKit
set_option linter.unusedSimpArgs false
set_option linter.unusedVariables false

/-- A function from a text to nodes, how far it read, and whether it did. -/
def Fronts (F : FuncId) (s : ByteArray) (V : Option (List VN × Nat)) : Prop :=
  ∀ w, Calls Tryz.prog F #[.string s] w fun e w' => ∃ r base KV IV, e = .returned (.tuple #[r, .int .i64 (usedOf V), .bool V.isSome]) ∧ w.heap.size ≤ base ∧ base ≤ w'.heap.size ∧ Nest base w' r (nsOf V) KV IV ∧ Below w.heap.size w w'
end Go.Proofs.YtokhindolimchaaGreat

/-
  Plain: nodes that are small enough, and lists and maps of such.
-/
namespace Go.Proofs.YtokhindolimchaaGreat
open Go.RowKit
set_option linter.unusedSimpArgs false
set_option linter.unusedVariables false

structure SmN (c : Nat) (x : VN) : Prop where
  keysN : x.keys.length ≤ 80
  keysS : ∀ i, i < x.keys.length → (keyAt x.keys i).size ≤ 60
  kidsN : x.kids.length ≤ 80
  kids : ∀ j, j < x.kids.length → 0 ≤ intAt x.kids j ∧ intAt x.kids j < (c : Int)
  size : x.s.size ≤ 60
  kind : 0 ≤ x.kind ∧ x.kind ≤ 6
  num : -9223372036854775808 ≤ x.n ∧ x.n ≤ 9223372036854775807
def SmNs (vs : List VN) : Prop := 0 < vs.length ∧ vs.length ≤ 80 ∧ ∀ j, j < vs.length → SmN vs.length (nodeAt vs j)
theorem SmN.wide {c c' : Nat} {x : VN} (h : SmN c x) (hc : c ≤ c') : SmN c' x :=
  ⟨h.keysN, h.keysS, h.kidsN, fun j hj => by have := h.kids j hj; omega, h.size, h.kind, h.num⟩
theorem SmN.shift {c d c' : Nat} {x : VN} (h : SmN c x) (hc : c + d ≤ c') : SmN c' (shiftN (d : Int) x) := by
  refine ⟨h.keysN, h.keysS, by show (x.kids.map _).length ≤ 80; rw [List.length_map]; exact h.kidsN, fun j hj => ?_, h.size, h.kind, h.num⟩
  have hj' : j < x.kids.length := by have : j < (x.kids.map (· + (d : Int))).length := hj; rwa [List.length_map] at this
  have := h.kids j hj'
  show 0 ≤ intAt (x.kids.map (· + (d : Int))) j ∧ intAt (x.kids.map (· + (d : Int))) j < (c' : Int)
  rw [intAt_shift _ _ hj']
  omega
theorem sm_cat {m : Nat} {L : Nat → List VN} (h : ∀ i, i < m → SmNs (L i)) : ∀ i, i ≤ m → ∀ j, j < (catNs L i).length → SmN (catNs L i).length (nodeAt (catNs L i) j) := by
  intro i
  induction i with
  | zero => intro _ j hj; exact absurd hj (by simp [catNs])
  | succ i ih =>
    intro hi j hj
    have h2 := ih (by omega)
    have hL := h i (by omega)
    have hl := catNs_len L i
    rw [hl] at hj ⊢
    show SmN _ (nodeAt (catNs L i ++ (L i).map (shiftN ((catNs L i).length : Int))) j)
    by_cases e : j < (catNs L i).length
    · rw [nodeAt_l e]; exact (h2 j e).wide (by omega)
    · rw [nodeAt_r (by omega), nodeAt_sh (by omega)]
      exact (hL.2.2 _ (by omega)).shift (by omega)
theorem sm_make {m : Nat} {L : Nat → List VN} (h : ∀ i, i < m → SmNs (L i)) (hm : (catNs L m).length + 1 ≤ 80) {kind : Int} (hk1 : 0 ≤ kind) (hk2 : kind ≤ 6) {keys : List ByteArray} (hk : keys.length ≤ 80) (hks : ∀ i, i < keys.length → (keyAt keys i).size ≤ 60) : SmNs (makeNs kind keys L m) := by
  have h2 := sm_cat h m (Nat.le_refl _)
  have hmm : m ≤ (catNs L m).length := by rw [cat_sum]; exact sumL_many (fun i hi => (h i hi).1)
  have hl : (makeNs kind keys L m).length = (catNs L m).length + 1 := by unfold makeNs; simp
  refine ⟨by omega, by omega, fun j hj => ?_⟩
  rw [hl] at hj ⊢
  unfold makeNs
  by_cases e : j < (catNs L m).length
  · rw [nodeAt_l e]; exact (h2 j e).wide (by omega)
  · rw [nodeAt_r (by omega), show j - (catNs L m).length = 0 by omega]
    refine ⟨hk, hks, by show (catKs L m).length ≤ 80; rw [catKs_len]; omega, fun i hi => ?_, by show ByteArray.empty.size ≤ 60; decide, ⟨by show (0 : Int) ≤ kind; omega, by show kind ≤ 6; omega⟩, by show (-9223372036854775808 : Int) ≤ 0 ∧ (0 : Int) ≤ 9223372036854775807; decide⟩
    have hi' : i < m := by have : i < (catKs L m).length := hi; rwa [catKs_len] at this
    show 0 ≤ intAt (catKs L m) i ∧ intAt (catKs L m) i < _
    rw [catKs_at L m i hi']
    have h3 := catNs_len L i
    have h4 := (h i hi').1
    have h5 := catNs_mono L (show i + 1 ≤ m by omega)
    omega
theorem SmNs.few {vs : List VN} (h : SmNs vs) : Few vs ∧ ∀ j, j < vs.length → Fits (nodeAt vs j) := by
  refine ⟨⟨by have := h.2.1; omega, fun i hi => ?_⟩, fun j hj => ?_⟩
  · have := h.2.2 i hi; exact ⟨by have := this.keysN; omega, by have := this.kidsN; omega⟩
  · have hx := h.2.2 j hj
    exact ⟨by have := hx.keysN; omega, fun i hi => by have := hx.keysS i hi; omega, by have := hx.kidsN; omega, fun i hi => by have := hx.kids i hi; have := h.2.1; omega, by have := hx.size; omega, by have := hx.kind.1; omega, by have := hx.kind.2; omega, hx.num.1, hx.num.2⟩
theorem SmNs.near {vs : List VN} (h : SmNs vs) : 0 < vs.length ∧ ∀ j, j < vs.length → Near (nodeAt vs j) := by
  refine ⟨h.1, fun j hj => ?_⟩
  have hx := h.2.2 j hj
  exact ⟨by have := hx.keysN; omega, by have := hx.kidsN; omega, fun i hi => by have := hx.kids i hi; have := h.2.1; omega⟩
theorem sm_leaf {k n : Int} {s : ByteArray} (hk : 0 ≤ k ∧ k ≤ 6) (hn : -9223372036854775808 ≤ n ∧ n ≤ 9223372036854775807) (hs : s.size ≤ 60) : SmNs (leafN k n s) := by
  refine ⟨by simp [leafN], by simp [leafN], fun j hj => ?_⟩
  obtain rfl : j = 0 := by simp [leafN] at hj; omega
  exact ⟨by simp [leafN, nodeAt], fun i hi => absurd hi (by simp [leafN, nodeAt]), by simp [leafN, nodeAt], fun i hi => absurd hi (by simp [leafN, nodeAt]), by simpa [leafN, nodeAt] using hs, by simpa [leafN, nodeAt] using hk, by simpa [leafN, nodeAt] using hn⟩
end Go.Proofs.YtokhindolimchaaGreat

/-
  The specification's l3Rc: its place in memory, numbers in bytes and texts.
-/
namespace Go.Proofs.YtokhindolimchaaGreat
open Go.RowKit
set_option linter.unusedSimpArgs false
set_option linter.unusedVariables false

/-- The reader of the text 's' in block 'rb': behind 'p' bytes, spoilt or not, so many values so far. -/
structure ScAt (w : World) (rb : Nat) (s : ByteArray) (p : Nat) (bad : Bool) (c : Nat) : Prop where
  blk : w.heap[rb]? = some (.cells #[.string s, .int .i64 p, .bool bad, .int .i64 c] 49 (0, 0))
  le : p ≤ s.size
  few : c ≤ 100
theorem cellSc {w : World} {b i : Nat} {cs : Array Value} {T : TypeId} {z : Nat × Nat} {x : Value} (h : w.heap[b]? = some (.cells cs T z)) (hx : cs[i]? = some x) : w.cell? ⟨b, i, none⟩ = some x := by
  rw [Lib.cell_of_heap h]; exact hx
theorem ltH {w : World} {b : Nat} {o : Obj} (h : w.heap[b]? = some o) : b < w.heap.size := by
  rcases Nat.lt_or_ge b w.heap.size with h' | h'
  · exact h'
  · rw [Array.getElem?_eq_none h'] at h; cases h
theorem setH {w : World} {b i : Nat} {cs : Array Value} {T : TypeId} {z : Nat × Nat} (h : w.heap[b]? = some (.cells cs T z)) (u : Value) : (w.setCell ⟨b, i, none⟩ u).heap[b]? = some (.cells (cs.setIfInBounds i u) T z) := by
  simp [World.setCell, Array.getElem?_modify, h]
theorem ScAt.lt {w : World} {rb p c : Nat} {s : ByteArray} {bad : Bool} (h : ScAt w rb s p bad c) : rb < w.heap.size := ltH h.blk
theorem ScAt.cells {w : World} {rb p c : Nat} {s : ByteArray} {bad : Bool} (h : ScAt w rb s p bad c) : w.cell? ⟨rb, 0, none⟩ = some (.string s) ∧ w.cell? ⟨rb, 1, none⟩ = some (.int .i64 p) ∧ w.cell? ⟨rb, 2, none⟩ = some (.bool bad) ∧ w.cell? ⟨rb, 3, none⟩ = some (.int .i64 c) :=
  ⟨cellSc h.blk rfl, cellSc h.blk rfl, cellSc h.blk rfl, cellSc h.blk rfl⟩
theorem ScAt.free {w : World} {rb p c : Nat} {s : ByteArray} {bad : Bool} (h : ScAt w rb s p bad c) (i : Nat) : w.frozen? ⟨rb, i, none⟩ = false := Lib.frozen_of_heap h.blk i
theorem ScAt.keep {w w' : World} {rb p c : Nat} {s : ByteArray} {bad : Bool} (h : ScAt w rb s p bad c) (hb : w'.heap[rb]? = w.heap[rb]?) : ScAt w' rb s p bad c := ⟨hb.trans h.blk, h.le, h.few⟩
theorem ScAt.below {w w' : World} {rb p c : Nat} {s : ByteArray} {bad : Bool} (h : ScAt w rb s p bad c) (hb : Below w.heap.size w w') : ScAt w' rb s p bad c := h.keep (hb.block rb h.lt)
theorem ScAt.setP {w : World} {rb p c q : Nat} {s : ByteArray} {bad : Bool} (h : ScAt w rb s p bad c) (hq : q ≤ s.size) : ScAt (w.setCell ⟨rb, 1, none⟩ (.int .i64 q)) rb s q bad c := ⟨setH h.blk _, hq, h.few⟩
theorem ScAt.setB {w : World} {rb p c : Nat} {s : ByteArray} {bad : Bool} (h : ScAt w rb s p bad c) (x : Bool) : ScAt (w.setCell ⟨rb, 2, none⟩ (.bool x)) rb s p x c := ⟨setH h.blk _, h.le, h.few⟩
theorem ScAt.setN {w : World} {rb p c d : Nat} {s : ByteArray} {bad : Bool} (h : ScAt w rb s p bad c) (hd : d ≤ 100) : ScAt (w.setCell ⟨rb, 3, none⟩ (.int .i64 d)) rb s p bad d := ⟨setH h.blk _, h.le, hd⟩
/-- The reader has been spoilt. -/
def Spoilt (w : World) (rb : Nat) (s : ByteArray) (c : Nat) : Prop := ∃ p, ScAt w rb s p true c

set_option maxRecDepth 100000 in
set_option maxHeartbeats 3200000 in
theorem scBig_any {rb p c : Nat} {s : ByteArray} {bad : Bool} {w : World} (h : ScAt w rb s p bad c) (hs : s.size ≤ 4000) (m : Nat) (hm : 1 ≤ m) (hm8 : m ≤ 8) :
    Calls Tryz.prog 85 #[.pointer (some ⟨rb, 0, none⟩), .int .i64 m] w fun e w' => But rb w w' ∧
      ((∃ n q, bigS s.data.toList p m = some (n, q) ∧ e = .returned (.int .i64 n) ∧ ScAt w' rb s q bad c ∧ n ≤ 256000000000000255) ∨ (bigS s.data.toList p m = none ∧ e = .returned (.int .i64 (-1)) ∧ Spoilt w' rb s c)) := by
  have H := hideB h
  obtain ⟨c0, c1, c2, c3⟩ := h.cells
  have f1 := h.free 1
  have f2 := h.free 2
  have hle := h.le
  have hlen := len_is s
  have hrb := h.lt
  clear h
  by_cases hfit : p + m ≤ s.size
  rotate_left
  · have hgt : (s.size : Int) < (p : Int) + (m : Int) := by omega
    have HN : Hid (bigS s.data.toList p m = none) := by rw [Hid]; unfold bigS; rw [if_neg (fun h => hfit (by have := h.1; omega))]
    go_enter Tryz.func85, Tryz.ntmps85
    go_wp2_with fail
    go_quiet (fail)
    have HD1 := hideB (below_drewB (w := w) nq)
    have HR1 := hideB (H.out.below HD1.out)
    have k2 := HR1.out.free 2
    generalize w.drewN nq = W1 at HR1 HD1 k2 ⊢
    clear nq c0 c1 c2 c3 f1 f2
    have d2 := HR1.out.cells.2.2.1
    go_wp2_with fail
    go_ret
    exact ⟨(But.of_below HD1.out).trans (But.of_set _ _), .inr ⟨HN.out, rfl, p, HR1.out.setB true⟩⟩
  have hgt : ¬ (s.size : Int) < (p : Int) + (m : Int) := by omega
  have HGB : Hid (∀ k (h : k < s.size), byAt s.data.toList k = s[k].toNat) := fun k h => getB h
  have HBM : Hid (∀ j k, j ≤ k → bigN s.data.toList p j ≤ bigN s.data.toList p k) := fun j k h => bigN_mono _ _ h
  go_enter Tryz.func85, Tryz.ntmps85
  go_wp2_with fail
  go_quiet (fail)
  have HD1 := hideB (below_drewB (w := w) nq)
  have HR1 := hideB (H.out.below HD1.out)
  generalize w.drewN nq = W1 at HR1 HD1 ⊢
  clear nq c0 c1 c2 c3 f1 f2
  go_wp2_with fail
  go_loopw [5, 6] (fun n i wr => ∃ j : Nat, j ≤ m ∧ i = .int .i64 j ∧ n = .int .i64 (bigN s.data.toList p j) ∧ ScAt wr rb s p bad c ∧ But rb w wr ∧ (1 ≤ j → bigN s.data.toList p (j - 1) ≤ 1000000000000000)) (fun _ i _ => m - (intOf i).toNat)
  case atStart => exact ⟨0, Nat.zero_le _, rfl, rfl, HR1.out, But.of_below HD1.out, fun h => by omega⟩
  case round =>
    obtain ⟨j, hj, rfl, rfl, hsc, hbt, hpr⟩ := hrel
    have HSC := hideB hsc
    have HBT := hideB hbt
    obtain ⟨c0, c1, c2, c3⟩ := hsc.cells
    have f1 := hsc.free 1
    have f2 := hsc.free 2
    have hnb : bigN s.data.toList p j ≤ 256000000000000255 := by
      cases j with
      | zero => simp [bigN]
      | succ j => have := hpr (by omega); rw [Nat.add_sub_cancel] at this; have := byAt_lt s.data.toList (p + j); rw [bigN]; omega
    have HPR := hideB hpr
    clear hsc hbt hpr
    have HNX : Hid (bigN s.data.toList p (j + 1) = 256 * bigN s.data.toList p j + byAt s.data.toList (p + j)) := rfl
    obtain ⟨N, hN⟩ : ∃ N, bigN s.data.toList p j = N := ⟨_, rfl⟩
    have HNN := hideB hN
    rw [hN] at hnb HNX ⊢
    clear hN
    by_cases hlt : j < m
    · have hlt' : (j : Int) < (m : Int) := by omega
      by_cases hbig : 1000000000000000 < N
      · have hbig' : (1000000000000000 : Int) < (N : Int) := by omega
        have HNO : Hid (bigS s.data.toList p m = none) := by
          rw [Hid]; unfold bigS maxI
          rw [if_neg]
          intro h
          have := HBM.out j (m - 1) (by omega)
          have := HNN.out
          omega
        go_wp2_with fail
        go_ret
        exact ⟨HBT.out.trans (But.of_set _ _), .inr ⟨HNO.out, rfl, p, HSC.out.setB true⟩⟩
      · have hbig' : ¬ (1000000000000000 : Int) < (N : Int) := by omega
        have hpj : p + j < s.size := by omega
        have hpj' : (p : Int) + (j : Int) < (s.size : Int) := by omega
        have e1 : ((p : Int) + (j : Int)).toNat = p + j := by omega
        have hby := HGB.out (p + j) hpj
        have hb256 := byAt_lt s.data.toList (p + j)
        obtain ⟨B, hB⟩ : ∃ B, byAt s.data.toList (p + j) = B := ⟨_, rfl⟩
        rw [hB] at HNX hby hb256
        clear hB
        obtain ⟨y, hy⟩ : ∃ y, s[p + j] = y := ⟨_, rfl⟩
        rw [hy] at hby
        have HBY := hideB hby
        clear hby
        have hyl : y.toNat < 256 := y.toNat_lt
        go_wp2_with fail
        go_quiet (fail)
        have HD2 := hideB (below_drewB (w := wr) nq)
        have HR2 := hideB (HSC.out.below HD2.out)
        have HB2 := hideB (HBT.out.trans (But.of_below HD2.out))
        generalize wr.drewN nq = W2 at HR2 HD2 HB2 ⊢
        go_wp2_with fail
        refine ⟨⟨j + 1, by omega, by go_num, ?_, HR2.out, HB2.out, fun _ => by rw [Nat.add_sub_cancel, HNN.out]; omega⟩, by simp [intOf]; omega⟩
        rw [HNX.out, HBY.out]
        congr 1
    · obtain rfl : j = m := by omega
      have HYES : Hid (bigS s.data.toList p j = some (N, p + j)) := by
        rw [Hid]; unfold bigS maxI
        rw [if_pos ⟨by omega, HPR.out hm⟩, HNN.out]
      have e1 : ((p + j : Nat) : Int) = (p : Int) + (j : Int) := by omega
      have HSP := hideB (HSC.out.setP (q := p + j) hfit)
      rw [e1] at HSP
      go_wp2_with fail
      go_ret
      exact ⟨HBT.out.trans (But.of_set _ _), .inl ⟨N, p + j, HYES.out, rfl, HSP.out, hnb⟩⟩

set_option maxRecDepth 100000 in
set_option maxHeartbeats 3200000 in
theorem stake_yes {rb p c n : Nat} {s : ByteArray} {bad : Bool} {w : World} (h : ScAt w rb s p bad c) (hs : s.size ≤ 4000) (hn : n ≤ 60) (hp : p + n ≤ s.size) :
    Calls Tryz.prog 61 #[.pointer (some ⟨rb, 0, none⟩), .int .i64 n] w fun e w' => But rb w w' ∧ e = .returned (.string (cutT s.data.toList p n)) ∧ ScAt w' rb s (p + n) bad c := by
  have H := hideB h
  obtain ⟨c0, c1, c2, c3⟩ := h.cells
  have f1 := h.free 1
  have f2 := h.free 2
  clear h
  have g1 : ¬ (n : Int) < 0 := by omega
  have g2 : ¬ (60 : Int) < (n : Int) := by omega
  have g3 : ¬ (s.size : Int) < (p : Int) + (n : Int) := by omega
  have d1 : decide ((n : Int) < 0) = false := decide_eq_false g1
  have d2 : decide ((60 : Int) < (n : Int)) = false := by simpa using g2
  have d3 : decide ((s.size : Int) < (p : Int) + (n : Int)) = false := by simpa using g3
  have e1 : ((p + n : Nat) : Int) = (p : Int) + (n : Int) := by omega
  go_enter Tryz.func61, Tryz.ntmps61
  go_wp2_with fail
  go_quiet (fail)
  have HD1 := hideB (below_drewB (w := w) nq)
  have HR1 := hideB (H.out.below HD1.out)
  obtain ⟨k0, k1, k2, k3⟩ := HR1.out.cells
  have l1 := HR1.out.free 1
  generalize w.drewN nq = W1 at HR1 HD1 k0 k1 k2 k3 l1 ⊢
  clear nq c0 c1 c2 c3 f1 f2
  have HR2 := hideB (HR1.out.setP hp)
  have HB2 := hideB ((But.of_below (rb := rb) HD1.out).trans (But.of_set 1 (.int .i64 ((p : Int) + (n : Int)))))
  rw [e1] at HR2
  go_wp2_with fail
  obtain ⟨m0, m1, m2, m3⟩ := HR2.out.cells
  rw [e1] at m1
  generalize W1.setCell ⟨rb, 1, none⟩ (.int .i64 ((p : Int) + (n : Int))) = W2 at HR2 m0 m1 m2 m3 HB2 ⊢
  clear k0 k1 k2 k3 l1
  have e2 : (p : Int) + (n : Int) - (n : Int) = (p : Int) := by omega
  have hcut : ∀ w, (Instr.slice 9 (.string s) (some (.int .i64 (p : Int))) (some (.int .i64 ((p : Int) + (n : Int)))) none).run Tryz.prog w = .ok (.string (cutT s.data.toList p n)) w := fun w => by
    have := run_cut (P := Tryz.prog) (t := 9) s p (p + n) Tryz.underlying9 (by omega) hp w
    rw [e1, Nat.add_sub_cancel_left] at this
    exact this
  go_quiet (fail)
  have HD3 := hideB (below_drewB (w := W2) nq)
  have HR3 := hideB (HR2.out.below HD3.out)
  generalize W2.drewN nq = W3 at HR3 HD3 ⊢
  go_wp2_with fail
  go_ret
  exact ⟨HB2.out.trans (But.of_below HD3.out), rfl, HR3.out⟩

set_option maxRecDepth 100000 in
set_option maxHeartbeats 3200000 in
theorem stake_no {rb p c : Nat} {n : Int} {s : ByteArray} {bad : Bool} {w : World} (h : ScAt w rb s p bad c) (hs : s.size ≤ 4000) (hn : n < 0 ∨ 60 < n ∨ (s.size : Int) < p + n) (hn2 : -2 ≤ n) (hn3 : n ≤ 300000000000000000) :
    Calls Tryz.prog 61 #[.pointer (some ⟨rb, 0, none⟩), .int .i64 n] w fun e w' => But rb w w' ∧ e = .returned (.string ⟨#[]⟩) ∧ ScAt w' rb s p true c := by
  have H := hideB h
  obtain ⟨c0, c1, c2, c3⟩ := h.cells
  have f1 := h.free 1
  have f2 := h.free 2
  have hle := h.le
  clear h
  by_cases g1 : n < 0
  focus
    have d1 : decide (n < 0) = true := by simpa using g1
    go_enter Tryz.func61, Tryz.ntmps61
    go_wp2_with fail
    go_quiet (fail)
  rotate_left
  focus
    have d1 : decide (n < 0) = false := by simpa using g1
    by_cases g2 : 60 < n
    focus
      have d2 : decide (60 < n) = true := by simpa using g2
      go_enter Tryz.func61, Tryz.ntmps61
      go_wp2_with fail
      go_quiet (fail)
    rotate_left
    focus
      have d2 : decide (60 < n) = false := by simpa using g2
      have g3 : (s.size : Int) < (p : Int) + n := by omega
      have d3 : decide ((s.size : Int) < (p : Int) + n) = true := by simpa using g3
      go_enter Tryz.func61, Tryz.ntmps61
      go_wp2_with fail
      go_quiet (fail)
  all_goals
    have HD1 := hideB (below_drewB (w := w) nq)
    have HR1 := hideB (H.out.below HD1.out)
    obtain ⟨k0, k1, k2, k3⟩ := HR1.out.cells
    have l2 := HR1.out.free 2
    generalize w.drewN nq = W1 at HR1 HD1 k0 k1 k2 k3 l2 ⊢
    clear nq c0 c1 c2 c3 f1 f2
    go_wp2_with fail
    go_ret
    exact ⟨(But.of_below HD1.out).trans (But.of_set _ _), rfl, HR1.out.setB true⟩
end Go.Proofs.YtokhindolimchaaGreat
