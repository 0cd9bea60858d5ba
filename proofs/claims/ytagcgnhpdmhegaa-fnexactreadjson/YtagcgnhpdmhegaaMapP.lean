/-
  spec.l1Make: the nodes of all parts, and a root behind them.
-/
import Derived.Test.YtagcgnhpdmhegaaSAdd
import Derived.Test.YtagcgnhpdmhegaaBrM
import Derived.Test.YtagcgnhpdmhegaaGotP
import Derived.Test.YtagcgnhpdmhegaaSPart
import Derived.Test.YtagcgnhpdmhegaaSortQ
namespace Go.Proofs.Ytagcgnhpdmhegaa
open Go.RowKit
set_option linter.unusedSimpArgs false
set_option linter.unusedVariables false

def catNs (L : Nat → List VN) : Nat → List VN
  | 0 => []
  | i + 1 => catNs L i ++ (L i).map (shiftN ((catNs L i).length : Int))
def catKs (L : Nat → List VN) : Nat → List Int
  | 0 => []
  | i + 1 => catKs L i ++ [((catNs L (i + 1)).length : Int) - 1]
def makeNs (kind : Int) (keys : List ByteArray) (L : Nat → List VN) (m : Nat) : List VN := catNs L m ++ [{ kind := kind, n := 0, s := ByteArray.empty, keys := keys, kids := catKs L m }]

theorem catKs_len (L : Nat → List VN) : ∀ i, (catKs L i).length = i := by
  intro i
  induction i with
  | zero => rfl
  | succ i ih => simp [catKs, ih]
theorem catNs_len (L : Nat → List VN) (i : Nat) : (catNs L (i + 1)).length = (catNs L i).length + (L i).length := by simp [catNs]
theorem catNs_mono (L : Nat → List VN) {i j : Nat} (h : i ≤ j) : (catNs L i).length ≤ (catNs L j).length := by
  induction j with
  | zero => obtain rfl : i = 0 := by omega
            exact Nat.le_refl _
  | succ j ih =>
    rcases Nat.lt_or_ge i (j + 1) with e | e
    · have := ih (by omega)
      rw [catNs_len]
      omega
    · obtain rfl : i = j + 1 := by omega
      exact Nat.le_refl _

/-- Nodes and kids, each in a row of its own. -/
structure Duo (base : Nat) (w wr : World) (v kv : Value) (ns : List VN) (ks : List Int) (KV IV : Nat → Value) : Prop where
  nest : Nest base wr v ns KV IV
  kids : wr.ownsRow base 2 1 kv ks.length (ks.map (.int .i64))
  ki : ∀ j, j < ns.length → ∀ y, kv.ownBlock = some y → (IV j).ownBlock ≠ some y
  frame : Below base w wr

theorem Duo.laid {base : Nat} {w wr w' : World} {v v' kv : Value} {ns add : List VN} {ks : List Int} {KV IV KV' IV' : Nat → Value} (h : Duo base w wr v kv ns ks KV IV) (l : Laid base wr w' v v' ns add KV IV KV' IV') (hb : base ≤ wr.heap.size) : Duo base w w' v' kv (ns ++ add) ks KV' IV' := by
  refine ⟨l.1, h.kids.kept l.2.1 (own_apart h.kids h.nest.row (by decide)), fun j hj y hy => ?_, h.frame.grown l.2.1 hb (fun k hk => (h.nest.row.lt k hk).1)⟩
  by_cases e : j < ns.length
  · rw [(l.2.2.2.1 j e).2]; exact h.ki j e y hy
  · intro e2
    have := (l.2.2.2.2 j (by omega) (by simpa using hj)).2 y e2
    have := (h.kids.lt y hy).2
    omega

theorem Duo.kid {base : Nat} {w wr w5 : World} {v kv kv' : Value} {ns : List VN} {ks : List Int} {KV IV : Nat → Value} {o : Obj} {q : Int} (h : Duo base w wr v kv ns ks KV IV) (hb : base ≤ wr.heap.size)
    (hown : w5.ownsRow base 2 1 kv' (ks.length + 1) (ks.map (.int .i64) ++ [.int .i64 q])) (hg : (wr.alloc o).grownBy w5 kv.ownBlock) (hat : kv'.ownBlock = kv.ownBlock ∨ kv'.ownBlock = some (wr.heap.size + 1)) :
    Duo base w w5 v kv' ns (ks ++ [q]) KV IV := by
  have hg1 : wr.grownBy w5 kv.ownBlock := (World.grownBy_alloc wr o _).trans hg
  have hkk : ∀ i, i < ns.length → (IV i).ownBlock = none ∨ (IV i).ownBlock ≠ kv.ownBlock := by
    intro i hi
    cases e : kv.ownBlock with
    | none => cases e2 : (IV i).ownBlock with
      | none => exact Or.inl rfl
      | some y => exact Or.inr (by simp)
    | some y => exact Or.inr (h.ki i hi y e)
  refine ⟨h.nest.kept hg1 (own_apart h.nest.row h.kids (by decide)) (fun i hi => own_apart (h.nest.rk i hi) h.kids (by decide)) hkk, by simpa using hown, fun j hj y hy => ?_, h.frame.grown hg1 hb (fun k hk => (h.kids.lt k hk).1)⟩
  rcases hat with e | e
  · exact h.ki j hj y (e ▸ hy)
  · rw [e] at hy
    simp at hy
    intro e2
    have := ((h.nest.ri j hj).lt y e2).2
    omega

set_option maxRecDepth 100000 in
set_option maxHeartbeats 3200000 in
theorem l1Make_any (B : Nat) (kind : Int) (kv0 u : Value) (keys : List ByteArray) (m : Nat) (L : Nat → List VN) (w : World) (hks : StrsAt B w kv0 keys) (hu : RowsAt B w u m L) (hB : B ≤ w.heap.size) (hm : m ≤ 100000) (hkn : keys.length ≤ 100000) (hn : (catNs L m).length + 1 ≤ 100000) (hnear : ∀ i, i < m → 0 < (L i).length ∧ ∀ j, j < (L i).length → Near (nodeAt (L i) j)) :
    Calls Try.prog 39 #[.int .i64 kind, kv0, u] w fun e w' => ∃ r KV IV, e = .returned r ∧ Nest w.heap.size w' r (makeNs kind keys L m) KV IV ∧ Below w.heap.size w w' := by
  have HU := hideIt hu
  have HKS := hideIt hks
  have HNR := hideIt hnear
  obtain ⟨_, au, cu, rfl, hcu⟩ := hu
  obtain ⟨_, _, aK, cK, rfl, hck⟩ := hks
  have HCU := hideIt hcu
  clear hcu hck hnear
  obtain ⟨i0, hi0, hz0, hs0, hy0⟩ := info_parts infoNode
  obtain ⟨i1, hi1, hz1, hs1, hy1⟩ := info_parts infoStr
  obtain ⟨i2, hi2, hz2, hs2, hy2⟩ := info_parts infoInt
  have hd0 : Duo w.heap.size w ((w.alloc (.cells #[] 42)).alloc (.cells #[] 2)) (.slice (some ⟨w.heap.size, 0, none⟩) 0 0) (.slice (some ⟨w.heap.size + 1, 0, none⟩) 0 0) (catNs L 0) (catKs L 0) (fun _ => undef) (fun _ => undef) := by
    refine ⟨⟨?_, fun i hi => absurd hi (by simp [catNs]), fun i hi => absurd hi (by simp [catNs]), fun i j hi => absurd hi (by simp [catNs]), fun i j hi => absurd hi (by simp [catNs])⟩, ?_, fun j hj => absurd hj (by simp [catNs]), ((Below.refl _ _).alloc (Nat.le_refl _) _).alloc (by simp) _⟩
    · exact (World.ownsRow_lit (base := w.heap.size) (e := 42) (size := 5) w #[] 0 (Nat.le_refl _) (by simp [maxLen]) rfl).alloc _
    · have := World.ownsRow_lit (base := w.heap.size) (e := 2) (size := 1) (w.alloc (.cells #[] 42)) #[] 0 (by simp) (by simp [maxLen]) rfl
      simpa [catKs] using this
  have HD0 := hideIt hd0
  clear hd0
  go_enter Try.func39, Try.ntmps39
  go_wp2_with fail
  go_loopw [7, 8, 9] (fun o kd i wr => ∃ (k : Nat) (KV IV : Nat → Value), k ≤ m ∧ i = .int .i64 k ∧ Duo w.heap.size w wr o kd (catNs L k) (catKs L k) KV IV) (fun _ _ i _ => m - (intOf i).toNat)
  case atStart => exact ⟨0, _, _, Nat.zero_le _, rfl, HD0.out⟩
  case round =>
    obtain ⟨k, KV, IV, hk, rfl, hduo⟩ := hrel
    have HD := hideIt hduo
    have zs := hduo.frame.size
    obtain ⟨ao, co, eo⟩ := own_slice hduo.nest.row
    obtain ⟨ai, ci, ei⟩ := own_slice hduo.kids
    obtain ⟨M, hM⟩ : ∃ M, (catNs L k).length = M := ⟨_, rfl⟩
    have HMM := hideIt hM
    have hMle : M ≤ (catNs L m).length := by rw [← hM]; exact catNs_mono L hk
    rw [hM] at eo
    rw [catKs_len] at ei
    subst eo ei
    clear hduo hM
    by_cases hlt : k < m
    · obtain ⟨b, rfl, hbB, hcell⟩ := HCU.out (by omega)
      obtain ⟨r, hcr, hnr⟩ := hcell k hlt
      have hcr' := (below_cell HD.out.frame (by omega)).trans hcr
      have HNK := hideIt (hnr.below (HD.out.frame.mono hB))
      obtain ⟨_, ar, cr, rfl, _⟩ := hnr
      have HL1 := hideIt (catNs_mono L (show k + 1 ≤ m by omega))
      have HLN := hideIt (catNs_len L k)
      obtain ⟨Lk, hLk⟩ : ∃ Lk, (L k).length = Lk := ⟨_, rfl⟩
      have HLK := hideIt hLk
      rw [hLk] at hcr'
      have hMb : M + Lk + 1 ≤ 100000 := by
        have h1 := HL1.out
        have h2 := HLN.out
        rw [HMM.out, hLk] at h2
        omega
      have HNK2 := hideIt HNK.out
      rw [hLk] at HNK2
      have hLp : 0 < Lk := by rw [← hLk]; exact (HNR.out k hlt).1
      clear hcell hcr hLk hMle
      go_wp2_with fail
      refine (l1Add_any B w.heap.size (.slice ao M co) (.slice ar Lk cr) (catNs L k) (L k) KV IV wr HD.out.nest HNK2.out hB zs (by rw [HMM.out, HLK.out]; omega) (HNR.out k hlt).2).mono ?_
      rintro e w3 ⟨v3, KV3, IV3, rfl, hl3⟩
      have hd3 := HD.out.laid hl3 zs
      have HD3 : Hid (Duo w.heap.size w w3 v3 (.slice ai k ci) (catNs L (k + 1)) (catKs L k) KV3 IV3) := hd3
      have z3 := HD3.out.frame.size
      obtain ⟨a3, c3, e3⟩ := own_slice HD3.out.nest.row
      obtain ⟨N, hN⟩ : ∃ N, (catNs L (k + 1)).length = N := ⟨_, rfl⟩
      have hN1 : N ≤ 100000 := by rw [← hN, HLN.out, HMM.out, HLK.out]; omega
      have hN0 : 1 ≤ N := by rw [← hN, HLN.out, HMM.out, HLK.out]; omega
      have HNN := hideIt hN
      rw [hN] at e3
      subst e3
      have HKD := hideIt HD3.out.kids
      rw [catKs_len] at HKD
      have HKS2 : Hid (catKs L (k + 1) = catKs L k ++ [(N : Int) - 1]) := by rw [Hid, ← HNN.out]; rfl
      clear hl3 hd3 hN
      go_wp2_with (at_builtin; refine wpList_append_own_at _ rfl _ _ 40 rfl w.heap.size 2 i2 (.int .i64 0) 1 8 Try.underlying40 hi2 hz2 hs2 hy2 rfl (by decide) _ _ _ rfl (HKD.out.alloc _) ⟨w3.heap.size, 0, none⟩ 1 1 [.int .i64 ((N : Int) - 1)] rfl rfl ?c1 ?c2 ?c3 ?c4 ?c5 ?_)
      case c1 => exact cell_one_new _ _ _
      case c2 => first | rfl | (intro u hu; simp at hu; subst hu; rfl)
      case c3 => unfold maxLen; omega
      case c4 => omega
      case c5 => first | omega | (simp; omega)
      intro kv' w5 hown hgrow _ hat
      have HD5 := hideIt (HD3.out.kid (by omega) (by rw [catKs_len]; exact hown) hgrow (by simpa using hat))
      clear hown hgrow hat
      go_wp2_with fail
      go_roundw
      case rel => exact ⟨k + 1, KV3, IV3, by omega, by go_num, by rw [HKS2.out]; exact HD5.out⟩
      case measure => simp [intOf]; omega
    · obtain rfl : k = m := by omega
      have HOWN : Hid ((wr.alloc (.cells #[] 9)).ownsRow w.heap.size 9 1 (.slice (some ⟨wr.heap.size, 0, none⟩) 0 0) 0 []) := World.ownsRow_lit wr #[] 0 zs (by simp [maxLen]) rfl
      have HSRC : Hid (0 < keys.length → ∃ ad, aK = some ad ∧ ∀ j u, (keys.map Value.string)[j]? = some u → (wr.alloc (.cells #[] 9)).cell? (ad.add j) = some u) := by
        intro hp
        obtain ⟨_, _, aK', cK', e, hck⟩ := HKS.out
        cases e
        obtain ⟨bk, ok, rfl, hbk, hcc⟩ := hck hp
        refine ⟨_, rfl, fun j u hj => ?_⟩
        have hj' : j < keys.length := by have := (List.getElem?_eq_some_iff.1 hj).1; simpa using this
        rw [show (⟨bk, ok, none⟩ : Addr).add j = ⟨bk, ok + j, none⟩ by simp [Addr.add], below_cell ((Below.refl _ wr).alloc (Nat.le_refl _) _) (by omega), below_cell HD.out.frame (by omega), hcc j hj']
        simp [hj', keyAt] at hj ⊢
        exact hj
      go_wp2_with (at_builtin; refine wpList_append_src rfl _ _ 39 rfl w.heap.size 9 i1 (.string ByteArray.empty) 1 16 Try.underlying39 hi1 hz1 hs1 hy1 rfl (by decide) _ 0 [] rfl HOWN.out aK keys.length cK (keys.map .string) rfl (by simp) HSRC.out ?c2 ?c3 ?c4 ?c5 ?_)
      case c2 => intro u hu; first | rfl | (obtain ⟨q, _, rfl⟩ := List.mem_map.1 hu; rfl)
      case c3 => unfold maxLen; omega
      case c4 => omega
      case c5 => first | omega | (simp; omega)
      intro vk w5 hk2 hg2 hat2
      (try simp only [Nat.zero_add, List.nil_append] at hk2)
      have hgg : wr.grownBy w5 none := (World.grownBy_alloc wr _ none).andThen hg2 (fun j hj => Or.inl (by simp [Value.ownBlock] at hj; omega))
      have nn : ∀ x : Option Nat, x = none ∨ x ≠ none := fun x => by cases x <;> simp
      have hnest5 := HD.out.nest.kept hgg (nn _) (fun _ _ => nn _) (fun _ _ => nn _)
      have hkids5 := HD.out.kids.kept hgg (nn _)
      have hb5 : Below w.heap.size w w5 := HD.out.frame.grown hgg zs (fun k hk => by cases hk)
      have HFK : Hid (∀ j, j < (catNs L k).length → ∀ y, vk.ownBlock = some y → (KV j).ownBlock ≠ some y) := by
        intro j hj y hy e
        have h1 := ((HD.out.nest.rk j hj).lt y e).2
        rcases hat2 with e2 | e2
        · rw [e2] at hy; simp [Value.ownBlock] at hy; omega
        · rw [e2] at hy; simp at hy; omega
      obtain ⟨ak, ck, hvk⟩ := own_slice hk2
      subst hvk
      have HN5 := hideIt hnest5
      have HK5 := hideIt hkids5
      have HV5 := hideIt hk2
      have HB5 := hideIt hb5
      have z5 := hb5.size
      have HROW := hideIt (hnest5.row.alloc (.cells #[.int .i64 kind, .int .i64 0, .string ⟨#[]⟩, .slice ak keys.length ck, .slice ai k ci] 42))
      rw [HMM.out] at HROW
      clear hnest5 hkids5 hb5 hk2 hg2 hat2 hgg nn HSRC HOWN
      go_wp2_with (at_builtin; go_loud (refine wpList_append_own_at _ rfl _ _ 22 rfl w.heap.size 42 i0 zeroNode 5 80 Try.underlying22 hi0 hz0 hs0 hy0 rfl (by decide) _ _ _ rfl HROW.out ⟨w5.heap.size, 0, none⟩ 1 1 [.int .i64 kind, .int .i64 0, .string ⟨#[]⟩, .slice ak keys.length ck, .slice ai k ci] rfl rfl ?c1 ?c2 ?c3 ?c4 ?c5 ?_))
      case c1 => exact news5_of _ _ _ _ _ _ _ (by simp)
      case c2 => intro u hu; simp at hu; rcases hu with rfl | rfl | rfl | rfl | rfl <;> rfl
      case c3 => unfold maxLen; omega
      case c4 => omega
      case c5 => simp; omega
      intro v' w6 hown hgrow _ hat
      have hg6 : w5.grownBy w6 (Value.slice ao M co).ownBlock := (World.grownBy_alloc w5 _ _).trans hgrow
      have HF := hideIt (Nest.snoc (x := { kind := kind, n := 0, s := ⟨#[]⟩, keys := keys, kids := catKs L k }) HN5.out HV5.out HK5.out HFK.out (fun j hj => HD.out.ki j hj) (by rw [HMM.out]; exact hown) hg6)
      have HB6 : Hid (Below w.heap.size w w6) := HB5.out.grown hg6 z5 (fun x hx => (HN5.out.row.lt x hx).1)
      clear hown hgrow hat hg6
      go_wp2_with fail
      go_ret
      exact ⟨_, _, _, rfl, HF.out, HB6.out⟩
end Go.Proofs.Ytagcgnhpdmhegaa

/-
  A list's nodes: what the specification lays and what the program lays are the same. Plain mathematics.
-/
namespace Go.Proofs.Ytagcgnhpdmhegaa
open Go.RowKit
set_option linter.unusedSimpArgs false
set_option linter.unusedVariables false

theorem root_first {vs : List VN} (hok : okB vs = true) : ∃ h, tr (kidsOf vs) (vs.length - 1) = some (0, h) := by
  unfold okB rootB at hok
  simp only [Bool.and_eq_true] at hok
  have h := hok.2
  cases e : tr (kidsOf vs) (vs.length - 1) with
  | none => simp [e] at h
  | some p => obtain ⟨a, b⟩ := p; simp [e] at h; obtain ⟨rfl, _⟩ := h; exact ⟨b, rfl⟩

def rootT (vs : List VN) : VT := treeOf vs 80 (vs.length - 1)

theorem run_all (vs : List VN) (d : Int) : run vs d 0 vs.length = vs.map (shiftN d) := by
  unfold run
  apply List.ext_getElem?
  intro j
  by_cases hj : j < vs.length
  · simp [List.getElem?_range', hj, nodeAt]
  · simp [hj]

theorem lay_root {vs : List VN} (hok : okB vs = true) (sh : Nat) : layT 80 (rootT vs) sh = vs.map (shiftN (sh : Int)) := by
  obtain ⟨p1, _, _, _⟩ := okB_parts hok
  obtain ⟨h, htr⟩ := root_first hok
  unfold rootT
  rw [← lay_tree, lay_run vs 80 (vs.length - 1) sh 0 h (by omega) htr, ← run_all]
  have e : vs.length - 1 + 1 - 0 = vs.length := by omega
  rw [e]
  simp

def kidsL (L : Nat → List VN) (m : Nat) : List VT := (List.range m).map fun i => rootT (L i)
theorem kidsL_len (L : Nat → List VN) (m : Nat) : (kidsL L m).length = m := by simp [kidsL]
theorem kidsL_at (L : Nat → List VN) {m j : Nat} (h : j < m) : kidT (kidsL L m) j = rootT (L j) := by simp [kidsL, kidT, h]

theorem cat_lay (L : Nat → List VN) (m : Nat) (hok : ∀ i, i < m → okB (L i) = true) : ∀ k, k ≤ m → accT 80 0 (kidsL L m) k = catNs L k ∧ ksT 80 0 (kidsL L m) k = catKs L k := by
  intro k
  induction k with
  | zero => intro _; exact ⟨accT_zero _ _ _, ksT_zero _ _ _⟩
  | succ k ih =>
    intro hk
    obtain ⟨h1, h2⟩ := ih (by omega)
    have hlt : k < (kidsL L m).length := by rw [kidsL_len]; omega
    have e : accT 80 0 (kidsL L m) (k + 1) = catNs L (k + 1) := by
      rw [accT_succ 80 0 hlt, h1, kidsL_at L (by omega), lay_root (hok k (by omega)), Nat.zero_add]
      rfl
    refine ⟨e, ?_⟩
    rw [ksT_succ 80 0 hlt, h2, e, Nat.zero_add]
    rfl

theorem lay_list (kind : Int) (keys : List ByteArray) (L : Nat → List VN) (m : Nat) (hok : ∀ i, i < m → okB (L i) = true) : layT 81 (.mk kind 0 ByteArray.empty keys (kidsL L m)) 0 = makeNs kind keys L m := by
  rw [layT_eq, kidsL_len]
  obtain ⟨h1, h2⟩ := cat_lay L m hok m (Nat.le_refl _)
  rw [h1, h2]
  rfl

theorem catNs_le {L : Nat → List VN} {m : Nat} (hok : ∀ i, i < m → okB (L i) = true) : ∀ k, k ≤ m → (catNs L k).length ≤ k * 80 := by
  intro k
  induction k with
  | zero => intro _; simp [catNs]
  | succ k ih =>
    intro hk
    have h1 := ih (by omega)
    have h2 := (okB_parts (hok k (by omega))).1
    rw [catNs_len]
    omega

theorem nodeAt_left {a b : List VN} {i : Nat} (h : i < a.length) : nodeAt (a ++ b) i = nodeAt a i := by
  unfold nodeAt; rw [List.getD_eq_getElem?_getD, List.getD_eq_getElem?_getD, List.getElem?_append_left h]
theorem nodeAt_right {a b : List VN} {i : Nat} (h : a.length ≤ i) : nodeAt (a ++ b) i = nodeAt b (i - a.length) := by
  unfold nodeAt; rw [List.getD_eq_getElem?_getD, List.getD_eq_getElem?_getD, List.getElem?_append_right h]
theorem nodeAt_map {vs : List VN} {d : Int} {i : Nat} (h : i < vs.length) : nodeAt (vs.map (shiftN d)) i = shiftN d (nodeAt vs i) := by
  unfold nodeAt; simp [h]

/-- What the parts' nodes have, all nodes have. -/
def Nice (x : VN) : Prop := Fits x ∧ x.keys.length ≤ 80 ∧ x.kids.length ≤ 80 ∧ ∀ j, j < x.kids.length → -10000 ≤ intAt x.kids j ∧ intAt x.kids j ≤ 10000

theorem cat_nice {L : Nat → List VN} {m : Nat} (hm : m ≤ 80) (hok : ∀ i, i < m → okB (L i) = true) (hf : ∀ i, i < m → ∀ j, j < (L i).length → Fits (nodeAt (L i) j)) : ∀ k, k ≤ m → ∀ i, i < (catNs L k).length → Nice (nodeAt (catNs L k) i) := by
  intro k
  induction k with
  | zero => intro _ i hi; simp [catNs] at hi
  | succ k ih =>
    intro hk i hi
    have hle := catNs_le hok k (by omega)
    rw [catNs]
    by_cases e : i < (catNs L k).length
    · rw [nodeAt_left e]; exact ih (by omega) i e
    · rw [nodeAt_right (by omega)]
      rw [catNs_len] at hi
      rw [nodeAt_map (by omega)]
      have hj : i - (catNs L k).length < (L k).length := by omega
      generalize i - (catNs L k).length = j at hj
      have f := hf k (by omega) j hj
      have kf := keys_few (hok k (by omega)) j hj
      have p1 := (okB_parts (hok k (by omega))).1
      have hb : ∀ q, q < (shiftN ((catNs L k).length : Int) (nodeAt (L k) j)).kids.length → -10000 ≤ intAt (shiftN ((catNs L k).length : Int) (nodeAt (L k) j)).kids q ∧ intAt (shiftN ((catNs L k).length : Int) (nodeAt (L k) j)).kids q ≤ 10000 := by
        intro q hq
        have hq' : q < (nodeAt (L k) j).kids.length := by simpa [shiftN] using hq
        have hr := kidsIn_get kf.1 hq'
        have ei : intAt (shiftN ((catNs L k).length : Int) (nodeAt (L k) j)).kids q = intAt (nodeAt (L k) j).kids q + ((catNs L k).length : Int) := by
          rw [intAt_get hq, intAt_get hq']; simp [shiftN]
        rw [ei]
        omega
      exact ⟨⟨f.keysN, f.keysS, by simpa [shiftN] using f.kidsN, fun q hq => by have := hb q hq; omega, f.size, f.klo, f.khi, f.nlo, f.nhi⟩, kf.2.2, by simpa [shiftN] using kf.2.1, hb⟩

theorem catKs_get (L : Nat → List VN) : ∀ (m j : Nat), j < m → intAt (catKs L m) j = ((catNs L (j + 1)).length : Int) - 1 := by
  intro m
  induction m with
  | zero => intro j hj; omega
  | succ m ih =>
    intro j hj
    have hl : j < (catKs L (m + 1)).length := by rw [catKs_len]; exact hj
    rw [intAt_get hl]
    by_cases e : j < m
    · have := ih j e
      rw [intAt_get (by rw [catKs_len]; exact e)] at this
      simp only [catKs]
      rw [List.getElem_append_left (by rw [catKs_len]; exact e)]
      exact this
    · obtain rfl : j = m := by omega
      simp only [catKs]
      rw [List.getElem_append_right (by rw [catKs_len]; exact Nat.le_refl _)]
      simp [catKs_len]

theorem make_nice {L : Nat → List VN} {m : Nat} (hm : m ≤ 80) (hok : ∀ i, i < m → okB (L i) = true) (hf : ∀ i, i < m → ∀ j, j < (L i).length → Fits (nodeAt (L i) j)) {kind : Int} (h1 : 1 ≤ kind) (h6 : kind ≤ 6) {keys : List ByteArray} (hk : keys.length ≤ 80) (hks : ∀ i, i < keys.length → (keyAt keys i).size ≤ 140737488355328) :
    (makeNs kind keys L m).length ≤ 6401 ∧ ∀ i, i < (makeNs kind keys L m).length → Nice (nodeAt (makeNs kind keys L m) i) := by
  have hle := catNs_le hok m (Nat.le_refl _)
  refine ⟨by unfold makeNs; simp; omega, fun i hi => ?_⟩
  unfold makeNs at hi ⊢
  by_cases e : i < (catNs L m).length
  · rw [nodeAt_left e]; exact cat_nice hm hok hf m (Nat.le_refl _) i e
  · have e0 : i - (catNs L m).length = 0 := by simp at hi; omega
    rw [nodeAt_right (by omega), e0]
    have hb : ∀ j, j < (catKs L m).length → -10000 ≤ intAt (catKs L m) j ∧ intAt (catKs L m) j ≤ 10000 := by
      intro j hj
      rw [catKs_len] at hj
      rw [catKs_get L m j hj]
      have := catNs_le hok (j + 1) (by omega)
      omega
    exact ⟨⟨by show keys.length ≤ _; omega, hks, by show (catKs L m).length ≤ _; rw [catKs_len]; omega, fun j hj => by have := hb j hj; show -9223372036854775808 ≤ intAt (catKs L m) j ∧ intAt (catKs L m) j ≤ 9223372036854775807; omega, by show ByteArray.empty.size ≤ _; decide, by show -9223372036854775808 ≤ kind; omega, by show kind ≤ _; omega, by show (-9223372036854775808 : Int) ≤ 0; decide, by show (0 : Int) ≤ 9223372036854775807; decide⟩, hk, by show (catKs L m).length ≤ 80; rw [catKs_len]; exact hm, hb⟩
end Go.Proofs.Ytagcgnhpdmhegaa

/-
  spec.ListOf.
-/
namespace Go.Proofs.Ytagcgnhpdmhegaa
open Go.RowKit
set_option linter.unusedSimpArgs false
set_option linter.unusedVariables false

def allB (L : Nat → List VN) (m : Nat) : Bool := (List.range m).all fun i => okB (L i)
theorem allB_yes {L : Nat → List VN} {m : Nat} (h : allB L m = true) : ∀ i, i < m → okB (L i) = true := fun i hi => by
  unfold allB at h; rw [List.all_eq_true] at h; exact h i (List.mem_range.2 hi)
theorem allB_of {L : Nat → List VN} {m : Nat} (h : ∀ i, i < m → okB (L i) = true) : allB L m = true := by
  unfold allB; rw [List.all_eq_true]; exact fun i hi => h i (List.mem_range.1 hi)
theorem allB_no {L : Nat → List VN} {m i : Nat} (hi : i < m) (h : okB (L i) = false) : allB L m = false := by
  cases e : allB L m
  · rfl
  · have := allB_yes e i hi; rw [h] at this; cases this

theorem RowsAt.below {B : Nat} {w w' : World} {v : Value} {m : Nat} {L : Nat → List VN} (h : RowsAt B w v m L) (hb : Below B w w') : RowsAt B w' v m L := by
  obtain ⟨h1, a, c, e, h2⟩ := h
  refine ⟨h1, a, c, e, fun hp => ?_⟩
  obtain ⟨b, ea, hbB, h3⟩ := h2 hp
  refine ⟨b, ea, hbB, fun i hi => ?_⟩
  obtain ⟨r, e2, hn⟩ := h3 i hi
  exact ⟨r, (below_cell hb hbB).trans e2, hn.below hb⟩

def listB (L : Nat → List VN) (m : Nat) : Bool := allB L m && decide (m ≤ 80) && okB (makeNs 5 [] L m)
def listNs (L : Nat → List VN) (m : Nat) : List VN := if listB L m = true then makeNs 5 [] L m else []

theorem near_of {L : Nat → List VN} {m : Nat} (hok : ∀ i, i < m → okB (L i) = true) : ∀ i, i < m → 0 < (L i).length ∧ ∀ j, j < (L i).length → Near (nodeAt (L i) j) := by
  intro i hi
  obtain ⟨p1, _, _, _⟩ := okB_parts (hok i hi)
  refine ⟨by omega, fun j hj => ?_⟩
  have kf := keys_few (hok i hi) j hj
  exact ⟨by omega, by omega, fun q hq => by have := kidsIn_get kf.1 hq; omega⟩

end Go.Proofs.Ytagcgnhpdmhegaa

/-
  The map of keys and values: the program's arrangement is the specification's. Plain mathematics.
-/
namespace Go.Proofs.Ytagcgnhpdmhegaa
open Go.RowKit
set_option linter.unusedSimpArgs false
set_option linter.unusedVariables false

def permL (L : Nat → List VN) (f : Nat → Int) (j : Nat) : List VN := L (f j).toNat
def keysF (l : List ByteArray) (f : Nat → Int) (m : Nat) : List ByteArray := (List.range m).map fun j => keyAt l (f j).toNat

def sortNs (l : List ByteArray) (L : Nat → List VN) (m : Nat) : Option (List VN) := match sortIn l l.length with
  | none => none
  | some (ns, ps) => some (makeNs 6 ns (fun j => L (ps.getD j 0)) m)
def mapB (l : List ByteArray) (L : Nat → List VN) (m : Nat) : Bool := allB L m && decide (m ≤ 80) && decide (l.length = m) && (match sortNs l L m with | none => false | some vs => okB vs)
def mapNs (l : List ByteArray) (L : Nat → List VN) (m : Nat) : List VN := if mapB l L m = true then (sortNs l L m).getD [] else []

theorem catNs_same {L L' : Nat → List VN} : ∀ m, (∀ i, i < m → L i = L' i) → catNs L m = catNs L' m := by
  intro m
  induction m with
  | zero => intro _; rfl
  | succ m ih => intro h; rw [catNs, catNs, ih (fun i hi => h i (by omega)), h m (by omega)]
theorem catKs_same {L L' : Nat → List VN} : ∀ m, (∀ i, i < m → L i = L' i) → catKs L m = catKs L' m := by
  intro m
  induction m with
  | zero => intro _; rfl
  | succ m ih => intro h; rw [catKs, catKs, ih (fun i hi => h i (by omega)), catNs_same (m + 1) h]
theorem makeNs_same {L L' : Nat → List VN} {m : Nat} (h : ∀ i, i < m → L i = L' i) (kind : Int) (keys : List ByteArray) : makeNs kind keys L m = makeNs kind keys L' m := by
  unfold makeNs; rw [catNs_same m h, catKs_same m h]

theorem keysF_at {l : List ByteArray} {f : Nat → Int} {m j : Nat} (h : j < m) : keyAt (keysF l f m) j = keyAt l (f j).toNat := by simp [keysF, keyAt, h]

theorem map_rises {l : List ByteArray} {L : Nat → List VN} {f : Nat → Int} {m : Nat} (h : okB (makeNs 6 (keysF l f m) L m) = true) : ∀ p, p + 1 < m → lessB (keyAt l (f p).toNat) (keyAt l (f (p + 1)).toNat) = true := by
  intro p hp
  have hn := ((okB_parts h).2.1 (catNs L m).length (by unfold makeNs; simp)).1
  unfold makeNs at hn
  rw [nodeAt_snoc_end] at hn
  unfold nodeB namedB at hn
  simp at hn
  have hr := hn.2.2
  unfold riseB at hr
  rw [List.all_eq_true] at hr
  have hk : (keysF l f m).length = m := by simp [keysF]
  have := hr (p + 1) (List.mem_range.2 (by omega))
  unfold riseAt at this
  simp only [Bool.and_eq_true, Bool.or_eq_true, decide_eq_true_eq] at this
  rcases this.2 with e | e
  · omega
  · rw [Nat.add_sub_cancel, keysF_at (by omega), keysF_at hp] at e
    exact e

theorem map_same {l : List ByteArray} {L : Nat → List VN} {m : Nat} {f : Nat → Int} (ha : (allB L m && decide (m ≤ 80)) = true) (hl : l.length = m) (hf : Blk (RK l) (fun p => (p : Int)) f 0 l.length) :
    mapB l L m = okB (makeNs 6 (keysF l f m) (permL L f) m) ∧ mapNs l L m = rightNs (makeNs 6 (keysF l f m) (permL L f) m) := by
  have e : mapB l L m = okB (makeNs 6 (keysF l f m) (permL L f) m) ∧ (okB (makeNs 6 (keysF l f m) (permL L f) m) = true → (sortNs l L m).getD [] = makeNs 6 (keysF l f m) (permL L f) m) := by
    unfold mapB
    rw [ha, hl]
    cases hs : sortIn l l.length with
    | none =>
      have hno : okB (makeNs 6 (keysF l f m) (permL L f) m) = false := by
        cases h : okB (makeNs 6 (keysF l f m) (permL L f) m)
        · rfl
        · obtain ⟨ns, ps, e⟩ := places_rise hf (fun p hp => map_rises h p (by omega))
          rw [hs] at e; cases e
      have hsn : sortNs l L m = none := by unfold sortNs; rw [hs]
      rw [hsn, hno]
      exact ⟨by simp, fun h => by cases h⟩
    | some q =>
      obtain ⟨ns, ps⟩ := q
      have hp := places_are hs hf
      have hlen := (sortIn_len hs).2
      have hk : keysF l f m = ns := by
        rw [sortIn_map hs, ← hl]
        have := congrArg (List.map fun x : Int => keyAt l x.toNat) hp
        rw [List.map_map, List.map_map] at this
        unfold keysF
        refine (Eq.trans ?_ this).trans ?_
        · rfl
        · apply List.map_congr_left; intro n _; simp
      have hL : ∀ i, i < m → (fun j => L (ps.getD j 0)) i = permL L f i := fun i hi => by
        have h1 : ((List.range l.length).map f)[i]? = some (f i) := by rw [List.getElem?_map, List.getElem?_range (by omega)]; rfl
        rw [hp, List.getElem?_map] at h1
        rw [List.getElem?_eq_getElem (by omega)] at h1
        simp at h1
        unfold permL
        simp only
        rw [List.getD_eq_getElem?_getD, List.getElem?_eq_getElem (by omega), ← h1]
        simp
      have hsn : sortNs l L m = some (makeNs 6 (keysF l f m) (permL L f) m) := by
        unfold sortNs; rw [hs, hk]; simp only; rw [makeNs_same hL]
      rw [hsn]
      exact ⟨by simp, fun _ => rfl⟩
  refine ⟨e.1, ?_⟩
  unfold mapNs rightNs
  rw [e.1]
  split
  · rename_i h; exact e.2 h
  · rfl
end Go.Proofs.Ytagcgnhpdmhegaa
