/-
  spec.l1Make: the nodes of all parts, and a root behind them.
-/
import Derived.Test.YtgmnihofkpjboaaGreatDoorSAdd
import Derived.Test.YtgmnihofkpjboaaGreatDoorKi
namespace Go.Proofs.YtgmnihofkpjboaaGreatDoor
open Go.RowKit
set_option linter.unusedSimpArgs false
set_option linter.unusedVariables false

def catNs (L : Nat → List VN) : Nat → List VN
  | 0 => []
  | i + 1 => catNs L i ++ (L i).map (shiftN ((catNs L i).length : Int))
def catKs (L : Nat → List VN) : Nat → List Int
  | 0 => []
  | i + 1 => catKs L i ++ [((catNs L (i + 1)).length : Int) - 1]
def makeNs (kind : Int) (keys : List ByteArray) (L : Nat → List VN) (m : Nat) : List VN := catNs L m ++ [{ kind := kind, n := 0, s := ByteArray.empty, keys := keys, kids := catKs L m }]

theorem catKs_len (L : Nat → List VN) : ∀ i, (catKs L i).length = i := by
  intro i
  induction i with
  | zero => rfl
  | succ i ih => simp [catKs, ih]
theorem catNs_len (L : Nat → List VN) (i : Nat) : (catNs L (i + 1)).length = (catNs L i).length + (L i).length := by simp [catNs]
theorem catNs_mono (L : Nat → List VN) {i j : Nat} (h : i ≤ j) : (catNs L i).length ≤ (catNs L j).length := by
  induction j with
  | zero => obtain rfl : i = 0 := by omega
            exact Nat.le_refl _
  | succ j ih =>
    rcases Nat.lt_or_ge i (j + 1) with e | e
    · have := ih (by omega)
      rw [catNs_len]
      omega
    · obtain rfl : i = j + 1 := by omega
      exact Nat.le_refl _

/-- Nodes and kids, each in a row of its own. -/
structure Duo (base : Nat) (w wr : World) (v kv : Value) (ns : List VN) (ks : List Int) (KV IV : Nat → Value) : Prop where
  nest : Nest base wr v ns KV IV
  kids : wr.ownsRow base 2 1 kv ks.length (ks.map (.int .i64))
  ki : ∀ j, j < ns.length → ∀ y, kv.ownBlock = some y → (IV j).ownBlock ≠ some y
  frame : Below base w wr

theorem Duo.laid {base : Nat} {w wr w' : World} {v v' kv : Value} {ns add : List VN} {ks : List Int} {KV IV KV' IV' : Nat → Value} (h : Duo base w wr v kv ns ks KV IV) (l : Laid base wr w' v v' ns add KV IV KV' IV') (hb : base ≤ wr.heap.size) : Duo base w w' v' kv (ns ++ add) ks KV' IV' := by
  refine ⟨l.1, h.kids.kept l.2.1 (own_apart h.kids h.nest.row (by decide)), fun j hj y hy => ?_, h.frame.grown l.2.1 hb (fun k hk => (h.nest.row.lt k hk).1)⟩
  by_cases e : j < ns.length
  · rw [(l.2.2.2.1 j e).2]; exact h.ki j e y hy
  · intro e2
    have := (l.2.2.2.2 j (by omega) (by simpa using hj)).2 y e2
    have := (h.kids.lt y hy).2
    omega

theorem Duo.kid {base : Nat} {w wr w5 : World} {v kv kv' : Value} {ns : List VN} {ks : List Int} {KV IV : Nat → Value} {o : Obj} {q : Int} (h : Duo base w wr v kv ns ks KV IV) (hb : base ≤ wr.heap.size)
    (hown : w5.ownsRow base 2 1 kv' (ks.length + 1) (ks.map (.int .i64) ++ [.int .i64 q])) (hg : (wr.alloc o).grownBy w5 kv.ownBlock) (hat : kv'.ownBlock = kv.ownBlock ∨ kv'.ownBlock = some (wr.heap.size + 1)) :
    Duo base w w5 v kv' ns (ks ++ [q]) KV IV := by
  have hg1 : wr.grownBy w5 kv.ownBlock := (World.grownBy_alloc wr o _).trans hg
  have hkk : ∀ i, i < ns.length → (IV i).ownBlock = none ∨ (IV i).ownBlock ≠ kv.ownBlock := by
    intro i hi
    cases e : kv.ownBlock with
    | none => cases e2 : (IV i).ownBlock with
      | none => exact Or.inl rfl
      | some y => exact Or.inr (by simp)
    | some y => exact Or.inr (h.ki i hi y e)
  refine ⟨h.nest.kept hg1 (own_apart h.nest.row h.kids (by decide)) (fun i hi => own_apart (h.nest.rk i hi) h.kids (by decide)) hkk, by simpa using hown, fun j hj y hy => ?_, h.frame.grown hg1 hb (fun k hk => (h.kids.lt k hk).1)⟩
  rcases hat with e | e
  · exact h.ki j hj y (e ▸ hy)
  · rw [e] at hy
    simp at hy
    intro e2
    have := ((h.nest.ri j hj).lt y e2).2
    omega

set_option maxRecDepth 100000 in
set_option maxHeartbeats 3200000 in
theorem l1Make_any (B : Nat) (kind : Int) (kv0 u : Value) (keys : List ByteArray) (m : Nat) (L : Nat → List VN) (w : World) (hks : StrsAt B w kv0 keys) (hu : RowsAt B w u m L) (hB : B ≤ w.heap.size) (hm : m ≤ 100000) (hkn : keys.length ≤ 100000) (hn : (catNs L m).length + 1 ≤ 100000) (hnear : ∀ i, i < m → 0 < (L i).length ∧ ∀ j, j < (L i).length → Near (nodeAt (L i) j)) :
    Calls Tryz.prog 32 #[.int .i64 kind, kv0, u] w fun e w' => ∃ r KV IV, e = .returned r ∧ Nest w.heap.size w' r (makeNs kind keys L m) KV IV ∧ Below w.heap.size w w' := by
  have HU := hideIt hu
  have HKS := hideIt hks
  have HNR := hideIt hnear
  obtain ⟨_, au, cu, rfl, hcu⟩ := hu
  obtain ⟨_, _, aK, cK, rfl, hck⟩ := hks
  have HCU := hideIt hcu
  clear hcu hck hnear
  obtain ⟨i0, hi0, hz0, hs0, hy0⟩ := info_parts infoNode
  obtain ⟨i1, hi1, hz1, hs1, hy1⟩ := info_parts infoStr
  obtain ⟨i2, hi2, hz2, hs2, hy2⟩ := info_parts infoInt
  have hd0 : Duo w.heap.size w ((w.alloc (.cells #[] 37)).alloc (.cells #[] 2)) (.slice (some ⟨w.heap.size, 0, none⟩) 0 0) (.slice (some ⟨w.heap.size + 1, 0, none⟩) 0 0) (catNs L 0) (catKs L 0) (fun _ => undef) (fun _ => undef) := by
    refine ⟨⟨?_, fun i hi => absurd hi (by simp [catNs]), fun i hi => absurd hi (by simp [catNs]), fun i j hi => absurd hi (by simp [catNs]), fun i j hi => absurd hi (by simp [catNs])⟩, ?_, fun j hj => absurd hj (by simp [catNs]), ((Below.refl _ _).alloc (Nat.le_refl _) _).alloc (by simp) _⟩
    · exact (World.ownsRow_lit (base := w.heap.size) (e := 37) (size := 5) w #[] 0 (Nat.le_refl _) (by simp [maxLen]) rfl).alloc _
    · have := World.ownsRow_lit (base := w.heap.size) (e := 2) (size := 1) (w.alloc (.cells #[] 37)) #[] 0 (by simp) (by simp [maxLen]) rfl
      simpa [catKs] using this
  have HD0 := hideIt hd0
  clear hd0
  go_enter Tryz.func32, Tryz.ntmps32
  go_wp2_with fail
  go_loopw [7, 8, 9] (fun o kd i wr => ∃ (k : Nat) (KV IV : Nat → Value), k ≤ m ∧ i = .int .i64 k ∧ Duo w.heap.size w wr o kd (catNs L k) (catKs L k) KV IV) (fun _ _ i _ => m - (intOf i).toNat)
  case atStart => exact ⟨0, _, _, Nat.zero_le _, rfl, HD0.out⟩
  case round =>
    obtain ⟨k, KV, IV, hk, rfl, hduo⟩ := hrel
    have HD := hideIt hduo
    have zs := hduo.frame.size
    obtain ⟨ao, co, eo⟩ := own_slice hduo.nest.row
    obtain ⟨ai, ci, ei⟩ := own_slice hduo.kids
    obtain ⟨M, hM⟩ : ∃ M, (catNs L k).length = M := ⟨_, rfl⟩
    have HMM := hideIt hM
    have hMle : M ≤ (catNs L m).length := by rw [← hM]; exact catNs_mono L hk
    rw [hM] at eo
    rw [catKs_len] at ei
    subst eo ei
    clear hduo hM
    by_cases hlt : k < m
    · obtain ⟨b, rfl, hbB, hcell⟩ := HCU.out (by omega)
      obtain ⟨r, hcr, hnr⟩ := hcell k hlt
      have hcr' := (below_cell HD.out.frame (by omega)).trans hcr
      have HNK := hideIt (hnr.below (HD.out.frame.mono hB))
      obtain ⟨_, ar, cr, rfl, _⟩ := hnr
      have HL1 := hideIt (catNs_mono L (show k + 1 ≤ m by omega))
      have HLN := hideIt (catNs_len L k)
      obtain ⟨Lk, hLk⟩ : ∃ Lk, (L k).length = Lk := ⟨_, rfl⟩
      have HLK := hideIt hLk
      rw [hLk] at hcr'
      have hMb : M + Lk + 1 ≤ 100000 := by
        have h1 := HL1.out
        have h2 := HLN.out
        rw [HMM.out, hLk] at h2
        omega
      have HNK2 := hideIt HNK.out
      rw [hLk] at HNK2
      have hLp : 0 < Lk := by rw [← hLk]; exact (HNR.out k hlt).1
      clear hcell hcr hLk hMle
      go_wp2_with fail
      refine (l1Add_any B w.heap.size (.slice ao M co) (.slice ar Lk cr) (catNs L k) (L k) KV IV wr HD.out.nest HNK2.out hB zs (by rw [HMM.out, HLK.out]; omega) (HNR.out k hlt).2).mono ?_
      rintro e w3 ⟨v3, KV3, IV3, rfl, hl3⟩
      have hd3 := HD.out.laid hl3 zs
      have HD3 : Hid (Duo w.heap.size w w3 v3 (.slice ai k ci) (catNs L (k + 1)) (catKs L k) KV3 IV3) := hd3
      have z3 := HD3.out.frame.size
      obtain ⟨a3, c3, e3⟩ := own_slice HD3.out.nest.row
      obtain ⟨N, hN⟩ : ∃ N, (catNs L (k + 1)).length = N := ⟨_, rfl⟩
      have hN1 : N ≤ 100000 := by rw [← hN, HLN.out, HMM.out, HLK.out]; omega
      have hN0 : 1 ≤ N := by rw [← hN, HLN.out, HMM.out, HLK.out]; omega
      have HNN := hideIt hN
      rw [hN] at e3
      subst e3
      have HKD := hideIt HD3.out.kids
      rw [catKs_len] at HKD
      have HKS2 : Hid (catKs L (k + 1) = catKs L k ++ [(N : Int) - 1]) := by rw [Hid, ← HNN.out]; rfl
      clear hl3 hd3 hN
      go_wp2_with (at_builtin; refine wpList_append_own_at _ rfl _ _ 33 rfl w.heap.size 2 i2 (.int .i64 0) 1 8 Tryz.underlying33 hi2 hz2 hs2 hy2 rfl (by decide) _ _ _ rfl (HKD.out.alloc _) ⟨w3.heap.size, 0, none⟩ 1 1 [.int .i64 ((N : Int) - 1)] rfl rfl ?c1 ?c2 ?c3 ?c4 ?c5 ?_)
      case c1 => exact cell_one_new _ _ _
      case c2 => first | rfl | (intro u hu; simp at hu; subst hu; rfl)
      case c3 => unfold maxLen; omega
      case c4 => omega
      case c5 => first | omega | (simp; omega)
      intro kv' w5 hown hgrow _ hat
      have HD5 := hideIt (HD3.out.kid (by omega) (by rw [catKs_len]; exact hown) hgrow (by simpa using hat))
      clear hown hgrow hat
      go_wp2_with fail
      go_roundw
      case rel => exact ⟨k + 1, KV3, IV3, by omega, by go_num, by rw [HKS2.out]; exact HD5.out⟩
      case measure => simp [intOf]; omega
    · obtain rfl : k = m := by omega
      have HOWN : Hid ((wr.alloc (.cells #[] 9)).ownsRow w.heap.size 9 1 (.slice (some ⟨wr.heap.size, 0, none⟩) 0 0) 0 []) := World.ownsRow_lit wr #[] 0 zs (by simp [maxLen]) rfl
      have HSRC : Hid (0 < keys.length → ∃ ad, aK = some ad ∧ ∀ j u, (keys.map Value.string)[j]? = some u → (wr.alloc (.cells #[] 9)).cell? (ad.add j) = some u) := by
        intro hp
        obtain ⟨_, _, aK', cK', e, hck⟩ := HKS.out
        cases e
        obtain ⟨bk, ok, rfl, hbk, hcc⟩ := hck hp
        refine ⟨_, rfl, fun j u hj => ?_⟩
        have hj' : j < keys.length := by have := (List.getElem?_eq_some_iff.1 hj).1; simpa using this
        rw [show (⟨bk, ok, none⟩ : Addr).add j = ⟨bk, ok + j, none⟩ by simp [Addr.add], below_cell ((Below.refl _ wr).alloc (Nat.le_refl _) _) (by omega), below_cell HD.out.frame (by omega), hcc j hj']
        simp [hj', keyAt] at hj ⊢
        exact hj
      go_wp2_with (at_builtin; refine wpList_append_src rfl _ _ 32 rfl w.heap.size 9 i1 (.string ByteArray.empty) 1 16 Tryz.underlying32 hi1 hz1 hs1 hy1 rfl (by decide) _ 0 [] rfl HOWN.out aK keys.length cK (keys.map .string) rfl (by simp) HSRC.out ?c2 ?c3 ?c4 ?c5 ?_)
      case c2 => intro u hu; first | rfl | (obtain ⟨q, _, rfl⟩ := List.mem_map.1 hu; rfl)
      case c3 => unfold maxLen; omega
      case c4 => omega
      case c5 => first | omega | (simp; omega)
      intro vk w5 hk2 hg2 hat2
      (try simp only [Nat.zero_add, List.nil_append] at hk2)
      have hgg : wr.grownBy w5 none := (World.grownBy_alloc wr _ none).andThen hg2 (fun j hj => Or.inl (by simp [Value.ownBlock] at hj; omega))
      have nn : ∀ x : Option Nat, x = none ∨ x ≠ none := fun x => by cases x <;> simp
      have hnest5 := HD.out.nest.kept hgg (nn _) (fun _ _ => nn _) (fun _ _ => nn _)
      have hkids5 := HD.out.kids.kept hgg (nn _)
      have hb5 : Below w.heap.size w w5 := HD.out.frame.grown hgg zs (fun k hk => by cases hk)
      have HFK : Hid (∀ j, j < (catNs L k).length → ∀ y, vk.ownBlock = some y → (KV j).ownBlock ≠ some y) := by
        intro j hj y hy e
        have h1 := ((HD.out.nest.rk j hj).lt y e).2
        rcases hat2 with e2 | e2
        · rw [e2] at hy; simp [Value.ownBlock] at hy; omega
        · rw [e2] at hy; simp at hy; omega
      obtain ⟨ak, ck, hvk⟩ := own_slice hk2
      subst hvk
      have HN5 := hideIt hnest5
      have HK5 := hideIt hkids5
      have HV5 := hideIt hk2
      have HB5 := hideIt hb5
      have z5 := hb5.size
      have HROW := hideIt (hnest5.row.alloc (.cells #[.int .i64 kind, .int .i64 0, .string ⟨#[]⟩, .slice ak keys.length ck, .slice ai k ci] 37))
      rw [HMM.out] at HROW
      clear hnest5 hkids5 hb5 hk2 hg2 hat2 hgg nn HSRC HOWN
      go_wp2_with (at_builtin; go_loud (refine wpList_append_own_at _ rfl _ _ 24 rfl w.heap.size 37 i0 zeroNode 5 80 Tryz.underlying24 hi0 hz0 hs0 hy0 rfl (by decide) _ _ _ rfl HROW.out ⟨w5.heap.size, 0, none⟩ 1 1 [.int .i64 kind, .int .i64 0, .string ⟨#[]⟩, .slice ak keys.length ck, .slice ai k ci] rfl rfl ?c1 ?c2 ?c3 ?c4 ?c5 ?_))
      case c1 => exact news5_of _ _ _ _ _ _ _ (by simp)
      case c2 => intro u hu; simp at hu; rcases hu with rfl | rfl | rfl | rfl | rfl <;> rfl
      case c3 => unfold maxLen; omega
      case c4 => omega
      case c5 => simp; omega
      intro v' w6 hown hgrow _ hat
      have hg6 : w5.grownBy w6 (Value.slice ao M co).ownBlock := (World.grownBy_alloc w5 _ _).trans hgrow
      have HF := hideIt (Nest.snoc (x := { kind := kind, n := 0, s := ⟨#[]⟩, keys := keys, kids := catKs L k }) HN5.out HV5.out HK5.out HFK.out (fun j hj => HD.out.ki j hj) (by rw [HMM.out]; exact hown) hg6)
      have HB6 : Hid (Below w.heap.size w w6) := HB5.out.grown hg6 z5 (fun x hx => (HN5.out.row.lt x hx).1)
      clear hown hgrow hat hg6
      go_wp2_with fail
      go_ret
      exact ⟨_, _, _, rfl, HF.out, HB6.out⟩
end Go.Proofs.YtgmnihofkpjboaaGreatDoor
