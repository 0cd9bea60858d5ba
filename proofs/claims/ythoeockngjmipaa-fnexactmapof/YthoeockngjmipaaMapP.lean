/-
  The map of keys and values: the program's arrangement is the specification's. Plain mathematics.
-/
import Derived.Test.YthoeockngjmipaaSortQ
import Derived.Test.YthoeockngjmipaaRNodes
import Derived.Test.YthoeockngjmipaaSListOf
namespace Go.Proofs.Ythoeockngjmipaa
open Go.RowKit
set_option linter.unusedSimpArgs false
set_option linter.unusedVariables false

def permL (L : Nat → List VN) (f : Nat → Int) (j : Nat) : List VN := L (f j).toNat
def keysF (l : List ByteArray) (f : Nat → Int) (m : Nat) : List ByteArray := (List.range m).map fun j => keyAt l (f j).toNat

def sortNs (l : List ByteArray) (L : Nat → List VN) (m : Nat) : Option (List VN) := match sortIn l l.length with
  | none => none
  | some (ns, ps) => some (makeNs 6 ns (fun j => L (ps.getD j 0)) m)
def mapB (l : List ByteArray) (L : Nat → List VN) (m : Nat) : Bool := allB L m && decide (m ≤ 80) && decide (l.length = m) && (match sortNs l L m with | none => false | some vs => okB vs)
def mapNs (l : List ByteArray) (L : Nat → List VN) (m : Nat) : List VN := if mapB l L m = true then (sortNs l L m).getD [] else []

theorem catNs_same {L L' : Nat → List VN} : ∀ m, (∀ i, i < m → L i = L' i) → catNs L m = catNs L' m := by
  intro m
  induction m with
  | zero => intro _; rfl
  | succ m ih => intro h; rw [catNs, catNs, ih (fun i hi => h i (by omega)), h m (by omega)]
theorem catKs_same {L L' : Nat → List VN} : ∀ m, (∀ i, i < m → L i = L' i) → catKs L m = catKs L' m := by
  intro m
  induction m with
  | zero => intro _; rfl
  | succ m ih => intro h; rw [catKs, catKs, ih (fun i hi => h i (by omega)), catNs_same (m + 1) h]
theorem makeNs_same {L L' : Nat → List VN} {m : Nat} (h : ∀ i, i < m → L i = L' i) (kind : Int) (keys : List ByteArray) : makeNs kind keys L m = makeNs kind keys L' m := by
  unfold makeNs; rw [catNs_same m h, catKs_same m h]

theorem keysF_at {l : List ByteArray} {f : Nat → Int} {m j : Nat} (h : j < m) : keyAt (keysF l f m) j = keyAt l (f j).toNat := by simp [keysF, keyAt, h]

theorem map_rises {l : List ByteArray} {L : Nat → List VN} {f : Nat → Int} {m : Nat} (h : okB (makeNs 6 (keysF l f m) L m) = true) : ∀ p, p + 1 < m → lessB (keyAt l (f p).toNat) (keyAt l (f (p + 1)).toNat) = true := by
  intro p hp
  have hn := ((okB_parts h).2.1 (catNs L m).length (by unfold makeNs; simp)).1
  unfold makeNs at hn
  rw [nodeAt_snoc_end] at hn
  unfold nodeB namedB at hn
  simp at hn
  have hr := hn.2.2
  unfold riseB at hr
  rw [List.all_eq_true] at hr
  have hk : (keysF l f m).length = m := by simp [keysF]
  have := hr (p + 1) (List.mem_range.2 (by omega))
  unfold riseAt at this
  simp only [Bool.and_eq_true, Bool.or_eq_true, decide_eq_true_eq] at this
  rcases this.2 with e | e
  · omega
  · rw [Nat.add_sub_cancel, keysF_at (by omega), keysF_at hp] at e
    exact e

theorem map_same {l : List ByteArray} {L : Nat → List VN} {m : Nat} {f : Nat → Int} (ha : (allB L m && decide (m ≤ 80)) = true) (hl : l.length = m) (hf : Blk (RK l) (fun p => (p : Int)) f 0 l.length) :
    mapB l L m = okB (makeNs 6 (keysF l f m) (permL L f) m) ∧ mapNs l L m = rightNs (makeNs 6 (keysF l f m) (permL L f) m) := by
  have e : mapB l L m = okB (makeNs 6 (keysF l f m) (permL L f) m) ∧ (okB (makeNs 6 (keysF l f m) (permL L f) m) = true → (sortNs l L m).getD [] = makeNs 6 (keysF l f m) (permL L f) m) := by
    unfold mapB
    rw [ha, hl]
    cases hs : sortIn l l.length with
    | none =>
      have hno : okB (makeNs 6 (keysF l f m) (permL L f) m) = false := by
        cases h : okB (makeNs 6 (keysF l f m) (permL L f) m)
        · rfl
        · obtain ⟨ns, ps, e⟩ := places_rise hf (fun p hp => map_rises h p (by omega))
          rw [hs] at e; cases e
      have hsn : sortNs l L m = none := by unfold sortNs; rw [hs]
      rw [hsn, hno]
      exact ⟨by simp, fun h => by cases h⟩
    | some q =>
      obtain ⟨ns, ps⟩ := q
      have hp := places_are hs hf
      have hlen := (sortIn_len hs).2
      have hk : keysF l f m = ns := by
        rw [sortIn_map hs, ← hl]
        have := congrArg (List.map fun x : Int => keyAt l x.toNat) hp
        rw [List.map_map, List.map_map] at this
        unfold keysF
        refine (Eq.trans ?_ this).trans ?_
        · rfl
        · apply List.map_congr_left; intro n _; simp
      have hL : ∀ i, i < m → (fun j => L (ps.getD j 0)) i = permL L f i := fun i hi => by
        have h1 : ((List.range l.length).map f)[i]? = some (f i) := by rw [List.getElem?_map, List.getElem?_range (by omega)]; rfl
        rw [hp, List.getElem?_map] at h1
        rw [List.getElem?_eq_getElem (by omega)] at h1
        simp at h1
        unfold permL
        simp only
        rw [List.getD_eq_getElem?_getD, List.getElem?_eq_getElem (by omega), ← h1]
        simp
      have hsn : sortNs l L m = some (makeNs 6 (keysF l f m) (permL L f) m) := by
        unfold sortNs; rw [hs, hk]; simp only; rw [makeNs_same hL]
      rw [hsn]
      exact ⟨by simp, fun _ => rfl⟩
  refine ⟨e.1, ?_⟩
  unfold mapNs rightNs
  rw [e.1]
  split
  · rename_i h; exact e.2 h
  · rfl
end Go.Proofs.Ythoeockngjmipaa
