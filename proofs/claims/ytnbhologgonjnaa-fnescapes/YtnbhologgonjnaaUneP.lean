/-
  Plain: what reading an escaped text makes of its bytes.
-/
import Derived.Test.YtnbhologgonjnaaEscP
namespace Go.Proofs.Ytnbhologgonjnaa
set_option linter.unusedSimpArgs false
set_option linter.unusedVariables false

/-- The number of a sign, small or great; -1 for no sign. -/
def digI (c : UInt8) : Int :=
  if 48 ≤ c ∧ c ≤ 57 then (c.toNat : Int) - 48 else if 97 ≤ c ∧ c ≤ 102 then (c.toNat : Int) - 87 else if 65 ≤ c ∧ c ≤ 70 then (c.toNat : Int) - 55 else -1
theorem u8n {c d : UInt8} : c ≤ d ↔ c.toNat ≤ d.toNat := UInt8.le_iff_toNat_le
theorem digI_lt (c : UInt8) : digI c < 16 := by
  unfold digI
  simp only [u8n]
  split
  · rename_i h; have : c.toNat ≤ 57 := h.2; omega
  · split
    · rename_i h; have : c.toNat ≤ 102 := h.2; omega
    · split
      · rename_i h; have : c.toNat ≤ 70 := h.2; omega
      · omega
theorem digI_ge (c : UInt8) : -1 ≤ digI c := by
  unfold digI
  simp only [u8n]
  split
  · rename_i h; have : 48 ≤ c.toNat := h.1; omega
  · split
    · rename_i h; have : 97 ≤ c.toNat := h.1; omega
    · split
      · rename_i h; have : 65 ≤ c.toNat := h.1; omega
      · omega
def twoI (h g : UInt8) : Int := 16 * digI h + digI g
def twoB (h g : UInt8) : UInt8 := UInt8.ofNat (twoI h g).toNat
def une : List UInt8 → Option (List UInt8)
  | [] => some []
  | c :: l =>
    if c = 92 then
      match l with
      | [] => none
      | d :: l =>
        if d = 92 then (une l).map (92 :: ·)
        else if d = 110 then (une l).map (10 :: ·)
        else if d = 120 then
          match l with
          | h :: g :: l => if digI h < 0 ∨ digI g < 0 then none else (une l).map (twoB h g :: ·)
          | _ => none
        else none
    else (une l).map (c :: ·)
theorem une_nil : une [] = some [] := by unfold une; rfl
theorem une_plain {c : UInt8} (h : ¬ c = 92) (l : List UInt8) : une (c :: l) = (une l).map (c :: ·) := by
  conv => lhs; unfold une
  simp [h]
theorem une_end : une [92] = none := by unfold une; simp
theorem une_b (l : List UInt8) : une (92 :: 92 :: l) = (une l).map (92 :: ·) := by
  conv => lhs; unfold une
  simp
theorem une_n (l : List UInt8) : une (92 :: 110 :: l) = (une l).map (10 :: ·) := by
  conv => lhs; unfold une
  simp
theorem une_bad {d : UInt8} (h1 : ¬ d = 92) (h2 : ¬ d = 110) (h3 : ¬ d = 120) (l : List UInt8) : une (92 :: d :: l) = none := by
  conv => lhs; unfold une
  simp [h1, h2, h3]
theorem une_x0 : une [92, 120] = none := by unfold une; simp
theorem une_x1 (h : UInt8) : une [92, 120, h] = none := by unfold une; simp
theorem une_x (h g : UInt8) (l : List UInt8) (hh : ¬ digI h < 0) (hg : ¬ digI g < 0) : une (92 :: 120 :: h :: g :: l) = (une l).map (twoB h g :: ·) := by
  conv => lhs; unfold une
  simp [hh, hg]
theorem une_xbad (h g : UInt8) (l : List UInt8) (hh : digI h < 0 ∨ digI g < 0) : une (92 :: 120 :: h :: g :: l) = none := by
  conv => lhs; unfold une
  simp [hh]
/-- Behind 'k' bytes, with 'o' read so far. -/
def UneAt (L : List UInt8) (k : Nat) (o : List UInt8) : Prop := une L = (une (L.drop k)).map (o ++ ·) ∧ o.length ≤ k
theorem UneAt.start (L : List UInt8) : UneAt L 0 [] := ⟨by rw [List.drop_zero]; cases h : une L <;> simp, Nat.le_refl _⟩
theorem UneAt.more {L : List UInt8} {k m : Nat} {o : List UInt8} {x : UInt8} (h : UneAt L k o) (hm : 1 ≤ m) (hs : une (L.drop k) = (une (L.drop (k + m))).map (x :: ·)) : UneAt L (k + m) (o ++ [x]) := by
  refine ⟨?_, by have := h.2; simp; omega⟩
  rw [h.1, hs]
  cases une (L.drop (k + m)) <;> simp
theorem UneAt.none {L : List UInt8} {k : Nat} {o : List UInt8} (h : UneAt L k o) (hs : une (L.drop k) = Option.none) : une L = Option.none := by rw [h.1, hs]; rfl
theorem UneAt.done {L : List UInt8} {o : List UInt8} (h : UneAt L L.length o) : une L = some o := by
  rw [h.1, List.drop_length, une_nil]; simp
theorem map_le {l : List UInt8} {o : List UInt8} {x : UInt8} (h2 : (une l).map (x :: ·) = some o) (ih : ∀ q, une l = some q → q.length ≤ l.length) : o.length ≤ l.length + 1 := by
  cases h4 : une l with
  | none => rw [h4] at h2; cases h2
  | some q =>
    rw [h4] at h2; cases h2
    have := ih q h4
    simp; omega
theorem une_le0 (n : Nat) : ∀ (L o : List UInt8), L.length ≤ n → une L = some o → o.length ≤ L.length := by
  induction n with
  | zero =>
    intro L o hn h
    obtain rfl : L = [] := List.eq_nil_of_length_eq_zero (by omega)
    rw [une_nil] at h; cases h; simp
  | succ n ih =>
    intro L o hn h
    cases L with
    | nil => rw [une_nil] at h; cases h; simp
    | cons c l =>
      by_cases hc : c = 92
      · subst hc
        cases l with
        | nil => rw [une_end] at h; cases h
        | cons d l =>
          by_cases d1 : d = 92
          · subst d1; rw [une_b] at h
            have := map_le h (fun q hq => ih l q (by simp at hn; omega) hq); simp; omega
          · by_cases d2 : d = 110
            · subst d2; rw [une_n] at h
              have := map_le h (fun q hq => ih l q (by simp at hn; omega) hq); simp; omega
            · by_cases d3 : d = 120
              · subst d3
                cases l with
                | nil => rw [une_x0] at h; cases h
                | cons x l =>
                  cases l with
                  | nil => rw [une_x1] at h; cases h
                  | cons y l =>
                    by_cases f : digI x < 0 ∨ digI y < 0
                    · rw [une_xbad _ _ _ f] at h; cases h
                    · rw [une_x _ _ _ (fun e => f (.inl e)) (fun e => f (.inr e))] at h
                      have := map_le h (fun q hq => ih l q (by simp at hn; omega) hq); simp; omega
              · rw [une_bad d1 d2 d3] at h; cases h
      · rw [une_plain hc] at h
        have := map_le h (fun q hq => ih l q (by simp at hn; omega) hq); simp; omega
theorem une_le {L o : List UInt8} (h : une L = some o) : o.length ≤ L.length := une_le0 _ _ _ (Nat.le_refl _) h
theorem drop1 {L : List UInt8} {k : Nat} {c : UInt8} (h : L[k]? = some c) : L.drop k = c :: L.drop (k + 1) := by
  obtain ⟨h1, h2⟩ := List.getElem?_eq_some_iff.1 h
  rw [List.drop_eq_getElem_cons h1, h2]
theorem drop_all {L : List UInt8} {k : Nat} (h : L.length ≤ k) : L.drop k = [] := List.drop_eq_nil_of_le h
/-- What Unescaped answers: the text, or none. -/
def unB (L : List UInt8) : Bool := match une L with | some o => decide (esc o = L) | none => false
def unT (L : List UInt8) : List UInt8 := match une L with | some o => if esc o = L then o else [] | none => []
end Go.Proofs.Ytnbhologgonjnaa
