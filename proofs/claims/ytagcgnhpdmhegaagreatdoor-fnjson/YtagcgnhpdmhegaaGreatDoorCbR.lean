/-
  Plain: CBOR as the program reads it and as the specification does; that both say the same.
-/
import Derived.Test.YtagcgnhpdmhegaaGreatDoorPkR
namespace Go.Proofs.YtagcgnhpdmhegaaGreatDoor
open Go.RowKit
set_option linter.unusedSimpArgs false
set_option linter.unusedVariables false

/-- A head's number, by the program and by the specification. -/
def headI (L : List UInt8) (p : Nat) : Option (Nat × Nat) := if byAt L p % 32 < 24 then some (byAt L p % 32, p + 1) else if byAt L p % 32 < 28 then numI L (p + 1) (2 ^ (byAt L p % 32 - 24)) else none
def headS (L : List UInt8) (p : Nat) : Option (Nat × Nat) := if byAt L p % 32 < 24 then some (byAt L p % 32, p + 1) else if byAt L p % 32 < 28 then bigS L (p + 1) (2 ^ (byAt L p % 32 - 24)) else none
/-- What stands behind a head. -/
def kindI (L : List UInt8) (R : Nat → Option (VT × Nat)) (major n q : Nat) : Option (VT × Nat) :=
  if major = 0 then some (numT n, q) else if major = 1 then some (numT (-1 - (n : Int)), q) else if major = 3 then wordI L n q
  else if major = 4 then rowT R false n q else if major = 5 then rowT R true n q else none
def rdC (L : List UInt8) : Nat → Nat → Option (VT × Nat)
  | 0, _ => none
  | f + 1, p =>
    if L.length ≤ p then none
    else if byAt L p = 246 then some (nullT, p + 1)
    else if byAt L p = 244 then some (boolT 0, p + 1)
    else if byAt L p = 245 then some (boolT 1, p + 1)
    else match headI L p with
      | none => none
      | some (n, q) => kindI L (rdC L f) (byAt L p / 32) n q
def spWc (L : List UInt8) : Nat → Nat → Option (ByteArray × Nat)
  | 0, _ => none
  | _ + 1, p =>
    if L.length ≤ p then none
    else match headS L p with
      | none => none
      | some (n, q) => if byAt L p / 32 = 3 then takeS L n q else none
def wordS (L : List UInt8) (n q c : Nat) : Option (List VN × Nat × Nat) := match takeS L n q with
  | none => none
  | some (s, r) => some (leafN 4 0 s, r, c)
def kindS (L : List UInt8) (W : Nat → Option (ByteArray × Nat)) (S : Nat → Nat → Option (List VN × Nat × Nat)) (major n deep q c : Nat) : Option (List VN × Nat × Nat) :=
  if major = 0 then some (leafN 3 n ByteArray.empty, q, c) else if major = 1 then some (leafN 3 (-1 - (n : Int)) ByteArray.empty, q, c) else if major = 3 then wordS L n q c
  else if major = 4 then spRow W S false n deep q c else if major = 5 then spRow W S true n deep q c else none
def spC (L : List UInt8) : Nat → Nat → Nat → Nat → Option (List VN × Nat × Nat)
  | 0, _, _, _ => none
  | f + 1, deep, p, c =>
    if 80 < c + 1 ∨ L.length ≤ p then none
    else if byAt L p = 246 then some (leafN 1 0 ByteArray.empty, p + 1, c + 1)
    else if byAt L p = 244 then some (leafN 2 0 ByteArray.empty, p + 1, c + 1)
    else if byAt L p = 245 then some (leafN 2 1 ByteArray.empty, p + 1, c + 1)
    else match headS L p with
      | none => none
      | some (n, q) => kindS L (spWc L f) (spC L f (deep + 1)) (byAt L p / 32) n (deep + 1) q (c + 1)
theorem head_or (L : List UInt8) (p : Nat) : (headI L p = headS L p) ∨ (headI L p = none ∧ ∃ n q, headS L p = some (n, q) ∧ maxI < n) := by
  unfold headI headS
  split
  · exact .inl rfl
  · split
    · rcases numI_or L (p := p + 1) (two_pos (byAt L p % 32 - 24)) with ⟨h1, _⟩ | ⟨h1, h2, h3⟩
      · exact .inl h1
      · exact .inr ⟨h1, _, _, h2, h3⟩
    · exact .inl rfl
theorem kindI_full {L : List UInt8} {f : Nat} {R : Nat → Option (VT × Nat)} (ih : ∀ p t q, R p = some (t, q) → FullT f t) {major n q : Nat} {t : VT} {r : Nat} (h : kindI L R major n q = some (t, r)) : FullT (f + 1) t := by
  unfold kindI at h
  repeat' (split at h)
  all_goals first
    | (cases h; done)
    | (simp only [Option.some.injEq, Prod.mk.injEq] at h; obtain ⟨rfl, _⟩ := h; exact leaf_full f _ _ _)
    | exact rowT_full ih h
    | (unfold wordI at h; split at h
       · simp only [Option.some.injEq, Prod.mk.injEq] at h; obtain ⟨rfl, _⟩ := h; exact leaf_full f _ _ _
       · cases h)
theorem rdC_full (L : List UInt8) : ∀ f p t q, rdC L f p = some (t, q) → FullT f t := by
  intro f
  induction f with
  | zero => intro p t q h; simp [rdC] at h
  | succ f ih =>
    intro p t q h
    rw [rdC] at h
    split at h
    · cases h
    split at h
    · simp only [Option.some.injEq, Prod.mk.injEq] at h; obtain ⟨rfl, _⟩ := h; exact leaf_full f _ _ _
    split at h
    · simp only [Option.some.injEq, Prod.mk.injEq] at h; obtain ⟨rfl, _⟩ := h; exact leaf_full f _ _ _
    split at h
    · simp only [Option.some.injEq, Prod.mk.injEq] at h; obtain ⟨rfl, _⟩ := h; exact leaf_full f _ _ _
    split at h
    · cases h
    · exact kindI_full ih h
theorem rdC_end {L : List UInt8} {f p : Nat} (hp : L.length ≤ p) : rdC L (f + 1) p = none := by rw [rdC, if_pos hp]
theorem rdC_null {L : List UInt8} {f p : Nat} (hp : p < L.length) (h : byAt L p = 246) : rdC L (f + 1) p = some (nullT, p + 1) := by rw [rdC, if_neg (by omega), if_pos h]
theorem rdC_no {L : List UInt8} {f p : Nat} (hp : p < L.length) (h : byAt L p = 244) : rdC L (f + 1) p = some (boolT 0, p + 1) := by rw [rdC, if_neg (by omega), if_neg (by omega), if_pos h]
theorem rdC_yes {L : List UInt8} {f p : Nat} (hp : p < L.length) (h : byAt L p = 245) : rdC L (f + 1) p = some (boolT 1, p + 1) := by rw [rdC, if_neg (by omega), if_neg (by omega), if_neg (by omega), if_pos h]
theorem rdC_head {L : List UInt8} {f p : Nat} (hp : p < L.length) (h : byAt L p < 244 ∨ 246 < byAt L p) : rdC L (f + 1) p = match headI L p with | none => none | some (n, q) => kindI L (rdC L f) (byAt L p / 32) n q := by rw [rdC, if_neg (by omega), if_neg (by omega), if_neg (by omega), if_neg (by omega)]
theorem spC_end {L : List UInt8} {f deep p c : Nat} (h : 80 < c + 1 ∨ L.length ≤ p) : spC L (f + 1) deep p c = none := by rw [spC, if_pos h]
theorem spC_null {L : List UInt8} {f deep p c : Nat} (hp : p < L.length) (hc : c + 1 ≤ 80) (h : byAt L p = 246) : spC L (f + 1) deep p c = some (leafN 1 0 ByteArray.empty, p + 1, c + 1) := by rw [spC, if_neg (by omega), if_pos h]
theorem spC_no {L : List UInt8} {f deep p c : Nat} (hp : p < L.length) (hc : c + 1 ≤ 80) (h : byAt L p = 244) : spC L (f + 1) deep p c = some (leafN 2 0 ByteArray.empty, p + 1, c + 1) := by rw [spC, if_neg (by omega), if_neg (by omega), if_pos h]
theorem spC_yes {L : List UInt8} {f deep p c : Nat} (hp : p < L.length) (hc : c + 1 ≤ 80) (h : byAt L p = 245) : spC L (f + 1) deep p c = some (leafN 2 1 ByteArray.empty, p + 1, c + 1) := by rw [spC, if_neg (by omega), if_neg (by omega), if_neg (by omega), if_pos h]
theorem spC_head {L : List UInt8} {f deep p c : Nat} (hp : p < L.length) (hc : c + 1 ≤ 80) (h : byAt L p < 244 ∨ 246 < byAt L p) : spC L (f + 1) deep p c = match headS L p with | none => none | some (n, q) => kindS L (spWc L f) (spC L f (deep + 1)) (byAt L p / 32) n (deep + 1) q (c + 1) := by rw [spC, if_neg (by omega), if_neg (by omega), if_neg (by omega), if_neg (by omega)]

theorem relW_cbor (L : List UInt8) (f : Nat) : RelW (rdC L f) (spWc L f) := by
  cases f with
  | zero => exact ⟨fun p s q h => by simp [spWc] at h, fun p _ => .inl rfl⟩
  | succ f =>
    have key : ∀ p, p < L.length → byAt L p / 32 = 3 → (∃ s q, spWc L (f + 1) p = some (s, q) ∧ rdC L (f + 1) p = some (wordT s, q)) ∨ (spWc L (f + 1) p = none ∧ (rdC L (f + 1) p = none ∨ ∃ s q, rdC L (f + 1) p = some (wordT s, q) ∧ 60 < s.size)) := by
      intro p hp h3
      have hb : byAt L p < 244 ∨ 246 < byAt L p := by omega
      rw [rdC_head hp hb, spWc, if_neg (by omega)]
      rcases head_or L p with h | ⟨h1, n, q, h2, h4⟩
      · rw [h]
        cases e : headS L p with
        | none => exact .inr ⟨rfl, .inl rfl⟩
        | some x =>
          obtain ⟨n, q⟩ := x
          simp only [h3, if_true, kindI, show ¬ (3 : Nat) = 0 by omega, show ¬ (3 : Nat) = 1 by omega, if_false]
          rcases take_or L n q with ⟨s, r, h1, h2, _⟩ | ⟨h1, h2⟩
          · exact .inl ⟨s, r, h1, h2⟩
          · exact .inr ⟨h1, h2⟩
      · rw [h1, h2]
        refine .inr ⟨?_, .inl rfl⟩
        show (if byAt L p / 32 = 3 then takeS L n q else none) = none
        rw [if_pos h3]
        unfold takeS
        rw [if_neg (fun h => by have := h.1; unfold maxI at h4; omega)]
    refine ⟨fun p s q h => ?_, fun p h => ?_⟩
    · by_cases hp : p < L.length
      · by_cases h3 : byAt L p / 32 = 3
        · rcases key p hp h3 with ⟨s', q', h1, h2⟩ | ⟨h1, _⟩
          · rw [h] at h1
            simp only [Option.some.injEq, Prod.mk.injEq] at h1
            obtain ⟨rfl, rfl⟩ := h1
            exact ⟨_, h2, rfl⟩
          · rw [h] at h1; cases h1
        · rw [spWc, if_neg (by omega)] at h
          cases e : headS L p with
          | none => rw [e] at h; cases h
          | some x => rw [e] at h; simp only [h3, if_false] at h; cases h
      · rw [spWc, if_pos (by omega)] at h; cases h
    · by_cases hp : p < L.length
      · by_cases h3 : byAt L p / 32 = 3
        · rcases key p hp h3 with ⟨s', q', h1, h2⟩ | ⟨h1, h2⟩
          · rw [h] at h1; cases h1
          · rcases h2 with h2 | ⟨s, q, h2, h4⟩
            · exact .inl h2
            · exact .inr ⟨_, q, h2, .inr ⟨s, rfl, big_text h4⟩⟩
        · cases e : rdC L (f + 1) p with
          | none => exact .inl rfl
          | some x =>
            obtain ⟨t, q⟩ := x
            refine .inr ⟨t, q, rfl, .inl ?_⟩
            rw [rdC] at e
            split at e
            · cases e
            split at e
            · simp only [Option.some.injEq, Prod.mk.injEq] at e; obtain ⟨rfl, _⟩ := e; rfl
            split at e
            · simp only [Option.some.injEq, Prod.mk.injEq] at e; obtain ⟨rfl, _⟩ := e; rfl
            split at e
            · simp only [Option.some.injEq, Prod.mk.injEq] at e; obtain ⟨rfl, _⟩ := e; rfl
            split at e
            · cases e
            · unfold kindI at e
              rw [if_neg h3] at e
              repeat' (split at e)
              all_goals first
                | (cases e; done)
                | (simp only [Option.some.injEq, Prod.mk.injEq] at e; obtain ⟨rfl, _⟩ := e; rfl)
                | exact textOf_row e
      · exact .inl (rdC_end (by omega))
theorem relV_cbor (L : List UInt8) : ∀ f deep, RelV f deep (rdC L f) (spC L f deep) := by
  intro f
  induction f with
  | zero => intro deep; exact ⟨rdC_full L 0, fun p c ns q d _ h => by simp [spC] at h, fun p c _ _ => .inl rfl⟩
  | succ f ih =>
    intro deep
    have HW := relW_cbor L f
    have leafY : ∀ (p : Nat) (c : Nat) (ns : List VN) (q d : Nat) (k n : Int) (s : ByteArray) (q' : Nat), c + 1 ≤ 80 → rdC L (f + 1) p = some (.mk k n s [] [], q') → some (leafN k n s, q', c + 1) = some (ns, q, d) →
        d = c + ns.length ∧ d ≤ 80 ∧ 1 ≤ ns.length ∧ ((∃ t, rdC L (f + 1) p = some (t, q) ∧ ns = layT (f + 1) t 0) ∨ (rdC L (f + 1) p = none ∧ Wrong ns)) := by
      intro p c ns q d k n s q' hc hr h
      simp only [Option.some.injEq, Prod.mk.injEq] at h
      obtain ⟨rfl, rfl, rfl⟩ := h
      exact ⟨rfl, hc, by simp [leafN], .inl ⟨_, hr, (leaf_lay f k n s).symm⟩⟩
    refine ⟨rdC_full L (f + 1), fun p c ns q d hc h => ?_, fun p c hc h => ?_⟩
    · by_cases h80 : c + 1 ≤ 80
      · by_cases hp : p < L.length
        · by_cases b4 : byAt L p = 246
          · rw [spC_null hp h80 b4] at h
            exact leafY p c ns q d _ _ _ _ h80 (rdC_null hp b4) h
          by_cases b5 : byAt L p = 244
          · rw [spC_no hp h80 b5] at h
            exact leafY p c ns q d _ _ _ _ h80 (rdC_no hp b5) h
          by_cases b6 : byAt L p = 245
          · rw [spC_yes hp h80 b6] at h
            exact leafY p c ns q d _ _ _ _ h80 (rdC_yes hp b6) h
          have hb : byAt L p < 244 ∨ 246 < byAt L p := by omega
          rw [spC_head hp h80 hb] at h
          have hr := rdC_head (f := f) hp hb
          rcases head_or L p with h1 | ⟨h1, n, q', h2, h4⟩
          · rw [h1] at hr
            cases e : headS L p with
            | none => rw [e] at h; cases h
            | some x =>
              obtain ⟨n, q'⟩ := x
              rw [e] at h hr
              simp only [kindS] at h
              simp only [kindI] at hr
              split at h
              · rename_i m0
                rw [if_pos m0] at hr
                exact leafY p c ns q d _ _ _ _ h80 hr h
              rename_i m0
              rw [if_neg m0] at hr
              split at h
              · rename_i m1
                rw [if_pos m1] at hr
                exact leafY p c ns q d _ _ _ _ h80 hr h
              rename_i m1
              rw [if_neg m1] at hr
              split at h
              · rename_i m3
                rw [if_pos m3] at hr
                unfold wordS at h
                rcases take_or L n q' with ⟨s, r, h1, h2, _⟩ | ⟨h1, _⟩
                · rw [h1] at h
                  rw [h2] at hr
                  exact leafY p c ns q d _ _ _ _ h80 hr h
                · rw [h1] at h; cases h
              rename_i m3
              rw [if_neg m3] at hr
              split at h
              · rename_i m4
                rw [if_pos m4] at hr
                rw [hr]
                exact row_yes (ih (deep + 1)) HW h80 h
              rename_i m4
              rw [if_neg m4] at hr
              split at h
              · rename_i m5
                rw [if_pos m5] at hr
                rw [hr]
                exact row_yes (ih (deep + 1)) HW h80 h
              · cases h
          · rw [h2] at h
            rw [h1] at hr
            simp only [kindS] at h
            unfold maxI at h4
            split at h
            · simp only [Option.some.injEq, Prod.mk.injEq] at h
              obtain ⟨rfl, rfl, rfl⟩ := h
              exact ⟨rfl, h80, by simp [leafN], .inr ⟨hr, leaf_wrong (big_num (.inr (by omega)))⟩⟩
            split at h
            · simp only [Option.some.injEq, Prod.mk.injEq] at h
              obtain ⟨rfl, rfl, rfl⟩ := h
              exact ⟨rfl, h80, by simp [leafN], .inr ⟨hr, leaf_wrong (big_num (.inl (by omega)))⟩⟩
            split at h
            · unfold wordS takeS at h
              rw [if_neg (fun h => by have := h.1; omega)] at h
              cases h
            split at h
            · unfold spRow at h
              rw [if_pos (.inl (by omega))] at h
              cases h
            split at h
            · unfold spRow at h
              rw [if_pos (.inl (by omega))] at h
              cases h
            · cases h
        · rw [spC_end (.inr (by omega))] at h; cases h
      · rw [spC_end (.inl (by omega))] at h; cases h
    · by_cases h80 : c + 1 ≤ 80
      · by_cases hp : p < L.length
        · by_cases b4 : byAt L p = 246
          · rw [spC_null hp h80 b4] at h; cases h
          by_cases b5 : byAt L p = 244
          · rw [spC_no hp h80 b5] at h; cases h
          by_cases b6 : byAt L p = 245
          · rw [spC_yes hp h80 b6] at h; cases h
          have hb : byAt L p < 244 ∨ 246 < byAt L p := by omega
          rw [spC_head hp h80 hb] at h
          have hr := rdC_head (f := f) hp hb
          rcases head_or L p with h1 | ⟨h1, n, q', h2, h4⟩
          · rw [h1] at hr
            cases e : headS L p with
            | none => rw [e] at hr; exact .inl hr
            | some x =>
              obtain ⟨n, q'⟩ := x
              rw [e] at h hr
              simp only [kindS] at h
              simp only [kindI] at hr
              split at h
              · cases h
              rename_i m0
              rw [if_neg m0] at hr
              split at h
              · cases h
              rename_i m1
              rw [if_neg m1] at hr
              split at h
              · rename_i m3
                rw [if_pos m3] at hr
                unfold wordS at h
                rcases take_or L n q' with ⟨s, r, h1, h2, _⟩ | ⟨h1, h2⟩
                · rw [h1] at h; cases h
                · rcases h2 with h2 | ⟨s, r, h2, h3⟩
                  · rw [h2] at hr; exact .inl hr
                  · rw [h2] at hr; exact .inr ⟨_, _, hr, text_doom h3⟩
              rename_i m3
              rw [if_neg m3] at hr
              split at h
              · rename_i m4
                rw [if_pos m4] at hr
                rw [hr]
                exact row_no (ih (deep + 1)) HW h80 h
              rename_i m4
              rw [if_neg m4] at hr
              split at h
              · rename_i m5
                rw [if_pos m5] at hr
                rw [hr]
                exact row_no (ih (deep + 1)) HW h80 h
              · rename_i m5
                rw [if_neg m5] at hr
                exact .inl hr
          · rw [h1] at hr
            exact .inl hr
        · exact .inl (rdC_end (by omega))
      · cases e : rdC L (f + 1) p with
        | none => exact .inl rfl
        | some x => exact .inr ⟨x.1, x.2, rfl, many_doom (rdC_full L (f + 1) p x.1 x.2 e) (by omega)⟩
end Go.Proofs.YtagcgnhpdmhegaaGreatDoor
