/-
  Plain: CBOR as the program reads it and as the specification does; that both say the same.
-/
import Derived.Test.YtpakfgonemiebaaPkR
import Derived.Test.YtpakfgonemiebaaStepN
import Derived.Test.YtpakfgonemiebaaTree
import Derived.Test.YtpakfgonemiebaaPartOk
import Derived.Test.YtpakfgonemiebaaWn1
namespace Go.Proofs.Ytpakfgonemiebaa
open Go.RowKit
set_option linter.unusedSimpArgs false
set_option linter.unusedVariables false

/-- A head's number, by the program and by the specification. -/
def headI (L : List UInt8) (p : Nat) : Option (Nat × Nat) := if byAt L p % 32 < 24 then some (byAt L p % 32, p + 1) else if byAt L p % 32 < 28 then numI L (p + 1) (2 ^ (byAt L p % 32 - 24)) else none
def headS (L : List UInt8) (p : Nat) : Option (Nat × Nat) := if byAt L p % 32 < 24 then some (byAt L p % 32, p + 1) else if byAt L p % 32 < 28 then bigS L (p + 1) (2 ^ (byAt L p % 32 - 24)) else none
/-- What stands behind a head. -/
def kindI (L : List UInt8) (R : Nat → Option (VT × Nat)) (major n q : Nat) : Option (VT × Nat) :=
  if major = 0 then some (numT n, q) else if major = 1 then some (numT (-1 - (n : Int)), q) else if major = 3 then wordI L n q
  else if major = 4 then rowT R false n q else if major = 5 then rowT R true n q else none
def rdC (L : List UInt8) : Nat → Nat → Option (VT × Nat)
  | 0, _ => none
  | f + 1, p =>
    if L.length ≤ p then none
    else if byAt L p = 246 then some (nullT, p + 1)
    else if byAt L p = 244 then some (boolT 0, p + 1)
    else if byAt L p = 245 then some (boolT 1, p + 1)
    else match headI L p with
      | none => none
      | some (n, q) => kindI L (rdC L f) (byAt L p / 32) n q
def spWc (L : List UInt8) : Nat → Nat → Option (ByteArray × Nat)
  | 0, _ => none
  | _ + 1, p =>
    if L.length ≤ p then none
    else match headS L p with
      | none => none
      | some (n, q) => if byAt L p / 32 = 3 then takeS L n q else none
def wordS (L : List UInt8) (n q c : Nat) : Option (List VN × Nat × Nat) := match takeS L n q with
  | none => none
  | some (s, r) => some (leafN 4 0 s, r, c)
def kindS (L : List UInt8) (W : Nat → Option (ByteArray × Nat)) (S : Nat → Nat → Option (List VN × Nat × Nat)) (major n deep q c : Nat) : Option (List VN × Nat × Nat) :=
  if major = 0 then some (leafN 3 n ByteArray.empty, q, c) else if major = 1 then some (leafN 3 (-1 - (n : Int)) ByteArray.empty, q, c) else if major = 3 then wordS L n q c
  else if major = 4 then spRow W S false n deep q c else if major = 5 then spRow W S true n deep q c else none
def spC (L : List UInt8) : Nat → Nat → Nat → Nat → Option (List VN × Nat × Nat)
  | 0, _, _, _ => none
  | f + 1, deep, p, c =>
    if 80 < c + 1 ∨ L.length ≤ p then none
    else if byAt L p = 246 then some (leafN 1 0 ByteArray.empty, p + 1, c + 1)
    else if byAt L p = 244 then some (leafN 2 0 ByteArray.empty, p + 1, c + 1)
    else if byAt L p = 245 then some (leafN 2 1 ByteArray.empty, p + 1, c + 1)
    else match headS L p with
      | none => none
      | some (n, q) => kindS L (spWc L f) (spC L f (deep + 1)) (byAt L p / 32) n (deep + 1) q (c + 1)
theorem head_or (L : List UInt8) (p : Nat) : (headI L p = headS L p) ∨ (headI L p = none ∧ ∃ n q, headS L p = some (n, q) ∧ maxI < n) := by
  unfold headI headS
  split
  · exact .inl rfl
  · split
    · rcases numI_or L (p := p + 1) (two_pos (byAt L p % 32 - 24)) with ⟨h1, _⟩ | ⟨h1, h2, h3⟩
      · exact .inl h1
      · exact .inr ⟨h1, _, _, h2, h3⟩
    · exact .inl rfl
theorem kindI_full {L : List UInt8} {f : Nat} {R : Nat → Option (VT × Nat)} (ih : ∀ p t q, R p = some (t, q) → FullT f t) {major n q : Nat} {t : VT} {r : Nat} (h : kindI L R major n q = some (t, r)) : FullT (f + 1) t := by
  unfold kindI at h
  repeat' (split at h)
  all_goals first
    | (cases h; done)
    | (simp only [Option.some.injEq, Prod.mk.injEq] at h; obtain ⟨rfl, _⟩ := h; exact leaf_full f _ _ _)
    | exact rowT_full ih h
    | (unfold wordI at h; split at h
       · simp only [Option.some.injEq, Prod.mk.injEq] at h; obtain ⟨rfl, _⟩ := h; exact leaf_full f _ _ _
       · cases h)
theorem rdC_full (L : List UInt8) : ∀ f p t q, rdC L f p = some (t, q) → FullT f t := by
  intro f
  induction f with
  | zero => intro p t q h; simp [rdC] at h
  | succ f ih =>
    intro p t q h
    rw [rdC] at h
    split at h
    · cases h
    split at h
    · simp only [Option.some.injEq, Prod.mk.injEq] at h; obtain ⟨rfl, _⟩ := h; exact leaf_full f _ _ _
    split at h
    · simp only [Option.some.injEq, Prod.mk.injEq] at h; obtain ⟨rfl, _⟩ := h; exact leaf_full f _ _ _
    split at h
    · simp only [Option.some.injEq, Prod.mk.injEq] at h; obtain ⟨rfl, _⟩ := h; exact leaf_full f _ _ _
    split at h
    · cases h
    · exact kindI_full ih h
theorem rdC_end {L : List UInt8} {f p : Nat} (hp : L.length ≤ p) : rdC L (f + 1) p = none := by rw [rdC, if_pos hp]
theorem rdC_null {L : List UInt8} {f p : Nat} (hp : p < L.length) (h : byAt L p = 246) : rdC L (f + 1) p = some (nullT, p + 1) := by rw [rdC, if_neg (by omega), if_pos h]
theorem rdC_no {L : List UInt8} {f p : Nat} (hp : p < L.length) (h : byAt L p = 244) : rdC L (f + 1) p = some (boolT 0, p + 1) := by rw [rdC, if_neg (by omega), if_neg (by omega), if_pos h]
theorem rdC_yes {L : List UInt8} {f p : Nat} (hp : p < L.length) (h : byAt L p = 245) : rdC L (f + 1) p = some (boolT 1, p + 1) := by rw [rdC, if_neg (by omega), if_neg (by omega), if_neg (by omega), if_pos h]
theorem rdC_head {L : List UInt8} {f p : Nat} (hp : p < L.length) (h : byAt L p < 244 ∨ 246 < byAt L p) : rdC L (f + 1) p = match headI L p with | none => none | some (n, q) => kindI L (rdC L f) (byAt L p / 32) n q := by rw [rdC, if_neg (by omega), if_neg (by omega), if_neg (by omega), if_neg (by omega)]
theorem spC_end {L : List UInt8} {f deep p c : Nat} (h : 80 < c + 1 ∨ L.length ≤ p) : spC L (f + 1) deep p c = none := by rw [spC, if_pos h]
theorem spC_null {L : List UInt8} {f deep p c : Nat} (hp : p < L.length) (hc : c + 1 ≤ 80) (h : byAt L p = 246) : spC L (f + 1) deep p c = some (leafN 1 0 ByteArray.empty, p + 1, c + 1) := by rw [spC, if_neg (by omega), if_pos h]
theorem spC_no {L : List UInt8} {f deep p c : Nat} (hp : p < L.length) (hc : c + 1 ≤ 80) (h : byAt L p = 244) : spC L (f + 1) deep p c = some (leafN 2 0 ByteArray.empty, p + 1, c + 1) := by rw [spC, if_neg (by omega), if_neg (by omega), if_pos h]
theorem spC_yes {L : List UInt8} {f deep p c : Nat} (hp : p < L.length) (hc : c + 1 ≤ 80) (h : byAt L p = 245) : spC L (f + 1) deep p c = some (leafN 2 1 ByteArray.empty, p + 1, c + 1) := by rw [spC, if_neg (by omega), if_neg (by omega), if_neg (by omega), if_pos h]
theorem spC_head {L : List UInt8} {f deep p c : Nat} (hp : p < L.length) (hc : c + 1 ≤ 80) (h : byAt L p < 244 ∨ 246 < byAt L p) : spC L (f + 1) deep p c = match headS L p with | none => none | some (n, q) => kindS L (spWc L f) (spC L f (deep + 1)) (byAt L p / 32) n (deep + 1) q (c + 1) := by rw [spC, if_neg (by omega), if_neg (by omega), if_neg (by omega), if_neg (by omega)]

theorem relW_cbor (L : List UInt8) (f : Nat) : RelW (rdC L f) (spWc L f) := by
  cases f with
  | zero => exact ⟨fun p s q h => by simp [spWc] at h, fun p _ => .inl rfl⟩
  | succ f =>
    have key : ∀ p, p < L.length → byAt L p / 32 = 3 → (∃ s q, spWc L (f + 1) p = some (s, q) ∧ rdC L (f + 1) p = some (wordT s, q)) ∨ (spWc L (f + 1) p = none ∧ (rdC L (f + 1) p = none ∨ ∃ s q, rdC L (f + 1) p = some (wordT s, q) ∧ 60 < s.size)) := by
      intro p hp h3
      have hb : byAt L p < 244 ∨ 246 < byAt L p := by omega
      rw [rdC_head hp hb, spWc, if_neg (by omega)]
      rcases head_or L p with h | ⟨h1, n, q, h2, h4⟩
      · rw [h]
        cases e : headS L p with
        | none => exact .inr ⟨rfl, .inl rfl⟩
        | some x =>
          obtain ⟨n, q⟩ := x
          simp only [h3, if_true, kindI, show ¬ (3 : Nat) = 0 by omega, show ¬ (3 : Nat) = 1 by omega, if_false]
          rcases take_or L n q with ⟨s, r, h1, h2, _⟩ | ⟨h1, h2⟩
          · exact .inl ⟨s, r, h1, h2⟩
          · exact .inr ⟨h1, h2⟩
      · rw [h1, h2]
        refine .inr ⟨?_, .inl rfl⟩
        show (if byAt L p / 32 = 3 then takeS L n q else none) = none
        rw [if_pos h3]
        unfold takeS
        rw [if_neg (fun h => by have := h.1; unfold maxI at h4; omega)]
    refine ⟨fun p s q h => ?_, fun p h => ?_⟩
    · by_cases hp : p < L.length
      · by_cases h3 : byAt L p / 32 = 3
        · rcases key p hp h3 with ⟨s', q', h1, h2⟩ | ⟨h1, _⟩
          · rw [h] at h1
            simp only [Option.some.injEq, Prod.mk.injEq] at h1
            obtain ⟨rfl, rfl⟩ := h1
            exact ⟨_, h2, rfl⟩
          · rw [h] at h1; cases h1
        · rw [spWc, if_neg (by omega)] at h
          cases e : headS L p with
          | none => rw [e] at h; cases h
          | some x => rw [e] at h; simp only [h3, if_false] at h; cases h
      · rw [spWc, if_pos (by omega)] at h; cases h
    · by_cases hp : p < L.length
      · by_cases h3 : byAt L p / 32 = 3
        · rcases key p hp h3 with ⟨s', q', h1, h2⟩ | ⟨h1, h2⟩
          · rw [h] at h1; cases h1
          · rcases h2 with h2 | ⟨s, q, h2, h4⟩
            · exact .inl h2
            · exact .inr ⟨_, q, h2, .inr ⟨s, rfl, big_text h4⟩⟩
        · cases e : rdC L (f + 1) p with
          | none => exact .inl rfl
          | some x =>
            obtain ⟨t, q⟩ := x
            refine .inr ⟨t, q, rfl, .inl ?_⟩
            rw [rdC] at e
            split at e
            · cases e
            split at e
            · simp only [Option.some.injEq, Prod.mk.injEq] at e; obtain ⟨rfl, _⟩ := e; rfl
            split at e
            · simp only [Option.some.injEq, Prod.mk.injEq] at e; obtain ⟨rfl, _⟩ := e; rfl
            split at e
            · simp only [Option.some.injEq, Prod.mk.injEq] at e; obtain ⟨rfl, _⟩ := e; rfl
            split at e
            · cases e
            · unfold kindI at e
              rw [if_neg h3] at e
              repeat' (split at e)
              all_goals first
                | (cases e; done)
                | (simp only [Option.some.injEq, Prod.mk.injEq] at e; obtain ⟨rfl, _⟩ := e; rfl)
                | exact textOf_row e
      · exact .inl (rdC_end (by omega))
theorem relV_cbor (L : List UInt8) : ∀ f deep, RelV f deep (rdC L f) (spC L f deep) := by
  intro f
  induction f with
  | zero => intro deep; exact ⟨rdC_full L 0, fun p c ns q d _ h => by simp [spC] at h, fun p c _ _ => .inl rfl⟩
  | succ f ih =>
    intro deep
    have HW := relW_cbor L f
    have leafY : ∀ (p : Nat) (c : Nat) (ns : List VN) (q d : Nat) (k n : Int) (s : ByteArray) (q' : Nat), c + 1 ≤ 80 → rdC L (f + 1) p = some (.mk k n s [] [], q') → some (leafN k n s, q', c + 1) = some (ns, q, d) →
        d = c + ns.length ∧ d ≤ 80 ∧ 1 ≤ ns.length ∧ ((∃ t, rdC L (f + 1) p = some (t, q) ∧ ns = layT (f + 1) t 0) ∨ (rdC L (f + 1) p = none ∧ Wrong ns)) := by
      intro p c ns q d k n s q' hc hr h
      simp only [Option.some.injEq, Prod.mk.injEq] at h
      obtain ⟨rfl, rfl, rfl⟩ := h
      exact ⟨rfl, hc, by simp [leafN], .inl ⟨_, hr, (leaf_lay f k n s).symm⟩⟩
    refine ⟨rdC_full L (f + 1), fun p c ns q d hc h => ?_, fun p c hc h => ?_⟩
    · by_cases h80 : c + 1 ≤ 80
      · by_cases hp : p < L.length
        · by_cases b4 : byAt L p = 246
          · rw [spC_null hp h80 b4] at h
            exact leafY p c ns q d _ _ _ _ h80 (rdC_null hp b4) h
          by_cases b5 : byAt L p = 244
          · rw [spC_no hp h80 b5] at h
            exact leafY p c ns q d _ _ _ _ h80 (rdC_no hp b5) h
          by_cases b6 : byAt L p = 245
          · rw [spC_yes hp h80 b6] at h
            exact leafY p c ns q d _ _ _ _ h80 (rdC_yes hp b6) h
          have hb : byAt L p < 244 ∨ 246 < byAt L p := by omega
          rw [spC_head hp h80 hb] at h
          have hr := rdC_head (f := f) hp hb
          rcases head_or L p with h1 | ⟨h1, n, q', h2, h4⟩
          · rw [h1] at hr
            cases e : headS L p with
            | none => rw [e] at h; cases h
            | some x =>
              obtain ⟨n, q'⟩ := x
              rw [e] at h hr
              simp only [kindS] at h
              simp only [kindI] at hr
              split at h
              · rename_i m0
                rw [if_pos m0] at hr
                exact leafY p c ns q d _ _ _ _ h80 hr h
              rename_i m0
              rw [if_neg m0] at hr
              split at h
              · rename_i m1
                rw [if_pos m1] at hr
                exact leafY p c ns q d _ _ _ _ h80 hr h
              rename_i m1
              rw [if_neg m1] at hr
              split at h
              · rename_i m3
                rw [if_pos m3] at hr
                unfold wordS at h
                rcases take_or L n q' with ⟨s, r, h1, h2, _⟩ | ⟨h1, _⟩
                · rw [h1] at h
                  rw [h2] at hr
                  exact leafY p c ns q d _ _ _ _ h80 hr h
                · rw [h1] at h; cases h
              rename_i m3
              rw [if_neg m3] at hr
              split at h
              · rename_i m4
                rw [if_pos m4] at hr
                rw [hr]
                exact row_yes (ih (deep + 1)) HW h80 h
              rename_i m4
              rw [if_neg m4] at hr
              split at h
              · rename_i m5
                rw [if_pos m5] at hr
                rw [hr]
                exact row_yes (ih (deep + 1)) HW h80 h
              · cases h
          · rw [h2] at h
            rw [h1] at hr
            simp only [kindS] at h
            unfold maxI at h4
            split at h
            · simp only [Option.some.injEq, Prod.mk.injEq] at h
              obtain ⟨rfl, rfl, rfl⟩ := h
              exact ⟨rfl, h80, by simp [leafN], .inr ⟨hr, leaf_wrong (big_num (.inr (by omega)))⟩⟩
            split at h
            · simp only [Option.some.injEq, Prod.mk.injEq] at h
              obtain ⟨rfl, rfl, rfl⟩ := h
              exact ⟨rfl, h80, by simp [leafN], .inr ⟨hr, leaf_wrong (big_num (.inl (by omega)))⟩⟩
            split at h
            · unfold wordS takeS at h
              rw [if_neg (fun h => by have := h.1; omega)] at h
              cases h
            split at h
            · unfold spRow at h
              rw [if_pos (.inl (by omega))] at h
              cases h
            split at h
            · unfold spRow at h
              rw [if_pos (.inl (by omega))] at h
              cases h
            · cases h
        · rw [spC_end (.inr (by omega))] at h; cases h
      · rw [spC_end (.inl (by omega))] at h; cases h
    · by_cases h80 : c + 1 ≤ 80
      · by_cases hp : p < L.length
        · by_cases b4 : byAt L p = 246
          · rw [spC_null hp h80 b4] at h; cases h
          by_cases b5 : byAt L p = 244
          · rw [spC_no hp h80 b5] at h; cases h
          by_cases b6 : byAt L p = 245
          · rw [spC_yes hp h80 b6] at h; cases h
          have hb : byAt L p < 244 ∨ 246 < byAt L p := by omega
          rw [spC_head hp h80 hb] at h
          have hr := rdC_head (f := f) hp hb
          rcases head_or L p with h1 | ⟨h1, n, q', h2, h4⟩
          · rw [h1] at hr
            cases e : headS L p with
            | none => rw [e] at hr; exact .inl hr
            | some x =>
              obtain ⟨n, q'⟩ := x
              rw [e] at h hr
              simp only [kindS] at h
              simp only [kindI] at hr
              split at h
              · cases h
              rename_i m0
              rw [if_neg m0] at hr
              split at h
              · cases h
              rename_i m1
              rw [if_neg m1] at hr
              split at h
              · rename_i m3
                rw [if_pos m3] at hr
                unfold wordS at h
                rcases take_or L n q' with ⟨s, r, h1, h2, _⟩ | ⟨h1, h2⟩
                · rw [h1] at h; cases h
                · rcases h2 with h2 | ⟨s, r, h2, h3⟩
                  · rw [h2] at hr; exact .inl hr
                  · rw [h2] at hr; exact .inr ⟨_, _, hr, text_doom h3⟩
              rename_i m3
              rw [if_neg m3] at hr
              split at h
              · rename_i m4
                rw [if_pos m4] at hr
                rw [hr]
                exact row_no (ih (deep + 1)) HW h80 h
              rename_i m4
              rw [if_neg m4] at hr
              split at h
              · rename_i m5
                rw [if_pos m5] at hr
                rw [hr]
                exact row_no (ih (deep + 1)) HW h80 h
              · rename_i m5
                rw [if_neg m5] at hr
                exact .inl hr
          · rw [h1] at hr
            exact .inl hr
        · exact .inl (rdC_end (by omega))
      · cases e : rdC L (f + 1) p with
        | none => exact .inl rfl
        | some x => exact .inr ⟨x.1, x.2, rfl, many_doom (rdC_full L (f + 1) p x.1 x.2 e) (by omega)⟩
end Go.Proofs.Ytpakfgonemiebaa

/-
  Plain: MessagePack's bytes of a tree.
-/
namespace Go.Proofs.Ytpakfgonemiebaa
open Go.RowKit
set_option linter.unusedSimpArgs false
set_option linter.unusedVariables false

/-- The bytes of the first 'k' kids, each behind its key if 'named'. -/
def packL (F : VT → List UInt8) (named : Bool) (keys : List ByteArray) (kids : List VT) : Nat → List UInt8
  | 0 => []
  | k + 1 => packL F named keys kids k ++ (if named = true then packW (keyAt keys k) else []) ++ F (kidT kids k)
def packT : Nat → VT → List UInt8
  | 0, _ => []
  | f + 1, .mk kind n s keys kids =>
    if kind = 1 then [192] else if kind = 2 then [byI (194 + n)] else if kind = 3 then packI n else if kind = 4 then packW s
    else if kind = 5 then packC 144 220 kids.length ++ packL (packT f) false keys kids kids.length
    else packC 128 222 kids.length ++ packL (packT f) true keys kids kids.length
theorem packT_leaf (f : Nat) {kind n : Int} {s : ByteArray} {keys : List ByteArray} {kids : List VT} :
    (kind = 1 → packT (f + 1) (.mk kind n s keys kids) = [192]) ∧ (kind = 2 → packT (f + 1) (.mk kind n s keys kids) = [byI (194 + n)]) ∧ (kind = 3 → packT (f + 1) (.mk kind n s keys kids) = packI n) ∧ (kind = 4 → packT (f + 1) (.mk kind n s keys kids) = packW s) ∧
    (kind = 5 → packT (f + 1) (.mk kind n s keys kids) = packC 144 220 kids.length ++ packL (packT f) false keys kids kids.length) ∧ (kind = 6 → packT (f + 1) (.mk kind n s keys kids) = packC 128 222 kids.length ++ packL (packT f) true keys kids kids.length) := by
  refine ⟨?_, ?_, ?_, ?_, ?_, ?_⟩ <;> (intro h; subst h; rw [packT]; simp)
/-- What a right node says. -/
theorem node_says {vs : List VN} (hok : okB vs = true) {i : Nat} (hi : i < vs.length) :
    (nodeAt vs i).kind = 1 ∨ ((nodeAt vs i).kind = 2 ∧ 0 ≤ (nodeAt vs i).n ∧ (nodeAt vs i).n ≤ 1) ∨ ((nodeAt vs i).kind = 3 ∧ -1000000000000000 ≤ (nodeAt vs i).n ∧ (nodeAt vs i).n ≤ 1000000000000000) ∨ ((nodeAt vs i).kind = 4 ∧ (nodeAt vs i).s.size ≤ 60) ∨
    ((nodeAt vs i).kind = 5) ∨ ((nodeAt vs i).kind = 6 ∧ (nodeAt vs i).keys.length = (nodeAt vs i).kids.length ∧ ∀ j, j < (nodeAt vs i).keys.length → (keyAt (nodeAt vs i).keys j).size ≤ 60) := by
  obtain ⟨p1, p2, _, p4⟩ := okB_parts hok
  have hn := (p2 i hi).1
  unfold nodeB namedB at hn
  simp only [Bool.and_eq_true] at hn
  have h2 := hn.2
  by_cases k1 : (nodeAt vs i).kind = 1
  · exact Or.inl k1
  by_cases k2 : (nodeAt vs i).kind = 2
  · simp [k2] at h2; exact Or.inr (Or.inl ⟨k2, by omega, by omega⟩)
  by_cases k3 : (nodeAt vs i).kind = 3
  · simp [k3] at h2; exact Or.inr (Or.inr (Or.inl ⟨k3, by omega, by omega⟩))
  by_cases k4 : (nodeAt vs i).kind = 4
  · simp [k4, textB] at h2; exact Or.inr (Or.inr (Or.inr (Or.inl ⟨k4, h2.1⟩)))
  by_cases k5 : (nodeAt vs i).kind = 5
  · exact Or.inr (Or.inr (Or.inr (Or.inr (Or.inl k5))))
  by_cases k6 : (nodeAt vs i).kind = 6
  · simp [k6] at h2
    refine Or.inr (Or.inr (Or.inr (Or.inr (Or.inr ⟨k6, h2.1, fun j hj => ?_⟩))))
    have := List.all_eq_true.1 h2.2 j (List.mem_range.2 hj)
    unfold riseAt at this
    simp [textB] at this
    exact this.1.1
  simp [k1, k2, k3, k4, k5, k6] at h2
theorem packT_pos {vs : List VN} (hok : okB vs = true) (f : Nat) {i : Nat} (hi : i < vs.length) : 1 ≤ (packT (f + 1) (treeOf vs (f + 1) i)).length := by
  rw [treeOf]
  have hl := packT_leaf f (kind := (nodeAt vs i).kind) (n := (nodeAt vs i).n) (s := (nodeAt vs i).s) (keys := (nodeAt vs i).keys) (kids := (nodeAt vs i).kids.map fun k => treeOf vs f k.toNat)
  rcases node_says hok hi with k | ⟨k, _⟩ | ⟨k, _⟩ | ⟨k, _⟩ | k | ⟨k, _⟩
  · rw [hl.1 k]; simp
  · rw [hl.2.1 k]; simp
  · rw [hl.2.2.1 k]; exact (packI_len _).1
  · rw [hl.2.2.2.1 k]; exact (packW_len _).1
  · rw [hl.2.2.2.2.1 k, List.length_append]; have := (packC_len 144 220 ((nodeAt vs i).kids.map fun k => treeOf vs f k.toNat).length).1; omega
  · rw [hl.2.2.2.2.2 k, List.length_append]; have := (packC_len 128 222 ((nodeAt vs i).kids.map fun k => treeOf vs f k.toNat).length).1; omega
/-- No more than so many bytes a node. -/
theorem packT_le {vs : List VN} (hok : okB vs = true) : ∀ (f i : Nat) (sh : Nat), i < vs.length → i < f → (packT f (treeOf vs f i)).length + 70 ≤ 200 * (layT f (treeOf vs f i) sh).length := by
  intro f
  induction f with
  | zero => intro i sh hi hf; omega
  | succ f ih =>
    intro i sh hi hf
    rw [treeOf]
    have hl := packT_leaf f (kind := (nodeAt vs i).kind) (n := (nodeAt vs i).n) (s := (nodeAt vs i).s) (keys := (nodeAt vs i).keys) (kids := (nodeAt vs i).kids.map fun k => treeOf vs f k.toNat)
    rw [layT_eq]
    have hkid : ∀ (named : Bool), (named = true → ∀ j, j < (nodeAt vs i).kids.length → (keyAt (nodeAt vs i).keys j).size ≤ 60) → ∀ k, k ≤ (nodeAt vs i).kids.length →
        (packL (packT f) named (nodeAt vs i).keys ((nodeAt vs i).kids.map fun k => treeOf vs f k.toNat) k).length ≤ 200 * (accT f sh ((nodeAt vs i).kids.map fun k => treeOf vs f k.toNat) k).length := by
      intro named hkey k
      induction k with
      | zero => intro _; simp [packL]
      | succ k ihk =>
        intro hk
        have h1 := ihk (by omega)
        rw [packL, accT_succ f sh (by rw [List.length_map]; omega), List.length_append, List.length_append, List.length_append, kidT_map (by omega)]
        obtain ⟨_, p2, _, _⟩ := okB_parts hok
        have hki := kidsIn_get (p2 i hi).2 (j := k) (by omega)
        have h2 := ih (intAt (nodeAt vs i).kids k).toNat (sh + (accT f sh ((nodeAt vs i).kids.map fun k => treeOf vs f k.toNat) k).length) (by omega) (by omega)
        have h3 : (if named = true then packW (keyAt (nodeAt vs i).keys k) else []).length ≤ 62 := by
          cases named
          · simp
          · have := (packW_len (keyAt (nodeAt vs i).keys k)).2
            have := hkey rfl k (by omega)
            simp; omega
        omega
    simp only [List.length_append, List.length_cons, List.length_nil, List.length_map]
    rcases node_says hok hi with k | ⟨k, _⟩ | ⟨k, _⟩ | ⟨k, hs⟩ | k | ⟨k, hkk, hks⟩
    · rw [hl.1 k]; simp; omega
    · rw [hl.2.1 k]; simp; omega
    · rw [hl.2.2.1 k]; have := (packI_len (nodeAt vs i).n).2; omega
    · rw [hl.2.2.2.1 k]; have := (packW_len (nodeAt vs i).s).2; omega
    · rw [hl.2.2.2.2.1 k, List.length_append]
      have h1 := (packC_len 144 220 ((nodeAt vs i).kids.map fun k => treeOf vs f k.toNat).length).2
      have h2 := hkid false (by simp) _ (Nat.le_refl _)
      simp only [List.length_map] at h1 h2 ⊢
      omega
    · rw [hl.2.2.2.2.2 k, List.length_append]
      have h1 := (packC_len 128 222 ((nodeAt vs i).kids.map fun k => treeOf vs f k.toNat).length).2
      have h2 := hkid true (fun _ j hj => hks j (by omega)) _ (Nat.le_refl _)
      simp only [List.length_map] at h1 h2 ⊢
      omega
theorem packT_16k {vs : List VN} (hok : okB vs = true) {f i : Nat} (hi : i < vs.length) (hf : i < f) : (packT f (treeOf vs f i)).length ≤ 16000 := by
  have h1 := packT_le hok f i 0 hi hf
  have h2 := lay_part hok hf hi
  rw [h2.1] at h1
  have := h2.2
  omega
theorem packL_mono (F : VT → List UInt8) (named : Bool) (keys : List ByteArray) (kids : List VT) {j k : Nat} (h : j ≤ k) : (packL F named keys kids j).length ≤ (packL F named keys kids k).length := by
  induction k with
  | zero => obtain rfl : j = 0 := by omega
            exact Nat.le_refl _
  | succ k ih =>
    by_cases e : j = k + 1
    · subst e; exact Nat.le_refl _
    · have := ih (by omega)
      rw [packL, List.length_append, List.length_append]; omega
end Go.Proofs.Ytpakfgonemiebaa

/-
  Plain: keys by their lengths, and CBOR's bytes of a tree.
-/
namespace Go.Proofs.Ytpakfgonemiebaa
open Go.RowKit
set_option linter.unusedSimpArgs false
set_option linter.unusedVariables false

/-- The lengths of the texts at two places, held against each other. -/
def cfL (l : List ByteArray) (x y : Int) : Int := cmpI (keyAt l x.toNat).size (keyAt l y.toNat).size
def RL (l : List ByteArray) (x y : Int) : Prop := cfL l x y < 0 ∨ (cfL l x y = 0 ∧ x < y)
theorem cfL_lt {l : List ByteArray} {x y : Int} : cfL l x y < 0 ↔ (keyAt l x.toNat).size < (keyAt l y.toNat).size := by
  unfold cfL cmpI; split <;> (try split) <;> omega
theorem cfL_eq {l : List ByteArray} {x y : Int} : cfL l x y = 0 ↔ (keyAt l x.toNat).size = (keyAt l y.toNat).size := by
  unfold cfL cmpI; split <;> (try split) <;> omega
theorem rl_iff {l : List ByteArray} {x y : Int} : RL l x y ↔ (keyAt l x.toNat).size < (keyAt l y.toNat).size ∨ ((keyAt l x.toNat).size = (keyAt l y.toNat).size ∧ x < y) := by
  unfold RL; rw [cfL_lt, cfL_eq]
theorem rl_tot (l : List ByteArray) : Tot (RL l) := by
  refine ⟨fun x y z h1 h2 => ?_, fun x y h1 h2 => ?_, fun x y h => ?_⟩
  · rw [rl_iff] at *; omega
  · rw [rl_iff] at *; omega
  · rw [rl_iff, rl_iff]; omega
theorem rl_cross (l : List ByteArray) : ∀ x y : Int, x < y → (cfL l y x < 0 ↔ RL l y x) := fun x y h => by
  rw [rl_iff, cfL_lt]; omega

/-- The places below 'i' whose texts have this length. -/
def ofLen (l : List ByteArray) (i S : Nat) : List Nat := (List.range i).filter fun p => (keyAt l p).size == S
/-- The places of the texts shorter than 'S', by their lengths. -/
def byLen (l : List ByteArray) (M : Nat) : Nat → List Nat
  | 0 => []
  | S + 1 => byLen l M S ++ ofLen l M S
theorem ofLen_mem {l : List ByteArray} {i S p : Nat} : p ∈ ofLen l i S ↔ p < i ∧ (keyAt l p).size = S := by
  unfold ofLen; rw [List.mem_filter, List.mem_range]; simp
theorem byLen_mem {l : List ByteArray} {M S p : Nat} : p ∈ byLen l M S ↔ p < M ∧ (keyAt l p).size < S := by
  induction S with
  | zero => simp [byLen]
  | succ S ih => rw [byLen, List.mem_append, ih, ofLen_mem]; omega
theorem byLen_rises (l : List ByteArray) (M S : Nat) : (byLen l M S).Pairwise fun (a b : Nat) => RL l (a : Int) (b : Int) := by
  induction S with
  | zero => exact List.Pairwise.nil
  | succ S ih =>
    rw [byLen, List.pairwise_append]
    refine ⟨ih, ?_, fun a ha b hb => ?_⟩
    · have h1 : (ofLen l M S).Pairwise (· < ·) := List.Pairwise.filter _ (List.pairwise_lt_range)
      refine List.Pairwise.imp_of_mem (fun {a b} ha hb hab => ?_) h1
      have := (ofLen_mem.1 ha).2
      have := (ofLen_mem.1 hb).2
      rw [rl_iff, Int.toNat_natCast, Int.toNat_natCast]
      omega
    · have := (byLen_mem.1 ha).2
      have := (ofLen_mem.1 hb).2
      rw [rl_iff, Int.toNat_natCast, Int.toNat_natCast]
      omega
theorem byLen_nodup (l : List ByteArray) (M S : Nat) : (byLen l M S).Nodup := (byLen_rises l M S).imp fun {a b} h e => by subst e; exact (rl_tot l).asym _ _ h h
theorem byLen_perm {l : List ByteArray} {M S : Nat} (h : ∀ p, p < M → (keyAt l p).size < S) : (byLen l M S).Perm (List.range M) :=
  (List.perm_ext_iff_of_nodup (byLen_nodup l M S) List.nodup_range).2 fun p => by rw [byLen_mem, List.mem_range]; exact ⟨fun h => h.1, fun hp => ⟨hp, h p hp⟩⟩
/-- The program's places are those. -/
theorem places_len {l : List ByteArray} {S : Nat} {f : Nat → Int} (h : ∀ p, p < l.length → (keyAt l p).size < S) (hf : Blk (RL l) (fun p => (p : Int)) f 0 l.length) : (List.range l.length).map f = (byLen l l.length S).map fun n : Nat => (n : Int) := by
  refine one_order (rl_tot l) (N := l.length) (rises_list hf.2) ?_ (by simp) (by rw [List.length_map, (byLen_perm h).length_eq]; simp) ?_ ?_
  · rw [List.pairwise_map]; exact byLen_rises l _ _
  · intro x hx
    obtain ⟨j, hj, rfl⟩ := List.mem_map.1 hx
    obtain ⟨q, q1, q2, q3⟩ := hf.1 j (Nat.zero_le _) (List.mem_range.1 hj)
    simp only at q3
    omega
  · intro x hx
    obtain ⟨n, hn, rfl⟩ := List.mem_map.1 hx
    have := (byLen_mem.1 hn).1
    omega
theorem place_at {l : List ByteArray} {S : Nat} {f : Nat → Int} (h : ∀ p, p < l.length → (keyAt l p).size < S) (hf : Blk (RL l) (fun p => (p : Int)) f 0 l.length) {j : Nat} (hj : j < l.length) : ∃ p : Nat, f j = p ∧ p < l.length ∧ (byLen l l.length S)[j]? = some p := by
  have h1 := places_len h hf
  have h2 : ((List.range l.length).map f)[j]? = some (f j) := by simp [hj]
  rw [h1, List.getElem?_map] at h2
  obtain ⟨p, hp, e⟩ := Option.map_eq_some_iff.1 h2
  exact ⟨p, e.symm, (byLen_mem.1 (List.mem_of_getElem? hp)).1, hp⟩

/-- The bytes of the entries at these places. -/
def entC (F : VT → List UInt8) (keys : List ByteArray) (kids : List VT) (ps : List Nat) : List UInt8 := ps.flatMap fun p => cborW (keyAt keys p) ++ F (kidT kids p)
def cborL (F : VT → List UInt8) (kids : List VT) : Nat → List UInt8
  | 0 => []
  | k + 1 => cborL F kids k ++ F (kidT kids k)
def cborT : Nat → VT → List UInt8
  | 0, _ => []
  | f + 1, .mk kind n s keys kids =>
    if kind = 1 then [246] else if kind = 2 then [byI (244 + n)] else if kind = 3 then cborN n else if kind = 4 then cborW s
    else if kind = 5 then headC 4 kids.length ++ cborL (cborT f) kids kids.length
    else headC 5 kids.length ++ entC (cborT f) keys kids (byLen keys kids.length 61)
theorem cborT_leaf (f : Nat) {kind n : Int} {s : ByteArray} {keys : List ByteArray} {kids : List VT} :
    (kind = 1 → cborT (f + 1) (.mk kind n s keys kids) = [246]) ∧ (kind = 2 → cborT (f + 1) (.mk kind n s keys kids) = [byI (244 + n)]) ∧ (kind = 3 → cborT (f + 1) (.mk kind n s keys kids) = cborN n) ∧ (kind = 4 → cborT (f + 1) (.mk kind n s keys kids) = cborW s) ∧
    (kind = 5 → cborT (f + 1) (.mk kind n s keys kids) = headC 4 kids.length ++ cborL (cborT f) kids kids.length) ∧ (kind = 6 → cborT (f + 1) (.mk kind n s keys kids) = headC 5 kids.length ++ entC (cborT f) keys kids (byLen keys kids.length 61)) := by
  refine ⟨?_, ?_, ?_, ?_, ?_, ?_⟩ <;> (intro h; subst h; rw [cborT]; simp)
theorem entC_app (F : VT → List UInt8) (keys : List ByteArray) (kids : List VT) (a b : List Nat) : entC F keys kids (a ++ b) = entC F keys kids a ++ entC F keys kids b := by unfold entC; rw [List.flatMap_append]
theorem entC_one (F : VT → List UInt8) (keys : List ByteArray) (kids : List VT) (p : Nat) : entC F keys kids [p] = cborW (keyAt keys p) ++ F (kidT kids p) := by unfold entC; simp
theorem entC_perm (F : VT → List UInt8) (keys : List ByteArray) (kids : List VT) {a b : List Nat} (h : a.Perm b) : (entC F keys kids a).length = (entC F keys kids b).length := by
  unfold entC
  exact (h.flatMap_right _).length_eq
theorem cborT_pos {vs : List VN} (hok : okB vs = true) (f : Nat) {i : Nat} (hi : i < vs.length) : 1 ≤ (cborT (f + 1) (treeOf vs (f + 1) i)).length := by
  rw [treeOf]
  have hl := cborT_leaf f (kind := (nodeAt vs i).kind) (n := (nodeAt vs i).n) (s := (nodeAt vs i).s) (keys := (nodeAt vs i).keys) (kids := (nodeAt vs i).kids.map fun k => treeOf vs f k.toNat)
  rcases node_says hok hi with k | ⟨k, _⟩ | ⟨k, _⟩ | ⟨k, _⟩ | k | ⟨k, _⟩
  · rw [hl.1 k]; simp
  · rw [hl.2.1 k]; simp
  · rw [hl.2.2.1 k]; exact (cborN_len _).1
  · rw [hl.2.2.2.1 k]; exact (cborW_len _).1
  · rw [hl.2.2.2.2.1 k, List.length_append]; have := (headC_len 4 ((nodeAt vs i).kids.map fun k => treeOf vs f k.toNat).length).1; omega
  · rw [hl.2.2.2.2.2 k, List.length_append]; have := (headC_len 5 ((nodeAt vs i).kids.map fun k => treeOf vs f k.toNat).length).1; omega
/-- No more than so many bytes a node. -/
theorem cborT_le {vs : List VN} (hok : okB vs = true) : ∀ (f i : Nat) (sh : Nat), i < vs.length → i < f → (cborT f (treeOf vs f i)).length + 80 ≤ 200 * (layT f (treeOf vs f i) sh).length := by
  intro f
  induction f with
  | zero => intro i sh hi hf; omega
  | succ f ih =>
    intro i sh hi hf
    rw [treeOf]
    have hl := cborT_leaf f (kind := (nodeAt vs i).kind) (n := (nodeAt vs i).n) (s := (nodeAt vs i).s) (keys := (nodeAt vs i).keys) (kids := (nodeAt vs i).kids.map fun k => treeOf vs f k.toNat)
    rw [layT_eq]
    have hkid : ∀ (E : Nat → List UInt8), E 0 = [] → (∀ k, k < (nodeAt vs i).kids.length → (E (k + 1)).length ≤ (E k).length + 69 + (cborT f (treeOf vs f (intAt (nodeAt vs i).kids k).toNat)).length) → ∀ k, k ≤ (nodeAt vs i).kids.length →
        (E k).length ≤ 200 * (accT f sh ((nodeAt vs i).kids.map fun k => treeOf vs f k.toNat) k).length := by
      intro E hE0 hE k
      induction k with
      | zero => intro _; rw [hE0]; simp
      | succ k ihk =>
        intro hk
        have h1 := ihk (by omega)
        rw [accT_succ f sh (by rw [List.length_map]; omega), List.length_append, kidT_map (by omega)]
        obtain ⟨_, p2, _, _⟩ := okB_parts hok
        have hki := kidsIn_get (p2 i hi).2 (j := k) (by omega)
        have h2 := ih (intAt (nodeAt vs i).kids k).toNat (sh + (accT f sh ((nodeAt vs i).kids.map fun k => treeOf vs f k.toNat) k).length) (by omega) (by omega)
        have h3 := hE k (by omega)
        omega
    simp only [List.length_append, List.length_cons, List.length_nil, List.length_map]
    rcases node_says hok hi with k | ⟨k, _⟩ | ⟨k, _⟩ | ⟨k, hs⟩ | k | ⟨k, hkk, hks⟩
    · rw [hl.1 k]; simp; omega
    · rw [hl.2.1 k]; simp; omega
    · rw [hl.2.2.1 k]; have := (cborN_len (nodeAt vs i).n).2; omega
    · rw [hl.2.2.2.1 k]; have := (cborW_len (nodeAt vs i).s).2; omega
    · rw [hl.2.2.2.2.1 k, List.length_append]
      have h1 := (headC_len 4 ((nodeAt vs i).kids.map fun k => treeOf vs f k.toNat).length).2
      have h2 := hkid (cborL (cborT f) ((nodeAt vs i).kids.map fun k => treeOf vs f k.toNat)) rfl (fun k hk => by rw [cborL, List.length_append, kidT_map hk]; omega) _ (Nat.le_refl _)
      simp only [List.length_map] at h1 h2 ⊢
      omega
    · rw [hl.2.2.2.2.2 k, List.length_append]
      have h1 := (headC_len 5 ((nodeAt vs i).kids.map fun k => treeOf vs f k.toNat).length).2
      have h3 := entC_perm (cborT f) (nodeAt vs i).keys ((nodeAt vs i).kids.map fun k => treeOf vs f k.toNat) (byLen_perm (l := (nodeAt vs i).keys) (M := (nodeAt vs i).kids.length) (S := 61) (fun p hp => by have := hks p (by omega); omega))
      have h2 := hkid (fun k => entC (cborT f) (nodeAt vs i).keys ((nodeAt vs i).kids.map fun k => treeOf vs f k.toNat) (List.range k)) rfl (fun k hk => by
        rw [List.range_succ, entC_app, entC_one, List.length_append, List.length_append, kidT_map hk]
        have := (cborW_len (keyAt (nodeAt vs i).keys k)).2
        have := hks k (by omega)
        omega) _ (Nat.le_refl _)
      simp only [List.length_map] at h1 h2 h3 ⊢
      omega
theorem cborT_16k {vs : List VN} (hok : okB vs = true) {f i : Nat} (hi : i < vs.length) (hf : i < f) : (cborT f (treeOf vs f i)).length ≤ 16000 := by
  have h1 := cborT_le hok f i 0 hi hf
  have h2 := lay_part hok hf hi
  rw [h2.1] at h1
  have := h2.2
  omega
theorem cborL_mono (F : VT → List UInt8) (kids : List VT) {j k : Nat} (h : j ≤ k) : (cborL F kids j).length ≤ (cborL F kids k).length := by
  induction k with
  | zero => obtain rfl : j = 0 := by omega
            exact Nat.le_refl _
  | succ k ih =>
    by_cases e : j = k + 1
    · subst e; exact Nat.le_refl _
    · have := ih (by omega)
      rw [cborL, List.length_append]; omega
theorem entC_take (F : VT → List UInt8) (keys : List ByteArray) (kids : List VT) (ps : List Nat) (j : Nat) : (entC F keys kids (ps.take j)).length ≤ (entC F keys kids ps).length := by
  have : entC F keys kids ps = entC F keys kids (ps.take j) ++ entC F keys kids (ps.drop j) := by rw [← entC_app, List.take_append_drop]
  rw [this, List.length_append]; omega
end Go.Proofs.Ytpakfgonemiebaa
