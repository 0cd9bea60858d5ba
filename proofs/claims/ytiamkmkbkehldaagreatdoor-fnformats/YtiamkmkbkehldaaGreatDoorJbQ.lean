/-
  Plain: a tree that JSON has written is read again.
-/
import Derived.Test.YtiamkmkbkehldaaGreatDoorJbP
import Derived.Test.YtiamkmkbkehldaaGreatDoorJrV
import Derived.Test.YtiamkmkbkehldaaGreatDoorFBld
import Derived.Test.YtiamkmkbkehldaaGreatDoorYrB
namespace Go.Proofs.YtiamkmkbkehldaaGreatDoor
open Go.RowKit
set_option linter.unusedSimpArgs false
set_option linter.unusedVariables false

theorem at_is {L : List UInt8} {p c : Nat} {x : UInt8} (h : p < L.length ∧ byAt L p = x.toNat) (e : x.toNat = c) : isAt L p c = true := isAt_yes.2 (by rw [← e]; exact h)
def itemJ (F : VT → List UInt8) (lines named : Bool) (deep : Nat) (keys : List ByteArray) (kids : List VT) (k : Nat) : List UInt8 :=
  lineJ lines (deep + 1) ++ ((if named = true then keyJ lines (keyAt keys k) else []) ++ F (kidT kids k))
/-- What stands behind part j: so many more parts. -/
def tailJ (F : VT → List UInt8) (lines named : Bool) (deep : Nat) (keys : List ByteArray) (kids : List VT) : Nat → Nat → List UInt8
  | _, 0 => []
  | j, m + 1 => 44 :: (itemJ F lines named deep keys kids (j + 1) ++ tailJ F lines named deep keys kids (j + 1) m)
theorem parts_more (F : VT → List UInt8) (lines named : Bool) (deep : Nat) (keys : List ByteArray) (kids : List VT) : ∀ m j, partsJ F lines named deep keys kids (j + 1 + m) = partsJ F lines named deep keys kids (j + 1) ++ tailJ F lines named deep keys kids j m := by
  intro m
  induction m with
  | zero => intro j; rw [Nat.add_zero, tailJ, List.append_nil]
  | succ m ih =>
    intro j
    rw [show j + 1 + (m + 1) = j + 1 + 1 + m by omega, ih (j + 1), tailJ, partsJ, if_neg (by omega)]
    unfold itemJ
    simp only [List.append_assoc, List.cons_append, List.nil_append]
theorem parts_all (F : VT → List UInt8) (lines named : Bool) (deep : Nat) (keys : List ByteArray) (kids : List VT) (m : Nat) : partsJ F lines named deep keys kids (m + 1) = itemJ F lines named deep keys kids 0 ++ tailJ F lines named deep keys kids 0 m := by
  rw [show m + 1 = 0 + 1 + m by omega, parts_more, Nat.zero_add, partsJ, partsJ, if_pos rfl]
  unfold itemJ
  simp only [List.append_assoc, List.nil_append]
theorem line_blank (lines : Bool) (d : Nat) : ∀ (j : Nat) (x : UInt8), (lineJ lines d)[j]? = some x → blankC x.toNat = true := by
  intro j x h
  unfold lineJ at h
  split at h
  · cases j with
    | zero => simp at h; subst h; rfl
    | succ j =>
      rw [List.getElem?_cons_succ, List.getElem?_replicate] at h
      split at h
      · simp at h; subst h; rfl
      · cases h
  · simp at h
/-- No blank stands at q. -/
def NoBl (L : List UInt8) (q : Nat) : Prop := ¬ (q < L.length ∧ blankC (byAt L q) = true)
theorem skip_blank {L B : List UInt8} {p : Nat} (hb : ∀ (j : Nat) (x : UInt8), B[j]? = some x → blankC x.toNat = true) (h : Sit L p B) (hn : NoBl L (p + B.length)) : skipJ L p = p + B.length := by
  refine runJ_is (fun j hj => ?_) h.len hn
  have e := List.getElem?_eq_getElem hj
  rw [h.byte e]
  exact hb j _ e
theorem skip_line {L : List UInt8} {p d : Nat} {lines : Bool} (h : Sit L p (lineJ lines d)) (hn : NoBl L (p + (lineJ lines d).length)) : skipJ L p = p + (lineJ lines d).length := skip_blank (line_blank lines d) h hn
theorem nobl_of {L : List UInt8} {q : Nat} (h : blankC (byAt L q) = false) : NoBl L q := fun e => by rw [h] at e; cases e.2
theorem kids_drop {kids : List VT} {j : Nat} (h : j < kids.length) : kids.drop j = kidT kids j :: kids.drop (j + 1) := by
  rw [List.drop_eq_getElem_cons h]
  unfold kidT
  rw [List.getD_eq_getElem?_getD, List.getElem?_eq_getElem h]; rfl
theorem keys_drop {keys : List ByteArray} {j : Nat} (h : j < keys.length) : keys.drop j = keyAt keys j :: keys.drop (j + 1) := by
  rw [List.drop_eq_getElem_cons h]
  unfold keyAt
  rw [List.getD_eq_getElem?_getD, List.getElem?_eq_getElem h]; rfl

theorem tail_len (F : VT → List UInt8) (lines named : Bool) (deep : Nat) (keys : List ByteArray) (kids : List VT) : ∀ m j, m ≤ (tailJ F lines named deep keys kids j m).length := by
  intro m
  induction m with
  | zero => intro j; exact Nat.zero_le _
  | succ m ih => intro j; have := ih (j + 1); rw [tailJ, List.length_cons, List.length_append]; omega
theorem map_keys (keys : List ByteArray) : (List.range keys.length).map (keyAt keys) = keys := by
  refine List.ext_getElem (by simp) (fun i h1 h2 => ?_)
  simp only [List.getElem_map, List.getElem_range]
  unfold keyAt
  rw [List.getD_eq_getElem?_getD, List.getElem?_eq_getElem h2]; rfl
theorem map_kids (kids : List VT) : (List.range kids.length).map (kidT kids) = kids := by
  refine List.ext_getElem (by simp) (fun i h1 h2 => ?_)
  simp only [List.getElem_map, List.getElem_range]
  unfold kidT
  rw [List.getD_eq_getElem?_getD, List.getElem?_eq_getElem h2]; rfl

/-- What stands at the beginning of a value. -/
def FirstJ (L : List UInt8) (p : Nat) : Prop := p < L.length ∧ blankC (byAt L p) = false ∧ byAt L p ≠ 93 ∧ byAt L p ≠ 125
/-- Parts are read, as they are written. -/
def BackJ (L : List UInt8) (R : Nat → Option (VT × Nat)) (F : VT → List UInt8) (t : VT) : Prop := ∀ p, Sit L p (F t) → FirstJ L p ∧ (NoDig L (p + (F t).length) → R p = some (t, skipJ L (p + (F t).length)))
theorem nodig_of {L : List UInt8} {q : Nat} (h : digC (byAt L q) = false) : NoDig L q := fun e => by rw [h] at e; cases e.2
/-- What stands behind a part: a blank, or a sign that ends it. -/
theorem nodig_line {L B : List UInt8} {q d : Nat} {lines : Bool} {x : UInt8} (h : Sit L q (lineJ lines d ++ (x :: B))) (hx : digC x.toNat = false) : NoDig L q := by
  cases lines
  · have := Sit.one (x := x) (B := B) h
    exact nodig_of (by rw [this.2]; exact hx)
  · have e : lineJ true d ++ (x :: B) = 10 :: (List.replicate (2 * d) 32 ++ (x :: B)) := rfl
    rw [e] at h
    exact nodig_of (by rw [h.one.2]; rfl)
theorem items_sit {L : List UInt8} {R : Nat → Option (VT × Nat)} {F : VT → List UInt8} {lines : Bool} {deep : Nat} {keys : List ByteArray} {kids : List VT} (H : ∀ j, j < kids.length → BackJ L R F (kidT kids j)) (hR : ∀ p, R (skipJ L p) = R p) :
    ∀ (m j p k : Nat), j + 1 + m = kids.length → m < k → Sit L p (itemJ F lines false deep keys kids j ++ (tailJ F lines false deep keys kids j m ++ (lineJ lines deep ++ [93]))) →
      itemsJ L R k p = some (kids.drop j, p + (itemJ F lines false deep keys kids j ++ (tailJ F lines false deep keys kids j m ++ (lineJ lines deep ++ [93]))).length) := by
  intro m
  induction m with
  | zero =>
    intro j p k hj hk hs
    obtain ⟨k, rfl⟩ : ∃ k', k = k' + 1 := ⟨k - 1, by omega⟩
    unfold itemJ at hs ⊢
    rw [if_neg (by decide), List.nil_append, List.append_assoc, tailJ, List.nil_append] at *
    obtain ⟨f1, f2⟩ := H j (by omega) _ hs.right.left
    have hsk := skip_line hs.left (nobl_of f1.2.1)
    have hb := hs.right.right
    have hdig := nodig_line (x := 93) (B := []) hb rfl
    have hend := hb.right.one
    have hsk2 := skip_line hb.left (nobl_of (by rw [hend.2]; rfl))
    rw [itemsJ, ← hR p, hsk, f2 hdig]
    dsimp only
    rw [hsk2, if_pos (at_is (c := 93) hend rfl), kids_drop (by omega), List.drop_of_length_le (by omega)]
    refine congrArg some (Prod.ext rfl ?_)
    simp only [List.length_append, List.length_cons, List.length_nil]
    omega
  | succ m ih =>
    intro j p k hj hk hs
    obtain ⟨k, rfl⟩ : ∃ k', k = k' + 1 := ⟨k - 1, by omega⟩
    have hit : itemJ F lines false deep keys kids j = lineJ lines (deep + 1) ++ F (kidT kids j) := by unfold itemJ; rw [if_neg (by decide), List.nil_append]
    have htl : tailJ F lines false deep keys kids j (m + 1) = 44 :: (itemJ F lines false deep keys kids (j + 1) ++ tailJ F lines false deep keys kids (j + 1) m) := rfl
    rw [hit, htl, List.append_assoc, List.cons_append, List.append_assoc] at hs
    obtain ⟨f1, f2⟩ := H j (by omega) _ hs.right.left
    have hsk := skip_line hs.left (nobl_of f1.2.1)
    have hb := hs.right.right
    have hc := hb.one
    have hdig : NoDig L (p + (lineJ lines (deep + 1)).length + (F (kidT kids j)).length) := nodig_of (by rw [hc.2]; rfl)
    have hsk2 : skipJ L (p + (lineJ lines (deep + 1)).length + (F (kidT kids j)).length) = p + (lineJ lines (deep + 1)).length + (F (kidT kids j)).length := runJ_no (by rw [hc.2]; intro e; cases e.2)
    have hr := ih (j + 1) _ k (by omega) (by omega) hb.next
    rw [itemsJ, ← hR p, hsk, f2 hdig]
    dsimp only
    rw [hsk2, if_neg (by rw [isAt_yes]; rintro ⟨_, e⟩; rw [hc.2] at e; cases e), if_pos (at_is (c := 44) hc rfl), hr, kids_drop (j := j) (by omega)]
    refine congrArg some (Prod.ext rfl ?_)
    simp only [hit, htl, List.length_append, List.length_cons, List.length_nil]
    omega
theorem key_sit {L : List UInt8} {p : Nat} {lines : Bool} {key : ByteArray} (hk : textB key = true) (h : Sit L p (keyJ lines key)) (hn : NoBl L (p + (keyJ lines key).length)) :
    isAt L p 34 = true ∧ ∃ q, skipJ L (q + 1) = p + (keyJ lines key).length ∧ txJ L (p + 1) = some (key.data.toList, q) ∧ skipJ L q = q ∧ isAt L q 58 = true := by
  unfold keyJ at h hn ⊢
  obtain ⟨a1, a2⟩ := quoT_sit hk h.left
  have hc := h.right.one
  have hsk : skipJ L (p + (quoT key).length) = p + (quoT key).length := runJ_no (by rw [hc.2]; intro e; cases e.2)
  refine ⟨a1, p + (quoT key).length, ?_, a2, hsk, at_is (c := 58) hc rfl⟩
  have h2 := h.right.next
  have e : p + (quoT key ++ 58 :: (if lines = true then [32] else [])).length = p + (quoT key).length + 1 + (if lines = true then [32] else ([] : List UInt8)).length := by rw [List.length_append, List.length_cons]; omega
  rw [e] at hn ⊢
  refine skip_blank (fun j y hy => ?_) h2 hn
  cases lines
  · simp at hy
  · cases j with
    | zero => simp at hy; subst hy; rfl
    | succ j => simp at hy
theorem pair_sit {L : List UInt8} {R : Nat → Option (VT × Nat)} {F : VT → List UInt8} {lines : Bool} {deep : Nat} {keys : List ByteArray} {kids : List VT} {j p : Nat} (hK : textB (keyAt keys j) = true) (H : BackJ L R F (kidT kids j)) (hR : ∀ p, R (skipJ L p) = R p)
    (hs : Sit L p (itemJ F lines true deep keys kids j)) (hd : NoDig L (p + (itemJ F lines true deep keys kids j).length)) :
    ∃ q0, keyR L p = some (keyAt keys j, q0) ∧ R q0 = some (kidT kids j, skipJ L (p + (itemJ F lines true deep keys kids j).length)) := by
  have hit : itemJ F lines true deep keys kids j = lineJ lines (deep + 1) ++ (keyJ lines (keyAt keys j) ++ F (kidT kids j)) := by unfold itemJ; rw [if_pos rfl]
  rw [hit] at hs hd ⊢
  obtain ⟨f1, f2⟩ := H _ hs.right.right
  obtain ⟨b1, q, b2, b3, b4, b5⟩ := key_sit hK hs.right.left (nobl_of f1.2.1)
  have hsk := skip_line hs.left (nobl_of (by rw [(isAt_yes.1 b1).2]; rfl))
  refine ⟨q + 1, ?_, ?_⟩
  · unfold keyR
    rw [hsk, if_pos b1, b3]
    dsimp only
    rw [b4, if_pos b5, txt_bytes]
  · have e : p + (lineJ lines (deep + 1) ++ (keyJ lines (keyAt keys j) ++ F (kidT kids j))).length = p + (lineJ lines (deep + 1)).length + (keyJ lines (keyAt keys j)).length + (F (kidT kids j)).length := by rw [List.length_append, List.length_append]; omega
    rw [e] at hd ⊢
    rw [← hR, b2]
    exact f2 hd
theorem pairsJ_sit {L : List UInt8} {R : Nat → Option (VT × Nat)} {F : VT → List UInt8} {lines : Bool} {deep : Nat} {keys : List ByteArray} {kids : List VT} (hl : keys.length = kids.length) (hK : ∀ j, j < keys.length → textB (keyAt keys j) = true) (H : ∀ j, j < kids.length → BackJ L R F (kidT kids j)) (hR : ∀ p, R (skipJ L p) = R p) :
    ∀ (m j p k : Nat), j + 1 + m = kids.length → m < k → Sit L p (itemJ F lines true deep keys kids j ++ (tailJ F lines true deep keys kids j m ++ (lineJ lines deep ++ [125]))) →
      pairsJ L R k p = some (keys.drop j, kids.drop j, p + (itemJ F lines true deep keys kids j ++ (tailJ F lines true deep keys kids j m ++ (lineJ lines deep ++ [125]))).length) := by
  intro m
  induction m with
  | zero =>
    intro j p k hj hk hs
    obtain ⟨k, rfl⟩ : ∃ k', k = k' + 1 := ⟨k - 1, by omega⟩
    rw [tailJ, List.nil_append] at hs ⊢
    have hb := hs.right
    have hdig := nodig_line (x := 125) (B := []) hb rfl
    obtain ⟨q0, e1, e2⟩ := pair_sit (hK j (by omega)) (H j (by omega)) hR hs.left hdig
    have hend := hb.right.one
    have hsk2 := skip_line hb.left (nobl_of (by rw [hend.2]; rfl))
    rw [pairsJ, e1]
    dsimp only
    rw [e2]
    dsimp only
    rw [hsk2, if_pos (at_is (c := 125) hend rfl), kids_drop (j := j) (by omega), keys_drop (j := j) (by omega), List.drop_of_length_le (i := j + 1) (l := kids) (by omega), List.drop_of_length_le (i := j + 1) (l := keys) (by omega)]
    refine congrArg some (Prod.ext rfl (Prod.ext rfl ?_))
    simp only [List.length_append, List.length_cons, List.length_nil]
    omega
  | succ m ih =>
    intro j p k hj hk hs
    obtain ⟨k, rfl⟩ : ∃ k', k = k' + 1 := ⟨k - 1, by omega⟩
    have htl : tailJ F lines true deep keys kids j (m + 1) = 44 :: (itemJ F lines true deep keys kids (j + 1) ++ tailJ F lines true deep keys kids (j + 1) m) := rfl
    rw [htl, List.cons_append, List.append_assoc] at hs
    have hb := hs.right
    have hc := hb.one
    have hdig : NoDig L (p + (itemJ F lines true deep keys kids j).length) := nodig_of (by rw [hc.2]; rfl)
    obtain ⟨q0, e1, e2⟩ := pair_sit (hK j (by omega)) (H j (by omega)) hR hs.left hdig
    have hsk2 : skipJ L (p + (itemJ F lines true deep keys kids j).length) = p + (itemJ F lines true deep keys kids j).length := runJ_no (by rw [hc.2]; intro e; cases e.2)
    have hr := ih (j + 1) _ k (by omega) (by omega) hb.next
    rw [pairsJ, e1]
    dsimp only
    rw [e2]
    dsimp only
    rw [hsk2, if_neg (by rw [isAt_yes]; rintro ⟨_, e⟩; rw [hc.2] at e; cases e), if_pos (at_is (c := 44) hc rfl), hr, kids_drop (j := j) (by omega), keys_drop (j := j) (by omega)]
    refine congrArg some (Prod.ext rfl (Prod.ext rfl ?_))
    simp only [htl, List.length_append, List.length_cons, List.length_nil]
    omega
theorem nodeT_text {n : Int} {s : ByteArray} {keys : List ByteArray} {m : Nat} (h : nodeT 4 n s keys m = true) : textB s = true := by
  unfold nodeT nodeB unnamedB namedB at h
  simp only [Bool.and_eq_true, List.length_replicate] at h
  obtain ⟨⟨⟨⟨u1, u2⟩, u3⟩, u4⟩, v⟩ := h
  simpa using v
theorem first_of {L : List UInt8} {p : Nat} {x : UInt8} {B : List UInt8} (h : Sit L p (x :: B)) (h1 : blankC x.toNat = false) (h2 : x.toNat ≠ 93) (h3 : x.toNat ≠ 125) : FirstJ L p := by
  obtain ⟨a, b⟩ := h.one
  exact ⟨a, by rw [b]; exact h1, by rw [b]; exact h2, by rw [b]; exact h3⟩
theorem rdJ_at {L : List UInt8} {g p q : Nat} {t : VT} (hf : FirstJ L p) (h : readJ L (rdJ L g) p = some (t, q)) : rdJ L (g + 1) p = some (t, skipJ L q) := by
  rw [rdJ, show skipJ L p = p from runJ_no (by rw [hf.2.1]; intro e; cases e.2), h]
theorem no_word {L : List UInt8} {p : Nat} (h1 : byAt L p ≠ 110) (h2 : byAt L p ≠ 116) (h3 : byAt L p ≠ 102) : ¬ wordAt L p nullW = true ∧ ¬ wordAt L p trueW = true ∧ ¬ wordAt L p falseW = true :=
  ⟨by rw [nullW, word_other h1]; simp, by rw [trueW, word_other h2]; simp, by rw [falseW, word_other h3]; simp⟩
theorem not_at {L : List UInt8} {p c : Nat} (h : byAt L p ≠ c) : ¬ isAt L p c = true := fun e => h (isAt_yes.1 e).2
/-- What is written is read again. -/
theorem read_json {L : List UInt8} (lines : Bool) : ∀ (f g deep : Nat) (t : VT), f ≤ g → goodT f t → BackJ L (rdJ L g) (jsonT lines f deep) t := by
  intro f
  induction f with
  | zero => intro g deep t _ h; exact h.elim
  | succ f ih =>
    intro g deep t hg h p hs
    obtain ⟨g, rfl⟩ : ∃ k, g = k + 1 := ⟨g - 1, by omega⟩
    obtain ⟨kind, n, s, keys, kids⟩ := t
    have hl := jsonT_leaf lines f deep (kind := kind) (n := n) (s := s) (keys := keys) (kids := kids)
    obtain ⟨h1, h2⟩ := h
    have H : ∀ j, j < kids.length → BackJ L (rdJ L g) (jsonT lines f (deep + 1)) (kidT kids j) := fun j hj => ih g (deep + 1) _ (by omega) (h2 j hj)
    rcases nodeT_says h1 with ⟨k, rfl, rfl, rfl, hm⟩ | ⟨k, hn, rfl, rfl, hm⟩ | ⟨k, hn, rfl, rfl, hm⟩ | ⟨k, rfl, hz, rfl, hm⟩ | ⟨k, rfl, rfl, rfl⟩ | ⟨k, rfl, rfl, hm, hr⟩
    · obtain rfl : kids = [] := List.eq_nil_of_length_eq_zero hm
      subst k
      rw [hl.1 rfl] at hs ⊢
      have hf := first_of hs rfl (by decide) (by decide)
      refine ⟨hf, fun _ => rdJ_at hf ?_⟩
      unfold readJ
      rw [if_pos (show wordAt L p nullW = true from word_sit1 hs)]
      rfl
    · obtain rfl : kids = [] := List.eq_nil_of_length_eq_zero hm
      subst k
      rw [hl.2.1 rfl] at hs ⊢
      rcases hn with rfl | rfl
      · rw [if_neg (by decide)] at hs ⊢
        have hf := first_of hs rfl (by decide) (by decide)
        have hb := hs.one.2
        refine ⟨hf, fun _ => rdJ_at hf ?_⟩
        unfold readJ
        rw [if_neg (by rw [nullW, word_other (by rw [hb]; decide)]; simp), if_neg (by rw [trueW, word_other (by rw [hb]; decide)]; simp), if_pos (show wordAt L p falseW = true from word_sit1 hs)]
        rfl
      · rw [if_pos rfl] at hs ⊢
        have hf := first_of hs rfl (by decide) (by decide)
        have hb := hs.one.2
        refine ⟨hf, fun _ => rdJ_at hf ?_⟩
        unfold readJ
        rw [if_neg (by rw [nullW, word_other (by rw [hb]; decide)]; simp), if_pos (show wordAt L p trueW = true from word_sit1 hs)]
        rfl
    · obtain rfl : kids = [] := List.eq_nil_of_length_eq_zero hm
      subst k
      rw [hl.2.2.1 rfl] at hs ⊢
      obtain ⟨a1, a2⟩ := itoa_first hs
      have a3 : byAt L p = 45 ∨ (48 ≤ byAt L p ∧ byAt L p ≤ 57) := by
        rcases a2 with a2 | a2
        · exact .inl a2
        · unfold digC at a2; simp only [decide_eq_true_eq] at a2; exact .inr a2
      have hf : FirstJ L p := ⟨a1, by unfold blankC; simp only [decide_eq_false_iff_not]; omega, by omega, by omega⟩
      refine ⟨hf, fun hd => rdJ_at hf ?_⟩
      obtain ⟨w1, w2, w3⟩ := no_word (L := L) (p := p) (by omega) (by omega) (by omega)
      unfold readJ
      rw [if_neg w1, if_neg w2, if_neg w3, if_neg (not_at (by omega)), if_neg (not_at (by omega)), if_neg (not_at (by omega)), itoa_sit hn.1 hn.2 hs hd]
      rfl
    · obtain rfl : kids = [] := List.eq_nil_of_length_eq_zero hm
      subst k
      rw [hl.2.2.2.1 rfl] at hs ⊢
      obtain ⟨b1, b2⟩ := quoT_sit (nodeT_text h1) hs
      obtain ⟨a1, a2⟩ := isAt_yes.1 b1
      have hf : FirstJ L p := ⟨a1, by rw [a2]; rfl, by omega, by omega⟩
      refine ⟨hf, fun hd => rdJ_at hf ?_⟩
      obtain ⟨w1, w2, w3⟩ := no_word (L := L) (p := p) (by omega) (by omega) (by omega)
      unfold readJ
      rw [if_neg w1, if_neg w2, if_neg w3, if_pos b1, b2]
      dsimp only
      rw [txt_bytes]
      rfl
    · subst k
      rw [hl.2.2.2.2.1 rfl] at hs ⊢
      have hf := first_of hs rfl (by decide) (by decide)
      have hb := hs.one
      refine ⟨hf, fun _ => rdJ_at hf ?_⟩
      obtain ⟨w1, w2, w3⟩ := no_word (L := L) (p := p) (by rw [hb.2]; decide) (by rw [hb.2]; decide) (by rw [hb.2]; decide)
      unfold readJ
      rw [if_neg w1, if_neg w2, if_neg w3, if_neg (not_at (by rw [hb.2]; decide)), if_pos (at_is (c := 91) hb rfl)]
      have hs1 := hs.next
      unfold listJ
      cases hk : kids.length with
      | zero =>
        obtain rfl : kids = [] := List.eq_nil_of_length_eq_zero hk
        have e : wholeJ (jsonT lines f (deep + 1)) lines false deep [] [] = [] := by unfold wholeJ; simp
        rw [e] at hs1 ⊢
        have hc := Sit.one (B := []) hs1
        rw [show skipJ L (p + 1) = p + 1 from runJ_no (by rw [hc.2]; intro e; cases e.2), if_pos (at_is (c := 93) hc rfl)]
        rfl
      | succ m =>
        have e : wholeJ (jsonT lines f (deep + 1)) lines false deep [] kids ++ [93] = itemJ (jsonT lines f (deep + 1)) lines false deep [] kids 0 ++ (tailJ (jsonT lines f (deep + 1)) lines false deep [] kids 0 m ++ (lineJ lines deep ++ [93])) := by
          unfold wholeJ
          rw [if_neg (by omega), hk, parts_all]
          simp only [List.append_assoc]
        rw [e] at hs1 ⊢
        have hit := items_sit (keys := []) H (fun p => rdJ_skip L g p) m 0 (p + 1) (L.length + 1) (by omega) (by have := hs1.len; rw [List.length_append, List.length_append] at this; have h5 : m ≤ (tailJ (jsonT lines f (deep + 1)) lines false deep [] kids 0 m).length := tail_len _ _ _ _ _ _ m 0; omega) hs1
        have hne : ¬ isAt L (skipJ L (p + 1)) 93 = true := by
          have h6 := hs1.left
          have hij : itemJ (jsonT lines f (deep + 1)) lines false deep [] kids 0 = lineJ lines (deep + 1) ++ jsonT lines f (deep + 1) (kidT kids 0) := by unfold itemJ; rw [if_neg (by decide), List.nil_append]
          rw [hij] at h6
          obtain ⟨f1, f2⟩ := H 0 (by omega) _ h6.right
          rw [skip_line h6.left (nobl_of f1.2.1)]
          exact not_at f1.2.2.1
        rw [if_neg hne, hit]
        refine congrArg some (Prod.ext rfl ?_)
        simp only [List.length_cons]
        omega
    · subst k
      rw [hl.2.2.2.2.2 rfl] at hs ⊢
      have hf := first_of hs rfl (by decide) (by decide)
      have hb := hs.one
      refine ⟨hf, fun _ => rdJ_at hf ?_⟩
      obtain ⟨w1, w2, w3⟩ := no_word (L := L) (p := p) (by rw [hb.2]; decide) (by rw [hb.2]; decide) (by rw [hb.2]; decide)
      unfold readJ
      rw [if_neg w1, if_neg w2, if_neg w3, if_neg (not_at (by rw [hb.2]; decide)), if_neg (not_at (by rw [hb.2]; decide)), if_pos (at_is (c := 123) hb rfl)]
      have hs1 := hs.next
      unfold mapJ
      have hbk := map_back (keys := keys) (kids := kids) hm hr (ps := List.range keys.length) (List.Perm.refl _)
      rw [map_keys, hm, map_kids] at hbk
      cases hk : kids.length with
      | zero =>
        obtain rfl : kids = [] := List.eq_nil_of_length_eq_zero hk
        obtain rfl : keys = [] := List.eq_nil_of_length_eq_zero (by omega)
        have e : wholeJ (jsonT lines f (deep + 1)) lines true deep [] [] = [] := by unfold wholeJ; simp
        rw [e] at hs1 ⊢
        have hc := Sit.one (B := []) hs1
        rw [show skipJ L (p + 1) = p + 1 from runJ_no (by rw [hc.2]; intro e; cases e.2), if_pos (at_is (c := 125) hc rfl), hbk]
        rfl
      | succ m =>
        have e : wholeJ (jsonT lines f (deep + 1)) lines true deep keys kids ++ [125] = itemJ (jsonT lines f (deep + 1)) lines true deep keys kids 0 ++ (tailJ (jsonT lines f (deep + 1)) lines true deep keys kids 0 m ++ (lineJ lines deep ++ [125])) := by
          unfold wholeJ
          rw [if_neg (by omega), hk, parts_all]
          simp only [List.append_assoc]
        rw [e] at hs1 ⊢
        have hK : ∀ j, j < keys.length → textB (keyAt keys j) = true := fun j hj => (rise_at hr hj).1
        have hit := pairsJ_sit hm hK H (fun p => rdJ_skip L g p) m 0 (p + 1) (L.length + 1) (by omega) (by have := hs1.len; rw [List.length_append, List.length_append] at this; have h5 : m ≤ (tailJ (jsonT lines f (deep + 1)) lines true deep keys kids 0 m).length := tail_len _ _ _ _ _ _ m 0; omega) hs1
        have hne : ¬ isAt L (skipJ L (p + 1)) 125 = true := by
          have h6 := hs1.left
          have hij : itemJ (jsonT lines f (deep + 1)) lines true deep keys kids 0 = lineJ lines (deep + 1) ++ (keyJ lines (keyAt keys 0) ++ jsonT lines f (deep + 1) (kidT kids 0)) := by unfold itemJ; rw [if_pos rfl]
          rw [hij] at h6
          have hq : Sit L (p + 1 + (lineJ lines (deep + 1)).length) (34 :: (quo (keyAt keys 0).data.toList ++ [34])) := by have := h6.right.left; unfold keyJ quoT at this; exact this.left
          rw [skip_line h6.left (nobl_of (by rw [hq.one.2]; rfl))]
          exact not_at (by rw [hq.one.2]; decide)
        rw [if_neg hne, hit]
        dsimp only
        rw [List.drop_zero, List.drop_zero, hbk]
        refine congrArg some (Prod.ext rfl ?_)
        simp only [List.length_cons]
        omega
end Go.Proofs.YtiamkmkbkehldaaGreatDoor
