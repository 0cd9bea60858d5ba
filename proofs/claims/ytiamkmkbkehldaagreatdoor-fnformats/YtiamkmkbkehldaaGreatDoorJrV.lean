/-
  Plain: what is written as YAML is read again.
-/
import Derived.Test.YtiamkmkbkehldaaGreatDoorYrB
import Derived.Test.YtiamkmkbkehldaaGreatDoorYrP
import Derived.Test.YtiamkmkbkehldaaGreatDoorRdN
import Derived.Test.YtiamkmkbkehldaaGreatDoorPure
namespace Go.Proofs.YtiamkmkbkehldaaGreatDoor
open Go.RowKit
set_option linter.unusedSimpArgs false
set_option linter.unusedVariables false

/-- The line of part k, with what belongs to it. -/
def lnK (F : VT → List UInt8) (named : Bool) (pad : Nat) (keys : List ByteArray) (kids : List VT) (k : Nat) : List UInt8 := List.replicate pad 32 ++ (headY named (keyAt keys k) ++ tailY F (kidT kids k))
def lnR (F : VT → List UInt8) (named : Bool) (pad : Nat) (keys : List ByteArray) (kids : List VT) : Nat → Nat → List UInt8
  | _, 0 => []
  | j, m + 1 => lnK F named pad keys kids j ++ lnR F named pad keys kids (j + 1) m
theorem blk_more (F : VT → List UInt8) (named : Bool) (pad : Nat) (keys : List ByteArray) (kids : List VT) : ∀ m j, blkY F named pad keys kids (j + m) = blkY F named pad keys kids j ++ lnR F named pad keys kids j m := by
  intro m
  induction m with
  | zero => intro j; rw [Nat.add_zero, lnR, List.append_nil]
  | succ m ih =>
    intro j
    rw [show j + (m + 1) = j + 1 + m by omega, ih (j + 1), lnR, blkY, List.append_assoc]
    rfl
theorem blk_all (F : VT → List UInt8) (named : Bool) (pad : Nat) (keys : List ByteArray) (kids : List VT) (n : Nat) : blkY F named pad keys kids n = lnR F named pad keys kids 0 n := by
  have := blk_more F named pad keys kids n 0
  rw [Nat.zero_add, blkY, List.nil_append] at this
  exact this
def ylK (G : VT → List YL) (named : Bool) (pad : Nat) (keys : List ByteArray) (kids : List VT) (k : Nat) : List YL :=
  ⟨pad, if named = true then 6 else 5, if named = true then (keyAt keys k).data.toList else [], if (kidsY (kidT kids k)).length = 0 then 32 :: flatY (kidT kids k) else []⟩ :: (if (kidsY (kidT kids k)).length = 0 then [] else G (kidT kids k))
def ylR (G : VT → List YL) (named : Bool) (pad : Nat) (keys : List ByteArray) (kids : List VT) : Nat → Nat → List YL
  | _, 0 => []
  | j, m + 1 => ylK G named pad keys kids j ++ ylR G named pad keys kids (j + 1) m
/-- The lines of a block. -/
def blockL : Nat → Nat → VT → List YL
  | 0, _, _ => []
  | f + 1, pad, .mk kind n s keys kids => ylR (blockL f (pad + 2)) (decide (kind = 6)) pad keys kids 0 kids.length
def ahd (l : List YL) : Option (List YL) → Option (List YL)
  | none => none
  | some z => some (l ++ z)
theorem ahd_app (l m : List YL) (o : Option (List YL)) : ahd l (ahd m o) = ahd (l ++ m) o := by
  cases o with
  | none => rfl
  | some z => simp [ahd]
theorem line_says {pad : Nat} {T r : List UInt8} {k : Int} {key rest : List UInt8} (hc : ∀ c ∈ T, c ≠ 10) (hf : ∃ c q, T = c :: q ∧ c ≠ 32 ∧ c ≠ 35) (hl : lineY T = some (k, key, rest)) : linesY (List.replicate pad 32 ++ (T ++ 10 :: r)) = ahd [⟨pad, k, key, rest⟩] (linesY r) := by
  obtain ⟨c, q, e, h32, h35⟩ := hf
  have hs : saidY (List.replicate pad 32 ++ T) = T := by
    unfold saidY Lib.trimLeftB
    rw [List.dropWhile_append_of_pos (fun a ha => by rw [List.mem_replicate] at ha; rw [ha.2]; rfl), e, List.dropWhile_cons_of_neg (by simpa using h32)]
  rw [← List.append_assoc, linesY_line (fun d hd => by
    rcases List.mem_append.1 hd with h | h
    · rw [List.mem_replicate] at h; rw [h.2]; decide
    · exact hc d h), hs, if_neg, hl]
  · simp only [List.length_append, List.length_replicate, Nat.add_sub_cancel]
    cases linesY r <;> rfl
  · rintro (h | h)
    · rw [e] at h; cases h
    · rw [e, byAt_cons] at h
      exact h35 (UInt8.toNat_inj.1 h)
theorem head_ok {named : Bool} {key : ByteArray} (hk : named = true → textB key = true) {R : List UInt8} (hR : R = [] ∨ ∃ S, R = 32 :: S) (hc : ∀ c ∈ R, c ≠ 10) :
    lineY (headY named key ++ R) = some (if named = true then 6 else 5, if named = true then key.data.toList else [], R) ∧ (∀ c ∈ headY named key ++ R, c ≠ 10) ∧ ∃ c q, headY named key ++ R = c :: q ∧ c ≠ 32 ∧ c ≠ 35 := by
  cases named
  · refine ⟨?_, ?_, 45, R, rfl, by decide, by decide⟩
    · show lineY (45 :: R) = _
      unfold lineY
      rw [if_pos]
      · rfl
      · rcases hR with rfl | ⟨S, rfl⟩
        · exact .inl rfl
        · exact .inr (by simp [Lib.hasPrefix, List.isPrefixOf])
    · intro c h
      rcases List.mem_cons.1 h with rfl | h
      · decide
      · exact hc c h
  · obtain ⟨h1, h2, c, r, h3, h4, h5⟩ := key_line (hk rfl) R
    have e : headY true key ++ R = wordY key ++ 58 :: R := by unfold headY; simp
    rw [e]
    refine ⟨h1, ?_, c, r ++ 58 :: R, by rw [h3]; rfl, h4, h5⟩
    intro d hd
    rcases List.mem_append.1 hd with h | h
    · exact h2 d h
    · rcases List.mem_cons.1 h with rfl | h
      · decide
      · exact hc d h
theorem lnK_lines {f : Nat} {F : VT → List UInt8} {G : VT → List YL} {named : Bool} {pad : Nat} {keys : List ByteArray} {kids : List VT} {k : Nat} (hk : named = true → textB (keyAt keys k) = true) (hg : goodT f (kidT kids k))
    (hF : (kidsY (kidT kids k)).length ≠ 0 → ∀ r, linesY (F (kidT kids k) ++ r) = ahd (G (kidT kids k)) (linesY r)) (r : List UInt8) : linesY (lnK F named pad keys kids k ++ r) = ahd (ylK G named pad keys kids k) (linesY r) := by
  unfold lnK tailY ylK
  by_cases h0 : (kidsY (kidT kids k)).length = 0
  · have hfl := flat_ok hg h0
    rw [if_pos h0, if_pos h0, if_pos h0]
    obtain ⟨a1, a2, a3⟩ := head_ok hk (R := 32 :: flatY (kidT kids k)) (.inr ⟨_, rfl⟩) (fun c hc => by
      rcases List.mem_cons.1 hc with rfl | h
      · decide
      · exact hfl.clean c h)
    rw [show List.replicate pad (32 : UInt8) ++ (headY named (keyAt keys k) ++ 32 :: (flatY (kidT kids k) ++ [10])) ++ r = List.replicate pad 32 ++ ((headY named (keyAt keys k) ++ 32 :: flatY (kidT kids k)) ++ 10 :: r) by simp, line_says a2 a3 a1]
  · rw [if_neg h0, if_neg h0, if_neg h0]
    obtain ⟨a1, a2, a3⟩ := head_ok hk (R := []) (.inl rfl) (fun c hc => by cases hc)
    rw [List.append_nil] at a1 a2 a3
    rw [show List.replicate pad (32 : UInt8) ++ (headY named (keyAt keys k) ++ 10 :: F (kidT kids k)) ++ r = List.replicate pad 32 ++ (headY named (keyAt keys k) ++ 10 :: (F (kidT kids k) ++ r)) by simp, line_says a2 a3 a1, hF h0, ahd_app]
    rfl
theorem lnR_lines {F : VT → List UInt8} {G : VT → List YL} {named : Bool} {pad : Nat} {keys : List ByteArray} {kids : List VT} (H : ∀ k, k < kids.length → ∀ r, linesY (lnK F named pad keys kids k ++ r) = ahd (ylK G named pad keys kids k) (linesY r)) : ∀ m j, j + m ≤ kids.length → ∀ r, linesY (lnR F named pad keys kids j m ++ r) = ahd (ylR G named pad keys kids j m) (linesY r) := by
  intro m
  induction m with
  | zero => intro j _ r; rw [lnR, ylR, List.nil_append]; cases linesY r <;> rfl
  | succ m ih =>
    intro j hj r
    rw [lnR, List.append_assoc, H j (by omega), ih (j + 1) (by omega), ahd_app]
    rfl
/-- What a right node with parts is. -/
theorem whole_says {kind n : Int} {s : ByteArray} {keys : List ByteArray} {m : Nat} (h : nodeT kind n s keys m = true) (h0 : m ≠ 0) : n = 0 ∧ s = ByteArray.empty ∧ ((kind = 5 ∧ keys = []) ∨ (kind = 6 ∧ keys.length = m ∧ riseB keys = true)) := by
  rcases nodeT_says h with ⟨_, _, _, _, hm⟩ | ⟨_, _, _, _, hm⟩ | ⟨_, _, _, _, hm⟩ | ⟨_, _, _, _, hm⟩ | ⟨k, a, b, c⟩ | ⟨k, a, b, c, d⟩
  · exact absurd hm h0
  · exact absurd hm h0
  · exact absurd hm h0
  · exact absurd hm h0
  · exact ⟨a, b, .inl ⟨k, c⟩⟩
  · exact ⟨a, b, .inr ⟨k, c, d⟩⟩
theorem named_text {kind : Int} {keys : List ByteArray} {m : Nat} (h : (kind = 5 ∧ keys = []) ∨ (kind = 6 ∧ keys.length = m ∧ riseB keys = true)) {k : Nat} (hk : k < m) : decide (kind = 6) = true → textB (keyAt keys k) = true := by
  intro e
  rcases h with ⟨h, _⟩ | ⟨_, h1, h2⟩
  · subst h; simp at e
  · exact (rise_at h2 (by omega)).1
theorem block_lines : ∀ (f pad : Nat) (t : VT), goodT f t → (kidsY t).length ≠ 0 → ∀ r, linesY (blockY f pad t ++ r) = ahd (blockL f pad t) (linesY r) := by
  intro f
  induction f with
  | zero => intro pad t h; exact h.elim
  | succ f ih =>
    intro pad t h h0 r
    obtain ⟨kind, n, s, keys, kids⟩ := t
    obtain ⟨h1, h2⟩ := h
    obtain ⟨_, _, hw⟩ := whole_says h1 h0
    rw [blockY, blk_all, blockL]
    exact lnR_lines (fun k hk r => lnK_lines (named_text hw hk) (h2 k hk) (fun hn r => ih (pad + 2) _ (h2 k hk) hn r) r) kids.length 0 (by omega) r

def rwR (named : Bool) (keys : List ByteArray) (kids : List VT) : Nat → Nat → List (Int × List UInt8 × VT)
  | _, 0 => []
  | j, m + 1 => (if named = true then 6 else 5, if named = true then (keyAt keys j).data.toList else [], kidT kids j) :: rwR named keys kids (j + 1) m
theorem rwR_kids (named : Bool) (keys : List ByteArray) (kids : List VT) : ∀ m j, j + m = kids.length → (rwR named keys kids j m).map (fun y => y.2.2) = kids.drop j := by
  intro m
  induction m with
  | zero => intro j h; rw [List.drop_eq_nil_of_le (by omega)]; rfl
  | succ m ih =>
    intro j h
    rw [rwR, List.map_cons, ih (j + 1) (by omega), List.drop_eq_getElem_cons (show j < kids.length by omega)]
    congr 1
    show kidT kids j = _
    unfold kidT
    rw [List.getD_eq_getElem?_getD, List.getElem?_eq_getElem (show j < kids.length by omega)]; rfl
theorem rwR_keys (keys : List ByteArray) (kids : List VT) : ∀ m j, j + m = keys.length → (rwR true keys kids j m).map (fun y => txt y.2.1) = keys.drop j := by
  intro m
  induction m with
  | zero => intro j h; rw [List.drop_eq_nil_of_le (by omega)]; rfl
  | succ m ih =>
    intro j h
    rw [rwR, List.map_cons, ih (j + 1) (by omega), List.drop_eq_getElem_cons (show j < keys.length by omega)]
    congr 1
    show txt (keyAt keys j).data.toList = _
    rw [txt_bytes]
    unfold keyAt
    rw [List.getD_eq_getElem?_getD, List.getElem?_eq_getElem (show j < keys.length by omega)]; rfl
theorem rwR_kind (named : Bool) (keys : List ByteArray) (kids : List VT) : ∀ m j, ∀ y ∈ rwR named keys kids j m, y.1 = if named = true then 6 else 5 := by
  intro m
  induction m with
  | zero => intro j y hy; cases hy
  | succ m ih =>
    intro j y hy
    rw [rwR] at hy
    rcases List.mem_cons.1 hy with rfl | h
    · rfl
    · exact ih _ y h
theorem map_same_keys {keys : List ByteArray} {kids : List VT} (hl : keys.length = kids.length) (hr : riseB keys = true) : mapT keys kids = .mk 6 0 ByteArray.empty keys kids := by
  have h := map_back hl hr (ps := List.range keys.length) (List.Perm.refl _)
  rw [range_keys, hl, range_kids] at h
  exact h
theorem whole_back {kind : Int} {keys : List ByteArray} {kids : List VT} (hw : (kind = 5 ∧ keys = []) ∨ (kind = 6 ∧ keys.length = kids.length ∧ riseB keys = true)) (h0 : kids.length ≠ 0) : wholeV (rwR (decide (kind = 6)) keys kids 0 kids.length) = some (.mk kind 0 ByteArray.empty keys kids) := by
  have hkids := rwR_kids (decide (kind = 6)) keys kids kids.length 0 (by omega)
  have hall := rwR_kind (decide (kind = 6)) keys kids kids.length 0
  have hkeys := rwR_keys keys kids kids.length 0
  obtain ⟨m, hm⟩ : ∃ m, kids.length = m + 1 := ⟨kids.length - 1, by omega⟩
  obtain ⟨l, hl⟩ : ∃ l, rwR (decide (kind = 6)) keys kids 0 kids.length = l := ⟨_, rfl⟩
  rw [hl] at hkids hall ⊢
  cases l with
  | nil => rw [hm, rwR] at hl; cases hl
  | cons x l =>
    have hx := hall x (by simp)
    rw [wholeV, if_pos (fun y hy => by rw [hall y (by simp [hy]), hx]), hkids, List.drop_zero]
    rcases hw with ⟨rfl, rfl⟩ | ⟨rfl, h1, h2⟩
    · rw [hx, if_pos (by rfl)]; rfl
    · rw [hx, if_neg (by decide), if_pos (by rfl)]
      have e : decide ((6 : Int) = 6) = true := rfl
      rw [e] at hl
      have := hkeys (by omega)
      rw [hl] at this
      rw [this, List.drop_zero, map_same_keys h1 h2]
/-- What stands behind a block has fewer blanks ahead. -/
def Outer (pad : Nat) (z : List YL) : Prop := ∀ x r, z = x :: r → x.ahead < pad
theorem rows_back {f : Nat} {G : VT → List YL} {named : Bool} {pad : Nat} {keys : List ByteArray} {kids : List VT} (hg : ∀ k, k < kids.length → goodT f (kidT kids k))
    (hG : ∀ k, k < kids.length → (kidsY (kidT kids k)).length ≠ 0 → ∀ z, Outer (pad + 2) z → blockM (pad + 2) (G (kidT kids k) ++ z) = some (kidT kids k, z)) {z : List YL} (hz : Outer pad z) :
    ∀ m j, j + m ≤ kids.length → rowsM pad (ylR G named pad keys kids j m ++ z) = some (rwR named keys kids j m, z) := by
  intro m
  induction m with
  | zero =>
    intro j _
    rw [ylR, List.nil_append, rwR]
    cases z with
    | nil => rfl
    | cons x r => exact rowsM_off (by have := hz x r rfl; omega)
  | succ m ih =>
    intro j hj
    have ih := ih (j + 1) (by omega)
    have hout : Outer (pad + 2) (ylR G named pad keys kids (j + 1) m ++ z) := by
      intro x r e
      cases m with
      | zero => rw [ylR, List.nil_append] at e; have := hz x r e; omega
      | succ m =>
        rw [ylR, ylK] at e
        simp only [List.cons_append, List.cons.injEq] at e
        rw [← e.1]
        show pad < pad + 2
        omega
    obtain ⟨Z, hZ⟩ : ∃ Z, ylR G named pad keys kids (j + 1) m ++ z = Z := ⟨_, rfl⟩
    rw [ylR, List.append_assoc, hZ, ylK, List.cons_append, rowsM_on (ahead := pad) rfl, rwR]
    rw [hZ] at ih hout
    have hp : partM pad ⟨pad, if named = true then 6 else 5, if named = true then (keyAt keys j).data.toList else [], if (kidsY (kidT kids j)).length = 0 then 32 :: flatY (kidT kids j) else []⟩ ((if (kidsY (kidT kids j)).length = 0 then [] else G (kidT kids j)) ++ Z) = some (kidT kids j, Z) := by
      unfold partM
      by_cases h0 : (kidsY (kidT kids j)).length = 0
      · have hfl := flat_ok (hg j (by omega)) h0
        simp only [if_pos h0]
        rw [if_neg (by simp), if_pos (by simp [Lib.hasPrefix, List.isPrefixOf]), List.drop_one, List.tail_cons, hfl.short]
        rfl
      · simp only [if_neg h0]
        rw [if_pos trivial]
        exact hG j (by omega) h0 Z hout
    rw [hp]
    simp only [ih]
theorem block_back : ∀ (f pad : Nat) (t : VT), goodT f t → (kidsY t).length ≠ 0 → ∀ z, Outer pad z → blockM pad (blockL f pad t ++ z) = some (t, z) := by
  intro f
  induction f with
  | zero => intro pad t h; exact h.elim
  | succ f ih =>
    intro pad t h h0 z hz
    obtain ⟨kind, n, s, keys, kids⟩ := t
    obtain ⟨h1, h2⟩ := h
    obtain ⟨rfl, rfl, hw⟩ := whole_says h1 h0
    rw [blockL]
    unfold blockM
    rw [rows_back h2 (fun k hk hn z hz => ih (pad + 2) _ (h2 k hk) hn z hz) hz kids.length 0 (by omega)]
    simp only
    rw [whole_back hw h0]
/-- The lines of a value. -/
def topL (f : Nat) (t : VT) : List YL := if (kidsY t).length = 0 then [⟨0, 0, [], flatY t⟩] else blockL f 0 t
theorem yaml_lines {f : Nat} {t : VT} (hg : goodT f t) (r : List UInt8) : linesY (yamlT f t ++ r) = ahd (topL f t) (linesY r) := by
  unfold yamlT topL
  by_cases h0 : (kidsY t).length = 0
  · rw [if_pos h0, if_pos h0]
    have hfl := flat_ok hg h0
    have h := line_says (pad := 0) (r := r) hfl.clean hfl.first hfl.line
    rw [List.replicate_zero, List.nil_append] at h
    rw [List.append_assoc]
    exact h
  · rw [if_neg h0, if_neg h0]
    exact block_lines f 0 t hg h0 r
theorem top_back {f : Nat} {t : VT} (hg : goodT f t) : rdLines (topL f t) = some t := by
  unfold topL
  by_cases h0 : (kidsY t).length = 0
  · rw [if_pos h0]
    show (if (0 : Nat) = 0 ∧ (0 : Int) = 0 then shortY (flatY t) else topY [⟨0, 0, [], flatY t⟩]) = _
    rw [if_pos ⟨rfl, rfl⟩]
    exact (flat_ok hg h0).short
  · rw [if_neg h0]
    have hb := block_back f 0 t hg h0 [] (fun x r e => by cases e)
    rw [List.append_nil] at hb
    have htop : topY (blockL f 0 t) = some t := by unfold topY; rw [hb]; rfl
    have hk : ∀ x, blockL f 0 t = [x] → ¬ (x.ahead = 0 ∧ x.kind = 0) := by
      intro x e
      cases f with
      | zero => cases e
      | succ f =>
        obtain ⟨kind, n, s, keys, kids⟩ := t
        obtain ⟨m, hm⟩ : ∃ m, kids.length = m + 1 := ⟨kids.length - 1, by have : kids.length ≠ 0 := h0; omega⟩
        rw [blockL, hm, ylR, ylK] at e
        simp only [List.cons_append, List.cons.injEq] at e
        rw [← e.1]
        rintro ⟨_, h⟩
        revert h
        show ¬ ((if decide (kind = 6) = true then (6 : Int) else 5) = 0)
        split <;> decide
    obtain ⟨ls, hls⟩ : ∃ ls, blockL f 0 t = ls := ⟨_, rfl⟩
    rw [hls] at htop hk ⊢
    unfold rdLines
    split
    · rename_i x
      rw [if_neg (hk x rfl)]; exact htop
    · exact htop
theorem read_yaml {f : Nat} {t : VT} (hg : goodT f t) : rdYaml (yamlT f t) = some t := by
  have h := yaml_lines hg []
  rw [List.append_nil, linesY_nil] at h
  unfold rdYaml
  rw [h]
  show rdLines (topL f t ++ []) = _
  rw [List.append_nil, top_back hg]
end Go.Proofs.YtiamkmkbkehldaaGreatDoor

/-
  Plain: values read as JSON, by the program (trees, no bounds) and by the document's model (nodes, bounds), and that the two say the same.
-/
namespace Go.Proofs.YtiamkmkbkehldaaGreatDoor
open Go.RowKit
set_option linter.unusedSimpArgs false
set_option linter.unusedVariables false

def itemsJ (L : List UInt8) (R : Nat → Option (VT × Nat)) : Nat → Nat → Option (List VT × Nat)
  | 0, _ => none
  | k + 1, p => match R p with
    | none => none
    | some (t, q) => if isAt L q 93 = true then some ([t], q + 1)
      else if isAt L q 44 = true then match itemsJ L R k (q + 1) with
        | none => none
        | some (l, z) => some (t :: l, z)
      else none
def listJ (L : List UInt8) (R : Nat → Option (VT × Nat)) (p : Nat) : Option (VT × Nat) :=
  if isAt L (skipJ L p) 93 = true then some (listT [], skipJ L p + 1) else match itemsJ L R (L.length + 1) p with
    | none => none
    | some (l, z) => some (listT l, z)
/-- A key with its colon. -/
def keyR (L : List UInt8) (p : Nat) : Option (ByteArray × Nat) :=
  if isAt L (skipJ L p) 34 = true then match txJ L (skipJ L p + 1) with
    | none => none
    | some (l, q) => if isAt L (skipJ L q) 58 = true then some (txt l, skipJ L q + 1) else none
  else none
def pairsJ (L : List UInt8) (R : Nat → Option (VT × Nat)) : Nat → Nat → Option (List ByteArray × List VT × Nat)
  | 0, _ => none
  | k + 1, p => match keyR L p with
    | none => none
    | some (s, q0) => match R q0 with
      | none => none
      | some (t, q) => if isAt L q 125 = true then some ([s], [t], q + 1)
        else if isAt L q 44 = true then match pairsJ L R k (q + 1) with
          | none => none
          | some (ks, l, z) => some (s :: ks, t :: l, z)
        else none
def mapJ (L : List UInt8) (R : Nat → Option (VT × Nat)) (p : Nat) : Option (VT × Nat) :=
  if isAt L (skipJ L p) 125 = true then some (mapT [] [], skipJ L p + 1) else match pairsJ L R (L.length + 1) p with
    | none => none
    | some (ks, l, z) => some (mapT ks l, z)
def readJ (L : List UInt8) (R : Nat → Option (VT × Nat)) (p : Nat) : Option (VT × Nat) :=
  if wordAt L p nullW = true then some (nullT, p + 4)
  else if wordAt L p trueW = true then some (boolT 1, p + 4)
  else if wordAt L p falseW = true then some (boolT 0, p + 5)
  else if isAt L p 34 = true then match txJ L (p + 1) with
    | none => none
    | some (l, q) => some (wordT (txt l), q)
  else if isAt L p 91 = true then listJ L R (p + 1)
  else if isAt L p 123 = true then mapJ L R (p + 1)
  else match numJ L p with
    | none => none
    | some (v, q) => some (numT v, q)
/-- A value with the blanks around it. -/
def rdJ (L : List UInt8) : Nat → Nat → Option (VT × Nat)
  | 0, _ => none
  | f + 1, p => match readJ L (rdJ L f) (skipJ L p) with
    | none => none
    | some (t, q) => some (t, skipJ L q)
theorem rdJ_skip (L : List UInt8) (f p : Nat) : rdJ L f (skipJ L p) = rdJ L f p := by
  cases f with
  | zero => rfl
  | succ f =>
    have e : skipJ L (skipJ L p) = skipJ L p := runJ_idem _ _ _
    rw [rdJ, rdJ, e]

structure RelJ (f deep : Nat) (R : Nat → Option (VT × Nat)) (S : Nat → Nat → Option (List VN × Nat × Nat)) : Prop where
  full : ∀ p t q, R p = some (t, q) → FullT f t
  yes : ∀ p c ns q d, c ≤ 80 → S p c = some (ns, q, d) → d = c + ns.length ∧ d ≤ 80 ∧ 1 ≤ ns.length ∧ ∃ t, R p = some (t, q) ∧ ns = layT f t 0
  no : ∀ p c, c ≤ 80 → S p c = none → R p = none ∨ ∃ t q, R p = some (t, q) ∧ Doom f c deep t
theorem RelJ.rel {f deep : Nat} {R : Nat → Option (VT × Nat)} {S : Nat → Nat → Option (List VN × Nat × Nat)} (H : RelJ f deep R S) : RelV f deep R S :=
  ⟨H.full, fun p c ns q d hc h => by obtain ⟨a, b, c, t, e⟩ := H.yes p c ns q d hc h; exact ⟨a, b, c, .inl ⟨t, e⟩⟩, H.no⟩

end Go.Proofs.YtiamkmkbkehldaaGreatDoor
