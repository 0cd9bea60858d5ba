/-
  Plain: what is written as YAML is read again.
-/
import Derived.Test.YtiamkmkbkehldaaGreatDoorYrB
import Derived.Test.YtiamkmkbkehldaaGreatDoorKpK
import Derived.Test.YtiamkmkbkehldaaGreatDoorSMake
import Derived.Test.YtiamkmkbkehldaaGreatDoorMarkM
import Derived.Test.YtiamkmkbkehldaaGreatDoorPhase
namespace Go.Proofs.YtiamkmkbkehldaaGreatDoor
open Go.RowKit
set_option linter.unusedSimpArgs false
set_option linter.unusedVariables false

/-- The line of part k, with what belongs to it. -/
def lnK (F : VT → List UInt8) (named : Bool) (pad : Nat) (keys : List ByteArray) (kids : List VT) (k : Nat) : List UInt8 := List.replicate pad 32 ++ (headY named (keyAt keys k) ++ tailY F (kidT kids k))
def lnR (F : VT → List UInt8) (named : Bool) (pad : Nat) (keys : List ByteArray) (kids : List VT) : Nat → Nat → List UInt8
  | _, 0 => []
  | j, m + 1 => lnK F named pad keys kids j ++ lnR F named pad keys kids (j + 1) m
theorem blk_more (F : VT → List UInt8) (named : Bool) (pad : Nat) (keys : List ByteArray) (kids : List VT) : ∀ m j, blkY F named pad keys kids (j + m) = blkY F named pad keys kids j ++ lnR F named pad keys kids j m := by
  intro m
  induction m with
  | zero => intro j; rw [Nat.add_zero, lnR, List.append_nil]
  | succ m ih =>
    intro j
    rw [show j + (m + 1) = j + 1 + m by omega, ih (j + 1), lnR, blkY, List.append_assoc]
    rfl
theorem blk_all (F : VT → List UInt8) (named : Bool) (pad : Nat) (keys : List ByteArray) (kids : List VT) (n : Nat) : blkY F named pad keys kids n = lnR F named pad keys kids 0 n := by
  have := blk_more F named pad keys kids n 0
  rw [Nat.zero_add, blkY, List.nil_append] at this
  exact this
def ylK (G : VT → List YL) (named : Bool) (pad : Nat) (keys : List ByteArray) (kids : List VT) (k : Nat) : List YL :=
  ⟨pad, if named = true then 6 else 5, if named = true then (keyAt keys k).data.toList else [], if (kidsY (kidT kids k)).length = 0 then 32 :: flatY (kidT kids k) else []⟩ :: (if (kidsY (kidT kids k)).length = 0 then [] else G (kidT kids k))
def ylR (G : VT → List YL) (named : Bool) (pad : Nat) (keys : List ByteArray) (kids : List VT) : Nat → Nat → List YL
  | _, 0 => []
  | j, m + 1 => ylK G named pad keys kids j ++ ylR G named pad keys kids (j + 1) m
/-- The lines of a block. -/
def blockL : Nat → Nat → VT → List YL
  | 0, _, _ => []
  | f + 1, pad, .mk kind n s keys kids => ylR (blockL f (pad + 2)) (decide (kind = 6)) pad keys kids 0 kids.length
def ahd (l : List YL) : Option (List YL) → Option (List YL)
  | none => none
  | some z => some (l ++ z)
theorem ahd_app (l m : List YL) (o : Option (List YL)) : ahd l (ahd m o) = ahd (l ++ m) o := by
  cases o with
  | none => rfl
  | some z => simp [ahd]
theorem line_says {pad : Nat} {T r : List UInt8} {k : Int} {key rest : List UInt8} (hc : ∀ c ∈ T, c ≠ 10) (hf : ∃ c q, T = c :: q ∧ c ≠ 32 ∧ c ≠ 35) (hl : lineY T = some (k, key, rest)) : linesY (List.replicate pad 32 ++ (T ++ 10 :: r)) = ahd [⟨pad, k, key, rest⟩] (linesY r) := by
  obtain ⟨c, q, e, h32, h35⟩ := hf
  have hs : saidY (List.replicate pad 32 ++ T) = T := by
    unfold saidY Lib.trimLeftB
    rw [List.dropWhile_append_of_pos (fun a ha => by rw [List.mem_replicate] at ha; rw [ha.2]; rfl), e, List.dropWhile_cons_of_neg (by simpa using h32)]
  rw [← List.append_assoc, linesY_line (fun d hd => by
    rcases List.mem_append.1 hd with h | h
    · rw [List.mem_replicate] at h; rw [h.2]; decide
    · exact hc d h), hs, if_neg, hl]
  · simp only [List.length_append, List.length_replicate, Nat.add_sub_cancel]
    cases linesY r <;> rfl
  · rintro (h | h)
    · rw [e] at h; cases h
    · rw [e, byAt_cons] at h
      exact h35 (UInt8.toNat_inj.1 h)
theorem head_ok {named : Bool} {key : ByteArray} (hk : named = true → textB key = true) {R : List UInt8} (hR : R = [] ∨ ∃ S, R = 32 :: S) (hc : ∀ c ∈ R, c ≠ 10) :
    lineY (headY named key ++ R) = some (if named = true then 6 else 5, if named = true then key.data.toList else [], R) ∧ (∀ c ∈ headY named key ++ R, c ≠ 10) ∧ ∃ c q, headY named key ++ R = c :: q ∧ c ≠ 32 ∧ c ≠ 35 := by
  cases named
  · refine ⟨?_, ?_, 45, R, rfl, by decide, by decide⟩
    · show lineY (45 :: R) = _
      unfold lineY
      rw [if_pos]
      · rfl
      · rcases hR with rfl | ⟨S, rfl⟩
        · exact .inl rfl
        · exact .inr (by simp [Lib.hasPrefix, List.isPrefixOf])
    · intro c h
      rcases List.mem_cons.1 h with rfl | h
      · decide
      · exact hc c h
  · obtain ⟨h1, h2, c, r, h3, h4, h5⟩ := key_line (hk rfl) R
    have e : headY true key ++ R = wordY key ++ 58 :: R := by unfold headY; simp
    rw [e]
    refine ⟨h1, ?_, c, r ++ 58 :: R, by rw [h3]; rfl, h4, h5⟩
    intro d hd
    rcases List.mem_append.1 hd with h | h
    · exact h2 d h
    · rcases List.mem_cons.1 h with rfl | h
      · decide
      · exact hc d h
theorem lnK_lines {f : Nat} {F : VT → List UInt8} {G : VT → List YL} {named : Bool} {pad : Nat} {keys : List ByteArray} {kids : List VT} {k : Nat} (hk : named = true → textB (keyAt keys k) = true) (hg : goodT f (kidT kids k))
    (hF : (kidsY (kidT kids k)).length ≠ 0 → ∀ r, linesY (F (kidT kids k) ++ r) = ahd (G (kidT kids k)) (linesY r)) (r : List UInt8) : linesY (lnK F named pad keys kids k ++ r) = ahd (ylK G named pad keys kids k) (linesY r) := by
  unfold lnK tailY ylK
  by_cases h0 : (kidsY (kidT kids k)).length = 0
  · have hfl := flat_ok hg h0
    rw [if_pos h0, if_pos h0, if_pos h0]
    obtain ⟨a1, a2, a3⟩ := head_ok hk (R := 32 :: flatY (kidT kids k)) (.inr ⟨_, rfl⟩) (fun c hc => by
      rcases List.mem_cons.1 hc with rfl | h
      · decide
      · exact hfl.clean c h)
    rw [show List.replicate pad (32 : UInt8) ++ (headY named (keyAt keys k) ++ 32 :: (flatY (kidT kids k) ++ [10])) ++ r = List.replicate pad 32 ++ ((headY named (keyAt keys k) ++ 32 :: flatY (kidT kids k)) ++ 10 :: r) by simp, line_says a2 a3 a1]
  · rw [if_neg h0, if_neg h0, if_neg h0]
    obtain ⟨a1, a2, a3⟩ := head_ok hk (R := []) (.inl rfl) (fun c hc => by cases hc)
    rw [List.append_nil] at a1 a2 a3
    rw [show List.replicate pad (32 : UInt8) ++ (headY named (keyAt keys k) ++ 10 :: F (kidT kids k)) ++ r = List.replicate pad 32 ++ (headY named (keyAt keys k) ++ 10 :: (F (kidT kids k) ++ r)) by simp, line_says a2 a3 a1, hF h0, ahd_app]
    rfl
theorem lnR_lines {F : VT → List UInt8} {G : VT → List YL} {named : Bool} {pad : Nat} {keys : List ByteArray} {kids : List VT} (H : ∀ k, k < kids.length → ∀ r, linesY (lnK F named pad keys kids k ++ r) = ahd (ylK G named pad keys kids k) (linesY r)) : ∀ m j, j + m ≤ kids.length → ∀ r, linesY (lnR F named pad keys kids j m ++ r) = ahd (ylR G named pad keys kids j m) (linesY r) := by
  intro m
  induction m with
  | zero => intro j _ r; rw [lnR, ylR, List.nil_append]; cases linesY r <;> rfl
  | succ m ih =>
    intro j hj r
    rw [lnR, List.append_assoc, H j (by omega), ih (j + 1) (by omega), ahd_app]
    rfl
/-- What a right node with parts is. -/
theorem whole_says {kind n : Int} {s : ByteArray} {keys : List ByteArray} {m : Nat} (h : nodeT kind n s keys m = true) (h0 : m ≠ 0) : n = 0 ∧ s = ByteArray.empty ∧ ((kind = 5 ∧ keys = []) ∨ (kind = 6 ∧ keys.length = m ∧ riseB keys = true)) := by
  rcases nodeT_says h with ⟨_, _, _, _, hm⟩ | ⟨_, _, _, _, hm⟩ | ⟨_, _, _, _, hm⟩ | ⟨_, _, _, _, hm⟩ | ⟨k, a, b, c⟩ | ⟨k, a, b, c, d⟩
  · exact absurd hm h0
  · exact absurd hm h0
  · exact absurd hm h0
  · exact absurd hm h0
  · exact ⟨a, b, .inl ⟨k, c⟩⟩
  · exact ⟨a, b, .inr ⟨k, c, d⟩⟩
theorem named_text {kind : Int} {keys : List ByteArray} {m : Nat} (h : (kind = 5 ∧ keys = []) ∨ (kind = 6 ∧ keys.length = m ∧ riseB keys = true)) {k : Nat} (hk : k < m) : decide (kind = 6) = true → textB (keyAt keys k) = true := by
  intro e
  rcases h with ⟨h, _⟩ | ⟨_, h1, h2⟩
  · subst h; simp at e
  · exact (rise_at h2 (by omega)).1
theorem block_lines : ∀ (f pad : Nat) (t : VT), goodT f t → (kidsY t).length ≠ 0 → ∀ r, linesY (blockY f pad t ++ r) = ahd (blockL f pad t) (linesY r) := by
  intro f
  induction f with
  | zero => intro pad t h; exact h.elim
  | succ f ih =>
    intro pad t h h0 r
    obtain ⟨kind, n, s, keys, kids⟩ := t
    obtain ⟨h1, h2⟩ := h
    obtain ⟨_, _, hw⟩ := whole_says h1 h0
    rw [blockY, blk_all, blockL]
    exact lnR_lines (fun k hk r => lnK_lines (named_text hw hk) (h2 k hk) (fun hn r => ih (pad + 2) _ (h2 k hk) hn r) r) kids.length 0 (by omega) r

def rwR (named : Bool) (keys : List ByteArray) (kids : List VT) : Nat → Nat → List (Int × List UInt8 × VT)
  | _, 0 => []
  | j, m + 1 => (if named = true then 6 else 5, if named = true then (keyAt keys j).data.toList else [], kidT kids j) :: rwR named keys kids (j + 1) m
theorem rwR_kids (named : Bool) (keys : List ByteArray) (kids : List VT) : ∀ m j, j + m = kids.length → (rwR named keys kids j m).map (fun y => y.2.2) = kids.drop j := by
  intro m
  induction m with
  | zero => intro j h; rw [List.drop_eq_nil_of_le (by omega)]; rfl
  | succ m ih =>
    intro j h
    rw [rwR, List.map_cons, ih (j + 1) (by omega), List.drop_eq_getElem_cons (show j < kids.length by omega)]
    congr 1
    show kidT kids j = _
    unfold kidT
    rw [List.getD_eq_getElem?_getD, List.getElem?_eq_getElem (show j < kids.length by omega)]; rfl
theorem rwR_keys (keys : List ByteArray) (kids : List VT) : ∀ m j, j + m = keys.length → (rwR true keys kids j m).map (fun y => txt y.2.1) = keys.drop j := by
  intro m
  induction m with
  | zero => intro j h; rw [List.drop_eq_nil_of_le (by omega)]; rfl
  | succ m ih =>
    intro j h
    rw [rwR, List.map_cons, ih (j + 1) (by omega), List.drop_eq_getElem_cons (show j < keys.length by omega)]
    congr 1
    show txt (keyAt keys j).data.toList = _
    rw [txt_bytes]
    unfold keyAt
    rw [List.getD_eq_getElem?_getD, List.getElem?_eq_getElem (show j < keys.length by omega)]; rfl
theorem rwR_kind (named : Bool) (keys : List ByteArray) (kids : List VT) : ∀ m j, ∀ y ∈ rwR named keys kids j m, y.1 = if named = true then 6 else 5 := by
  intro m
  induction m with
  | zero => intro j y hy; cases hy
  | succ m ih =>
    intro j y hy
    rw [rwR] at hy
    rcases List.mem_cons.1 hy with rfl | h
    · rfl
    · exact ih _ y h
theorem map_same_keys {keys : List ByteArray} {kids : List VT} (hl : keys.length = kids.length) (hr : riseB keys = true) : mapT keys kids = .mk 6 0 ByteArray.empty keys kids := by
  have h := map_back hl hr (ps := List.range keys.length) (List.Perm.refl _)
  rw [range_keys, hl, range_kids] at h
  exact h
theorem whole_back {kind : Int} {keys : List ByteArray} {kids : List VT} (hw : (kind = 5 ∧ keys = []) ∨ (kind = 6 ∧ keys.length = kids.length ∧ riseB keys = true)) (h0 : kids.length ≠ 0) : wholeV (rwR (decide (kind = 6)) keys kids 0 kids.length) = some (.mk kind 0 ByteArray.empty keys kids) := by
  have hkids := rwR_kids (decide (kind = 6)) keys kids kids.length 0 (by omega)
  have hall := rwR_kind (decide (kind = 6)) keys kids kids.length 0
  have hkeys := rwR_keys keys kids kids.length 0
  obtain ⟨m, hm⟩ : ∃ m, kids.length = m + 1 := ⟨kids.length - 1, by omega⟩
  obtain ⟨l, hl⟩ : ∃ l, rwR (decide (kind = 6)) keys kids 0 kids.length = l := ⟨_, rfl⟩
  rw [hl] at hkids hall ⊢
  cases l with
  | nil => rw [hm, rwR] at hl; cases hl
  | cons x l =>
    have hx := hall x (by simp)
    rw [wholeV, if_pos (fun y hy => by rw [hall y (by simp [hy]), hx]), hkids, List.drop_zero]
    rcases hw with ⟨rfl, rfl⟩ | ⟨rfl, h1, h2⟩
    · rw [hx, if_pos (by rfl)]; rfl
    · rw [hx, if_neg (by decide), if_pos (by rfl)]
      have e : decide ((6 : Int) = 6) = true := rfl
      rw [e] at hl
      have := hkeys (by omega)
      rw [hl] at this
      rw [this, List.drop_zero, map_same_keys h1 h2]
/-- What stands behind a block has fewer blanks ahead. -/
def Outer (pad : Nat) (z : List YL) : Prop := ∀ x r, z = x :: r → x.ahead < pad
theorem rows_back {f : Nat} {G : VT → List YL} {named : Bool} {pad : Nat} {keys : List ByteArray} {kids : List VT} (hg : ∀ k, k < kids.length → goodT f (kidT kids k))
    (hG : ∀ k, k < kids.length → (kidsY (kidT kids k)).length ≠ 0 → ∀ z, Outer (pad + 2) z → blockM (pad + 2) (G (kidT kids k) ++ z) = some (kidT kids k, z)) {z : List YL} (hz : Outer pad z) :
    ∀ m j, j + m ≤ kids.length → rowsM pad (ylR G named pad keys kids j m ++ z) = some (rwR named keys kids j m, z) := by
  intro m
  induction m with
  | zero =>
    intro j _
    rw [ylR, List.nil_append, rwR]
    cases z with
    | nil => rfl
    | cons x r => exact rowsM_off (by have := hz x r rfl; omega)
  | succ m ih =>
    intro j hj
    have ih := ih (j + 1) (by omega)
    have hout : Outer (pad + 2) (ylR G named pad keys kids (j + 1) m ++ z) := by
      intro x r e
      cases m with
      | zero => rw [ylR, List.nil_append] at e; have := hz x r e; omega
      | succ m =>
        rw [ylR, ylK] at e
        simp only [List.cons_append, List.cons.injEq] at e
        rw [← e.1]
        show pad < pad + 2
        omega
    obtain ⟨Z, hZ⟩ : ∃ Z, ylR G named pad keys kids (j + 1) m ++ z = Z := ⟨_, rfl⟩
    rw [ylR, List.append_assoc, hZ, ylK, List.cons_append, rowsM_on (ahead := pad) rfl, rwR]
    rw [hZ] at ih hout
    have hp : partM pad ⟨pad, if named = true then 6 else 5, if named = true then (keyAt keys j).data.toList else [], if (kidsY (kidT kids j)).length = 0 then 32 :: flatY (kidT kids j) else []⟩ ((if (kidsY (kidT kids j)).length = 0 then [] else G (kidT kids j)) ++ Z) = some (kidT kids j, Z) := by
      unfold partM
      by_cases h0 : (kidsY (kidT kids j)).length = 0
      · have hfl := flat_ok (hg j (by omega)) h0
        simp only [if_pos h0]
        rw [if_neg (by simp), if_pos (by simp [Lib.hasPrefix, List.isPrefixOf]), List.drop_one, List.tail_cons, hfl.short]
        rfl
      · simp only [if_neg h0]
        rw [if_pos trivial]
        exact hG j (by omega) h0 Z hout
    rw [hp]
    simp only [ih]
theorem block_back : ∀ (f pad : Nat) (t : VT), goodT f t → (kidsY t).length ≠ 0 → ∀ z, Outer pad z → blockM pad (blockL f pad t ++ z) = some (t, z) := by
  intro f
  induction f with
  | zero => intro pad t h; exact h.elim
  | succ f ih =>
    intro pad t h h0 z hz
    obtain ⟨kind, n, s, keys, kids⟩ := t
    obtain ⟨h1, h2⟩ := h
    obtain ⟨rfl, rfl, hw⟩ := whole_says h1 h0
    rw [blockL]
    unfold blockM
    rw [rows_back h2 (fun k hk hn z hz => ih (pad + 2) _ (h2 k hk) hn z hz) hz kids.length 0 (by omega)]
    simp only
    rw [whole_back hw h0]
/-- The lines of a value. -/
def topL (f : Nat) (t : VT) : List YL := if (kidsY t).length = 0 then [⟨0, 0, [], flatY t⟩] else blockL f 0 t
theorem yaml_lines {f : Nat} {t : VT} (hg : goodT f t) (r : List UInt8) : linesY (yamlT f t ++ r) = ahd (topL f t) (linesY r) := by
  unfold yamlT topL
  by_cases h0 : (kidsY t).length = 0
  · rw [if_pos h0, if_pos h0]
    have hfl := flat_ok hg h0
    have h := line_says (pad := 0) (r := r) hfl.clean hfl.first hfl.line
    rw [List.replicate_zero, List.nil_append] at h
    rw [List.append_assoc]
    exact h
  · rw [if_neg h0, if_neg h0]
    exact block_lines f 0 t hg h0 r
theorem top_back {f : Nat} {t : VT} (hg : goodT f t) : rdLines (topL f t) = some t := by
  unfold topL
  by_cases h0 : (kidsY t).length = 0
  · rw [if_pos h0]
    show (if (0 : Nat) = 0 ∧ (0 : Int) = 0 then shortY (flatY t) else topY [⟨0, 0, [], flatY t⟩]) = _
    rw [if_pos ⟨rfl, rfl⟩]
    exact (flat_ok hg h0).short
  · rw [if_neg h0]
    have hb := block_back f 0 t hg h0 [] (fun x r e => by cases e)
    rw [List.append_nil] at hb
    have htop : topY (blockL f 0 t) = some t := by unfold topY; rw [hb]; rfl
    have hk : ∀ x, blockL f 0 t = [x] → ¬ (x.ahead = 0 ∧ x.kind = 0) := by
      intro x e
      cases f with
      | zero => cases e
      | succ f =>
        obtain ⟨kind, n, s, keys, kids⟩ := t
        obtain ⟨m, hm⟩ : ∃ m, kids.length = m + 1 := ⟨kids.length - 1, by have : kids.length ≠ 0 := h0; omega⟩
        rw [blockL, hm, ylR, ylK] at e
        simp only [List.cons_append, List.cons.injEq] at e
        rw [← e.1]
        rintro ⟨_, h⟩
        revert h
        show ¬ ((if decide (kind = 6) = true then (6 : Int) else 5) = 0)
        split <;> decide
    obtain ⟨ls, hls⟩ : ∃ ls, blockL f 0 t = ls := ⟨_, rfl⟩
    rw [hls] at htop hk ⊢
    unfold rdLines
    split
    · rename_i x
      rw [if_neg (hk x rfl)]; exact htop
    · exact htop
theorem read_yaml {f : Nat} {t : VT} (hg : goodT f t) : rdYaml (yamlT f t) = some t := by
  have h := yaml_lines hg []
  rw [List.append_nil, linesY_nil] at h
  unfold rdYaml
  rw [h]
  show rdLines (topL f t ++ []) = _
  rw [List.append_nil, top_back hg]
/-- A remark and an empty line. -/
def remarkY : List UInt8 := [35, 32, 97, 32, 114, 101, 109, 97, 114, 107, 10, 10]
def blankY : List UInt8 := [32, 32, 32, 10]
theorem remark_lines (r : List UInt8) : linesY (remarkY ++ r) = linesY r := by
  have h1 := linesY_line (l := [35, 32, 97, 32, 114, 101, 109, 97, 114, 107]) (r := 10 :: r) (by decide)
  rw [if_pos (.inr (by decide))] at h1
  have h2 := linesY_line (l := []) (r := r) (by decide)
  rw [if_pos (.inl (by decide))] at h2
  exact h1.trans h2
theorem blank_lines : linesY blankY = some [] := by
  have h1 := linesY_line (l := [32, 32, 32]) (r := []) (by decide)
  rw [if_pos (.inl (by decide))] at h1
  exact h1
theorem read_around {f : Nat} {t : VT} (hg : goodT f t) : rdYaml (remarkY ++ (yamlT f t ++ blankY)) = some t := by
  unfold rdYaml
  rw [remark_lines, yaml_lines hg, blank_lines]
  show rdLines (topL f t ++ []) = _
  rw [List.append_nil, top_back hg]
end Go.Proofs.YtiamkmkbkehldaaGreatDoor

/-
  The program's sortedPlaces with strings.Compare: the places of texts, so that the texts rise.
-/
namespace Go.Proofs.YtiamkmkbkehldaaGreatDoor
open Go.RowKit
set_option linter.unusedSimpArgs false
set_option linter.unusedVariables false

theorem Sw.cell {g : Nat} {w w' : World} (h : Sw g w w') {b o : Nat} (hb : b < w.heap.size) (hg : b ≠ g) : w'.cell? ⟨b, o, none⟩ = w.cell? ⟨b, o, none⟩ := h.2.2.2.cell hb hg

set_option maxRecDepth 100000 in
set_option maxHeartbeats 3200000 in
theorem closure_any (B h g : Nat) (l : List ByteArray) (v : Value) (w0 : World) (hl : StrsAt B w0 v l) (h1 : w0.cell? ⟨h, 0, none⟩ = some v) (h2 : w0.cell? ⟨h + 1, 0, none⟩ = some (.func (.func 115) #[] #[])) (hh : h + 1 < w0.heap.size) (hg : h + 1 < g) (hB : B ≤ h) :
    CmpAt g l.length w0 (.pointer (some ⟨h + 1, 0, none⟩)) (.pointer (some ⟨h, 0, none⟩)) (cfK l) := by
  intro W hsw x y hx1 hx2 hy1 hy2
  obtain ⟨i, rfl⟩ : ∃ i : Nat, x = (i : Int) := ⟨x.toNat, by omega⟩
  obtain ⟨j, rfl⟩ : ∃ j : Nat, y = (j : Int) := ⟨y.toNat, by omega⟩
  obtain ⟨hln, _, a, cap, rfl, hc⟩ := hl
  obtain ⟨b, o, rfl, hb, hcc⟩ := hc (by omega)
  have d1 := (hsw.cell (show h < w0.heap.size by omega) (show h ≠ g by omega)).trans h1
  have d2 := (hsw.cell hh (show h + 1 ≠ g by omega)).trans h2
  have d3 := (hsw.cell (show b < w0.heap.size by omega) (show b ≠ g by omega)).trans (hcc i (by omega))
  have d4 := (hsw.cell (show b < w0.heap.size by omega) (show b ≠ g by omega)).trans (hcc j (by omega))
  have hi : i < l.length := by omega
  have hj : j < l.length := by omega
  have HE : Hid (cfK l (i : Int) (j : Int) = cmpS (keyAt l i) (keyAt l j)) := by rw [Hid, cfK, Int.toNat_natCast, Int.toNat_natCast]
  clear hcc hc h1 h2 hx1 hx2 hy1 hy2
  go_enter Tryz.func173, Tryz.ntmps173
  go_wp2_with fail
  go_quiet ((go_at_call 115; exact Calls.quiet_of_same (stringsCompare_any _ _ _)))
  go_wp2_with fail
  go_ret
  exact ⟨by rw [HE.out]; rfl, nq, rfl⟩

set_option maxHeartbeats 1600000 in
theorem sortStable_any (R : Int → Int → Prop) (cf : Int → Int → Int) (g N cap : Nat) (w0 : World) (c1 c2 : Value) (f : Nat → Int) (w : World) (h : AskedS R cf g N w0 c1 c2 f w) :
    Calls Tryz.prog 172 #[.slice (some ⟨g, 0, none⟩) N cap, .func (.func 173) #[] #[c1, c2]] w fun e w' => e = .returned (.tuple #[]) ∧ ∃ f', w'.rowIs g 3 N (nums f') ∧ Blk R f f' 0 N ∧ Sw g w0 w' := by
  have H := hideIt h
  have hNN := h.NN
  clear h
  go_enter Tryz.func172, Tryz.ntmps172
  go_wp2_with fail
  refine (stable_any R cf g N cap w0 c1 c2 f w H.out).mono ?_
  rintro e w1 ⟨rfl, f1, hr1, hm1, hs1⟩
  have HH := hideIt (And.intro hr1 (And.intro hm1 hs1))
  clear hr1 hm1 hs1
  go_wp2_with fail
  exact ⟨rfl, .tuple #[], results_none rfl _ _ _, rfl, f1, HH.out⟩

theorem cell_new1 (w : World) (v : Value) (t : TypeId) : (w.alloc (.cells #[v] t)).cell? ⟨w.heap.size, 0, none⟩ = some v := by
  have h := heap_alloc_new w (.cells #[v] t)
  unfold World.cell?
  simp only [h]
  rfl
theorem cell_more {w : World} {b o : Nat} {v : Value} (h : w.cell? ⟨b, o, none⟩ = some v) (hb : b < w.heap.size) (ob : Obj) : (w.alloc ob).cell? ⟨b, o, none⟩ = some v := (below_cell ((Below.refl w.heap.size w).alloc (Nat.le_refl _) ob) hb).trans h

theorem infoI : (Tryz.prog.info? 3).map (fun i => (i.zero, i.size, i.bytes)) = some (some (.int .i64 0), 1, 8) := by kernel_rfl

def fillN (k j : Nat) : Int := if j < k then (j : Int) else 0

set_option maxRecDepth 100000 in
set_option maxHeartbeats 3200000 in
theorem sortedPlaces_any (B : Nat) (v : Value) (l : List ByteArray) (w : World) (h : StrsAt B w v l) (hB : B ≤ w.heap.size) (hn : l.length ≤ 1048576) :
    Calls Tryz.prog 126 #[v, .func (.func 115) #[] #[]] w fun e w' => ∃ g f', e = .returned (.slice (some ⟨g, 0, none⟩) l.length l.length) ∧ w.heap.size ≤ g ∧ w'.rowIs g 3 l.length (nums f') ∧ Blk (RK l) (fun p => (p : Int)) f' 0 l.length ∧ Below w.heap.size w w' := by
  have H := hideIt h
  obtain ⟨_, _, a, cap, rfl, _⟩ := h
  obtain ⟨N, hN⟩ : ∃ N, l.length = N := ⟨_, rfl⟩
  have HN := hideIt hN
  rw [hN] at hn ⊢
  rw [hN] at H
  clear hN
  have hmk := run_make_row' (P := Tryz.prog) 180 3 (.int .i64 0) 8 Tryz.underlying180 infoI rfl .i64 .i64 N (by omega) (by omega)
  obtain ⟨W3, hW3⟩ : ∃ W3, W3 = ((w.alloc (.cells #[.slice a N cap] 70)).alloc (.cells #[.func (.func 115) #[] #[]] 165)).alloc (.cells (madeCells #[Value.int .i64 0] N) 3) := ⟨_, rfl⟩
  have hr0 : W3.rowIs (w.heap.size + 1 + 1) 3 N (nums (fillN 0)) := by
    have := World.rowIs_made ((w.alloc (.cells #[.slice a N cap] 70)).alloc (.cells #[.func (.func 115) #[] #[]] 165)) (.int .i64 0) N 3
    simp only [World.size_alloc] at this
    rw [hW3]
    exact this.congr fun j _ => by simp [nums, fillN]
  have d1 : W3.cell? ⟨w.heap.size, 0, none⟩ = some (.slice a N cap) := by
    rw [hW3]
    exact cell_more (cell_more (cell_new1 w _ _) (by rw [World.size_alloc]; omega) _) (by rw [World.size_alloc, World.size_alloc]; omega) _
  have d2 : W3.cell? ⟨w.heap.size + 1, 0, none⟩ = some (.func (.func 115) #[] #[]) := by
    rw [hW3]
    have := cell_new1 (w.alloc (.cells #[.slice a N cap] 70)) (.func (.func 115) #[] #[]) 165
    rw [World.size_alloc] at this
    exact cell_more this (by rw [World.size_alloc, World.size_alloc]; omega) _
  have HZ : Hid (W3.heap.size = w.heap.size + 1 + 1 + 1) := by rw [Hid, hW3]; simp
  have HBW : Hid (Below w.heap.size w W3) := by
    rw [Hid, hW3]
    exact (((Below.refl _ _).alloc (Nat.le_refl _) _).alloc (by simp) _).alloc (by simp; omega) _
  have HW3 := hideIt hW3
  have HR0 := hideIt hr0
  clear hW3 hr0
  go_enter Tryz.func126, Tryz.ntmps126
  go_wp2_with fail
  rw [← HW3.out]
  clear hmk
  go_loopw [12] (fun vi wr => ∃ k : Nat, k ≤ N ∧ vi = .int .i64 k ∧ wr.rowIs (w.heap.size + 1 + 1) 3 N (nums (fillN k)) ∧ Sw (w.heap.size + 1 + 1) W3 wr) (fun vi _ => N - (intOf vi).toNat)
  case atStart => exact ⟨0, Nat.zero_le _, rfl, HR0.out, Sw.refl _ _⟩
  case round =>
    obtain ⟨k, hk, rfl, hrow, hsw⟩ := hrel
    by_cases hlt : k < N
    · have c1 := hrow.cell hlt
      have f1 := hrow.frozen k
      have HNEW : Hid ((wr.setCell ⟨w.heap.size + 1 + 1, k, none⟩ (.int .i64 k)).rowIs (w.heap.size + 1 + 1) 3 N (nums (fillN (k + 1)))) := by
        refine (hrow.set k _).congr fun p _ => ?_
        unfold nums fillN
        by_cases e : p = k
        · subst e; rw [if_pos rfl, if_pos (by omega)]
        · rw [if_neg e]
          by_cases c : p < k
          · rw [if_pos c, if_pos (by omega)]
          · rw [if_neg c, if_neg (by omega)]
      have HSN := hideIt (hsw.set k (.int .i64 k))
      clear hrow hsw
      go_wp2_with fail
      go_roundw
      case rel => exact ⟨k + 1, by omega, by go_num, HNEW.out, HSN.out⟩
      case measure => simp [intOf]; omega
    · obtain rfl : k = N := by omega
      have HC1 := hideIt ((hsw.cell (show w.heap.size < W3.heap.size by rw [HZ.out]; omega) (by omega)).trans d1)
      have HC2 := hideIt ((hsw.cell (show w.heap.size + 1 < W3.heap.size by rw [HZ.out]; omega) (by omega)).trans d2)
      have HSZ : Hid (W3.heap.size ≤ wr.heap.size) := hsw.2.2.2.1
      have HBR : Hid (Below w.heap.size w wr) := HBW.out.trans (hsw.below (by omega) (by rw [HZ.out]; omega))
      have HCM : Hid (CmpAt (w.heap.size + 1 + 1) k wr (.pointer (some ⟨w.heap.size + 1, 0, none⟩)) (.pointer (some ⟨w.heap.size, 0, none⟩)) (cfK l)) := by
        have := closure_any B w.heap.size (w.heap.size + 1 + 1) l (.slice a k cap) wr (H.out.below (HBR.out.mono hB)) HC1.out HC2.out (by have := HSZ.out; rw [HZ.out] at this; omega) (by omega) hB
        rw [HN.out] at this
        exact this
      have HA : Hid (AskedS (RK l) (cfK l) (w.heap.size + 1 + 1) k wr (.pointer (some ⟨w.heap.size + 1, 0, none⟩)) (.pointer (some ⟨w.heap.size, 0, none⟩)) (fun p => (p : Int)) wr) :=
        ⟨rk_tot l, HCM.out, rk_cross l, hrow.congr fun p hp => by unfold nums fillN; rw [if_pos hp], Sw.refl _ _, fun p hp => ⟨by omega, by omega⟩, hn, fun p q h1 h2 => by omega⟩
      clear hrow hsw d1 d2
      go_wp2_with fail
      refine (sortStable_any (RK l) (cfK l) (w.heap.size + 1 + 1) k k wr _ _ (fun p => (p : Int)) wr HA.out).mono ?_
      rintro e w2 ⟨rfl, f2, hr2, hb2, hs2⟩
      have HFIN := hideIt (And.intro hr2 (And.intro hb2 (HBR.out.trans (hs2.below (by omega) (by have := HSZ.out; rw [HZ.out] at this; omega)))))
      clear hr2 hb2 hs2
      go_wp2_with fail
      go_ret
      exact ⟨_, f2, rfl, by omega, HFIN.out⟩
end Go.Proofs.YtiamkmkbkehldaaGreatDoor

/-
  Parts as pointers: how a tree of parts lies in memory, each part between two blocks, its rows its own. No walk.
-/
namespace Go.Proofs.YtiamkmkbkehldaaGreatDoor
open Go.RowKit
set_option linter.unusedSimpArgs false
set_option linter.unusedVariables false

theorem own_same {w w' : World} {base e s n : Nat} {v : Value} {xs : List Value} (h : w.ownsRow base e s v n xs) (hb : ∀ x, v.ownBlock = some x → w'.heap[x]? = w.heap[x]?) : w'.ownsRow base e s v n xs := by
  refine ⟨h.1, ?_⟩
  rcases h.2 with hn | ⟨g, cap, cur, rfl, hg, hgg, rest⟩
  · exact .inl hn
  · exact .inr ⟨g, cap, cur, rfl, hg, (hb g rfl).trans hgg, rest⟩

end Go.Proofs.YtiamkmkbkehldaaGreatDoor

/-
  The program's sortedMap: keys and items in the keys' order. What its rounds leave in memory.
-/
namespace Go.Proofs.YtiamkmkbkehldaaGreatDoor
open Go.RowKit
set_option linter.unusedSimpArgs false
set_option linter.unusedVariables false

/-- The keys, and the items, at the first k places. -/
def keysTo (l : List ByteArray) (f : Nat → Int) (k : Nat) : List Value := (List.range k).map fun j => .string (keyAt l (f j).toNat)
def itemsTo (V : Nat → Value) (f : Nat → Int) (k : Nat) : List Value := (List.range k).map fun j => V (f j).toNat
theorem keysTo_succ (l : List ByteArray) (f : Nat → Int) (k : Nat) : keysTo l f (k + 1) = keysTo l f k ++ [.string (keyAt l (f k).toNat)] := by simp [keysTo, List.range_succ]
theorem itemsTo_succ (V : Nat → Value) (f : Nat → Int) (k : Nat) : itemsTo V f (k + 1) = itemsTo V f k ++ [V (f k).toNat] := by simp [itemsTo, List.range_succ]

/-- The map's two rows, from block base on, n keys and m items; its variable lies in block q, which was there in w1. -/
structure SM (q base : Nat) (w1 wr : World) (n m : Nat) (ks is : List Value) (kv iv : Value) : Prop where
  row : wr.rowIs q 119 2 (fun j => if j = 0 then kv else iv)
  rk : wr.ownsRow base 9 1 kv n ks
  ri : wr.ownsRow base 45 1 iv m is
  sw : Sw q w1 wr
  bs : base ≤ w1.heap.size
  qb : q < base

theorem SM.c0 {q base n m : Nat} {w1 wr : World} {ks is : List Value} {kv iv : Value} (h : SM q base w1 wr n m ks is kv iv) : wr.cell? ⟨q, 0, none⟩ = some kv := h.row.cell (by omega)
theorem SM.c1 {q base n m : Nat} {w1 wr : World} {ks is : List Value} {kv iv : Value} (h : SM q base w1 wr n m ks is kv iv) : wr.cell? ⟨q, 1, none⟩ = some iv := h.row.cell (i := 1) (by omega)

theorem SM.drew {q base n m : Nat} {w1 wr : World} {ks is : List Value} {kv iv : Value} (h : SM q base w1 wr n m ks is kv iv) : SM q base w1 wr.drew n m ks is kv iv := ⟨h.row, h.rk, h.ri, h.sw.drew, h.bs, h.qb⟩

theorem SM.size {q base n m : Nat} {w1 wr : World} {ks is : List Value} {kv iv : Value} (h : SM q base w1 wr n m ks is kv iv) : w1.heap.size ≤ wr.heap.size := h.sw.2.2.2.1

theorem sw_grown {q base : Nat} {w1 wr w5 : World} {o : Obj} {row : Option Nat} (h : Sw q w1 wr) (hg : (wr.alloc o).grownBy w5 row) (hr : ∀ x, row = some x → w1.heap.size ≤ x) : Sw q w1 w5 := by
  have hb : Below w1.heap.size wr w5 := ((Below.refl _ _).alloc h.2.2.2.1 o).grown hg (by have := h.2.2.2.1; simp; omega) (fun x hx => hr x hx)
  exact ⟨hb.os.trans h.1, hb.tape.trans h.2.1, hb.output.trans h.2.2.1, Nat.le_trans h.2.2.2.1 hb.size, fun c h1 h2 => (hb.block c h1).trans (h.2.2.2.2 c h1 h2)⟩

/-- One more key. -/
theorem SM.key {q base n m : Nat} {w1 wr w5 : World} {ks is : List Value} {kv iv kv' u : Value} {o : Obj} (h : SM q base w1 wr n m ks is kv iv) (hb : base = w1.heap.size)
    (hg : (wr.alloc o).grownBy w5 kv.ownBlock) (hown : w5.ownsRow base 9 1 kv' (n + 1) (ks ++ [u])) : SM q base w1 (w5.setCell ⟨q, 0, none⟩ kv') (n + 1) m (ks ++ [u]) is kv' iv := by
  have hz := h.size
  have hqb := h.qb
  have far : ∀ x, x < wr.heap.size → kv.ownBlock ≠ some x → w5.heap[x]? = wr.heap[x]? := fun x hx hne => (hg.block x (by simp; omega) (fun e => hne e.symm)).trans (Below.block ((Below.refl wr.heap.size wr).alloc (Nat.le_refl _) o) x hx)
  have hkq : kv.ownBlock ≠ some q := fun e => by have := (h.rk.lt q e).1; omega
  have hrow5 : w5.rowIs q 119 2 (fun j => if j = 0 then kv else iv) := h.row.of_block (far q h.row.lt hkq)
  have hri5 : w5.ownsRow base 45 1 iv m is := own_same h.ri (fun x hx => by
    refine far x (h.ri.lt x hx).2 (fun e => ?_)
    rcases own_apart h.rk h.ri (by decide) with e2 | e2
    · rw [e2] at e; cases e
    · exact e2 (by rw [e, hx]))
  refine ⟨(hrow5.set 0 kv').congr fun j _ => ?_, ?_, ?_, ?_, h.bs, h.qb⟩
  · by_cases e : j = 0
    · rw [if_pos e, if_pos e]
    · rw [if_neg e, if_neg e, if_neg e]
  · exact own_set hown kv' (fun x hx e => by have := (hown.lt x hx).1; omega)
  · exact own_set hri5 kv' (fun x hx e => by have := (h.ri.lt x hx).1; omega)
  · exact (sw_grown (base := base) h.sw hg (fun x hx => by have := (h.rk.lt x hx).1; omega)).set 0 kv'

/-- One more item. -/
theorem SM.item {q base n m : Nat} {w1 wr w5 : World} {ks is : List Value} {kv iv iv' u : Value} {o : Obj} (h : SM q base w1 wr n m ks is kv iv) (hb : base = w1.heap.size)
    (hg : (wr.alloc o).grownBy w5 iv.ownBlock) (hown : w5.ownsRow base 45 1 iv' (m + 1) (is ++ [u])) : SM q base w1 (w5.setCell ⟨q, 1, none⟩ iv') n (m + 1) ks (is ++ [u]) kv iv' := by
  have hz := h.size
  have hqb := h.qb
  have far : ∀ x, x < wr.heap.size → iv.ownBlock ≠ some x → w5.heap[x]? = wr.heap[x]? := fun x hx hne => (hg.block x (by simp; omega) (fun e => hne e.symm)).trans (Below.block ((Below.refl wr.heap.size wr).alloc (Nat.le_refl _) o) x hx)
  have hkq : iv.ownBlock ≠ some q := fun e => by have := (h.ri.lt q e).1; omega
  have hrow5 : w5.rowIs q 119 2 (fun j => if j = 0 then kv else iv) := h.row.of_block (far q h.row.lt hkq)
  have hrk5 : w5.ownsRow base 9 1 kv n ks := own_same h.rk (fun x hx => by
    refine far x (h.rk.lt x hx).2 (fun e => ?_)
    rcases own_apart h.rk h.ri (by decide) with e2 | e2
    · rw [e2] at hx; cases hx
    · exact e2 (by rw [e, hx]))
  refine ⟨(hrow5.set 1 iv').congr fun j hj => ?_, ?_, ?_, ?_, h.bs, h.qb⟩
  · by_cases e : j = 1
    · rw [if_pos e, if_neg (by omega)]
    · rw [if_neg e, if_pos (by omega), if_pos (by omega)]
  · exact own_set hrk5 iv' (fun x hx e => by have := (h.rk.lt x hx).1; omega)
  · exact own_set hown iv' (fun x hx e => by have := (hown.lt x hx).1; omega)
  · exact (sw_grown (base := base) h.sw hg (fun x hx => by have := (h.ri.lt x hx).1; omega)).set 1 iv'
end Go.Proofs.YtiamkmkbkehldaaGreatDoor
