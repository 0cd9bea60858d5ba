/-
  impl.treeOf at maps, and at every value.
-/
import Derived.Test.YtbclgogolimbgaaTOf
import Derived.Deep.DrawnRows
import Derived.Test.YtbclgogolimbgaaBSrch
import Derived.Deep.QuietTactic
import Derived.BigQuiet
namespace Go.Proofs.Ytbclgogolimbgaa
open Go.RowKit
set_option linter.unusedSimpArgs false
set_option linter.unusedVariables false
attribute [local go_sem ↓] Go.wp_at_zero Go.wp_at_succ

/-- A part with keys, no parts yet. -/
theorem PNode.startK {B : Nat} {w w1 w4 : World} {sv r : Value} {keys : List ByteArray} {f : Nat} {T : Nat → VT} (h : Below (w.alloc (.cells #[sv, .slice none 0 0, .slice none 0 0] 119)).heap.size (w.alloc (.cells #[sv, .slice none 0 0, .slice none 0 0] 119)) w1)
    (hr : w1.ownsRow w.heap.size 9 1 r keys.length (keys.map .string)) (hrp : ∀ x, r.ownBlock = some x → x ≠ w.heap.size) (h4 : Below (w1.setCell ⟨w.heap.size, 1, none⟩ r).heap.size (w1.setCell ⟨w.heap.size, 1, none⟩ r) w4) :
    PNode w4 w.heap.size w4.heap.size sv keys 0 (fun j l h u => PT B w4 f (T j) l h u) w.heap.size r (.slice none 0 0) (fun _ => undef) (fun _ => 0) (fun _ => 0) := by
  have hs := h.size
  have hs4 := h4.size
  simp only [World.size_alloc] at hs
  simp only [World.size_setCell] at hs4
  have hn := World.ownsRow_lit (base := w.heap.size) (e := 119) (size := 3) w #[sv, .slice none 0 0, .slice none 0 0] 1 (Nat.le_refl _) (by simp [maxLen]) rfl
  have hn1 := own_below hn h (fun x hx => by simp [Value.ownBlock] at hx; subst hx; simp)
  have hn3 := (hn1.stored 1 r).1
  have hr3 : (w1.setCell ⟨w.heap.size, 1, none⟩ r).ownsRow w.heap.size 9 1 r keys.length (keys.map .string) := own_set hr _ hrp
  refine ⟨?_, own_below hr3 h4 (fun x hx => (hr3.lt x hx).2), World.ownsRow_nil _ _ _ _, fun x hx => ?_, fun j hj => absurd hj (by omega), fun j hj => absurd hj (by omega), fun i j _ hj => absurd hj (by omega), fun j hj => absurd hj (by omega)⟩
  · have := own_below hn3 h4 (fun x hx => (hn3.lt x hx).2)
    simpa using this
  · rcases hx with rfl | hx | hx
    · omega
    · have := (hr3.lt x hx).2
      rw [World.size_setCell] at this
      omega
    · cases hx

set_option maxRecDepth 100000 in
set_option maxHeartbeats 6400000 in
theorem treeOf_map (B f : Nat) (ih : Trees B f) (keys : List ByteArray) (kids : List VT) (kv it : Value) (w : World) (hks : StrsAt B w kv keys) (hit : TItems B w it kids.length (fun j u => TreeAt B w f (kidT kids j) u)) (hB : B ≤ w.heap.size) :
    Calls Try.prog 39 #[.iface 121 (.agg #[kv, it])] w fun e w' => ∃ p, e = .returned (.pointer (some ⟨p, 0, none⟩)) ∧ PT B w' (f + 1) (.mk 6 0 ByteArray.empty keys kids) w.heap.size w'.heap.size (.pointer (some ⟨p, 0, none⟩)) ∧ Below w.heap.size w w' := by
  have HTW : Hid (TreeAt B w (f + 1) (.mk 6 0 ByteArray.empty keys kids) (.iface 121 (.agg #[kv, it]))) := Or.inr (Or.inr (Or.inr (Or.inr (Or.inr ⟨rfl, rfl, rfl, _, _, rfl, hks, hit⟩))))
  have HKS := hideIt hks
  obtain ⟨_, _, ak, ck, rfl, _⟩ := hks
  obtain ⟨hM, ai, ci, rfl, hx⟩ := hit
  have HX := hideIt hx
  clear hx
  obtain ⟨M, hM2⟩ : ∃ M, kids.length = M := ⟨_, rfl⟩
  have HM := hideIt hM2
  rw [hM2] at hM HX HTW ⊢
  clear hM2
  have hta := ta_map_map (.agg #[.slice ak keys.length ck, .slice ai M ci])
  have hmp := mp_6 (.agg #[.slice ak keys.length ck, .slice ai M ci])
  obtain ⟨i0, hi0, hz0, hs0, hy0⟩ := info_parts infoPtr
  go_enter Try.func39, Try.ntmps39
  go_wp2_with fail
  have hba : Below w.heap.size w ((w.alloc (.cells #[.iface 121 (.agg #[.slice ak keys.length ck, .slice ai M ci]), .slice none 0 0, .slice none 0 0] 119)).alloc (.cells #[.slice ak keys.length ck, .slice ai M ci] 121)) := ((Below.refl _ _).alloc (Nat.le_refl _) _).alloc (by simp) _
  refine (cloneStr_any B _ keys _ (HKS.out.below (hba.mono hB)) (by simp; omega)).mono ?_
  rintro e w1 ⟨r, rfl, hr, hb1⟩
  obtain ⟨ar, cr, er⟩ := own_slice hr
  subst er
  have HR := hideIt hr
  have zz1 := hb1.size
  simp only [World.size_alloc] at zz1
  have hn1 : Below (w.alloc (.cells #[.iface 121 (.agg #[.slice ak keys.length ck, .slice ai M ci]), .slice none 0 0, .slice none 0 0] 119)).heap.size (w.alloc (.cells #[.iface 121 (.agg #[.slice ak keys.length ck, .slice ai M ci]), .slice none 0 0, .slice none 0 0] 119)) w1 := ((Below.refl _ _).alloc (Nat.le_refl _) _).trans (hb1.mono (by simp))
  have k1 : w1.cell? ⟨w.heap.size, 1, none⟩ = some (.slice none 0 0) := (below_cell hn1 (by simp)).trans (by simp)
  have k2 : w1.frozen? ⟨w.heap.size, 1, none⟩ = false := (hn1.frozen (p := ⟨w.heap.size, 1, none⟩) (by simp)).trans (by simp)
  have HN1 := hideIt hn1
  clear hr hb1 hn1
  go_wp2_with fail
  refine (parts6_any _ _ _ _ _ _ _).mono ?_
  rintro e w2 ⟨rfl, hb2⟩
  have HP := hideIt (PNode.startK (B := B) (f := f) (T := kidT kids) HN1.out (own_mono HR.out (by simp; omega)) (fun x hx => by have := (HR.out.lt x hx).1; simp at this; omega) hb2)
  have HB : Hid (Below w.heap.size w w2) := ((((Below.refl w.heap.size w).alloc (Nat.le_refl _) _).trans (HN1.out.mono (by simp))).setCell (Nat.le_refl _) _).trans (hb2.mono (by simp; omega))
  clear hb2 k1 k2
  go_wp2_with fail
  go_loopw [26] (fun i wr => ∃ (k : Nat) (iv : Value) (ps : Nat → Value) (ls hs : Nat → Nat), k ≤ M ∧ i = .int .i64 k ∧ PNode wr w.heap.size wr.heap.size (.iface 121 (.agg #[.slice ak keys.length ck, .slice ai M ci])) keys k (fun j l h u => PT B wr f (kidT kids j) l h u) w.heap.size (.slice ar keys.length cr) iv ps ls hs ∧ Below w.heap.size w wr) (fun i _ => M - (intOf i).toNat)
  case atStart => exact ⟨0, _, _, _, _, Nat.zero_le _, rfl, HP.out, HB.out⟩
  case round =>
    obtain ⟨k, iv, ps, ls, hs, hk, rfl, hp, hbl⟩ := hrel
    have HP1 := hideIt hp
    have zs := hbl.size
    obtain ⟨av, cv, ev⟩ := own_slice hp.kidsR
    subst ev
    have hnode := hp.node
    have hpl := (hp.lt (Or.inl rfl)).2
    have hc2 : wr.cell? ⟨w.heap.size, 2, none⟩ = some (.slice av k cv) := by rw [hnode.cellAt 2 (by omega)]; rfl
    have hf2 := hnode.frozenAt 2
    have ane : (Value.slice av k cv).ownBlock ≠ some w.heap.size := fun e => by
      rcases own_apart hp.kidsR hp.node (by decide) with e2 | e2
      · rw [e2] at e; cases e
      · exact e2 (by rw [e]; rfl)
    clear hp HP HB hnode
    by_cases hlt : k < M
    · obtain ⟨b, rfl, hbB, hc⟩ := HX.out (by omega)
      obtain ⟨tk, xk, hck, htk⟩ := hc k hlt
      have hck' : wr.cell? ⟨b, k, none⟩ = some (.iface tk xk) := (below_cell hbl (by omega)).trans hck
      have HT := hideIt (TreeAt.keep (fun c hcc => hbl.block c (by omega)) (Nat.le_refl _) htk)
      have HTD : Hid (TreeAt B wr.drew f (kidT kids k) (.iface tk xk)) := TreeAt.keep (w := wr) (w' := wr.drew) (fun _ _ => rfl) (Nat.le_refl _) HT.out
      have hBdrew : B ≤ wr.drew.heap.size := by simp; omega
      have hone : ∀ (pk : Nat), ∀ u ∈ [Value.pointer (some ⟨pk, 0, none⟩)], u.oneCell' = true := fun pk u hu => by simp at hu; subst hu; rfl
      have hml : k + 1 ≤ maxLen := by unfold maxLen; omega
      have hby : (k + 1) * 8 ≤ 140737488355328 := by omega
      clear hc hck htk
      go_wp2_with fail
      go_region_law
        (first
          | (refine step_call1 (by rfl) 39 _ _ (by rfl) (.iface tk xk) (by rfl) (call_treeOf _) (ih (kidT kids k) (.iface tk xk) _ HTD.out hBdrew) ?_; rintro e w1 ⟨pk, rfl, hpk, hb1⟩; have hbh := Behind.of (u := .pointer (some ⟨pk, 0, none⟩)) hb1 hpl HP1.out.kidsR hc2 hf2; have hS1 := hbh.c1; have hS2 := hbh.c2; refine ⟨_, rfl, ?_⟩)
          | (refine step_append_lies _ (by rfl) _ _ _ (by rfl) w.heap.size 64 i0 (.pointer none) 1 8 Try.underlying117 hi0 hz0 hs0 hy0 rfl (by omega) (.slice av k cv) k ((List.range k).map ps) (by rfl) hbh.row ⟨w1.heap.size, 0, none⟩ 1 1 [.pointer (some ⟨pk, 0, none⟩)] (by rfl) (by rfl) hbh.news (hone pk) (by omega) hml hby hbh.base (w1.heap.size + 1) hbh.top ?_; intro g cap w5 hown hgrow hat hlt5; have hS3 : w5.cell? ⟨w.heap.size, 2, none⟩ = some (.slice av k cv) := (World.grownBy.cell_far hgrow ⟨w.heap.size, 2, none⟩ hbh.lt (Ne.symm ane)).trans hbh.c2; have hf3 : w5.frozen? ⟨w.heap.size, 2, none⟩ = false := (World.grownBy.frozen_far hgrow ⟨w.heap.size, 2, none⟩ hbh.lt (Ne.symm ane)).trans hbh.f2))
      all_goals
        have HPK : Hid (PT B w1 f (kidT kids k) wr.heap.size w1.heap.size (.pointer (some ⟨pk, 0, none⟩))) := by simpa [Hid] using hpk
        have HS := hideIt (HP1.out.snoc hB zs hbh.bel HPK.out hown hgrow hat)
        have hg5 := hgrow.size
        have zb1 := hbh.le
        have hgz : w1.heap.size + 1 ≤ w5.heap.size := by simpa using hg5
        have HB5 : Hid (Below w.heap.size w (w5.setCell ⟨w.heap.size, 2, none⟩ (.slice (some ⟨g, 0, none⟩) (k + 1) cap))) := (((hbl.trans (hbh.bel.mono zs)).alloc (by omega) _).grown hgrow (by simp; omega) (fun x hx => (HP1.out.kidsR.lt x hx).1)).setCell (Nat.le_refl _) _
        go_wp2_with fail
        go_roundw
        case rel => exact ⟨k + 1, _, _, _, _, by omega, by go_num, HS.out, HB5.out⟩
        case measure => simp [intOf]; omega
    · obtain rfl : k = M := by omega
      go_wp2_with fail
      go_ret
      exact ⟨w.heap.size, rfl, PT.mk (TreeAt.keep (fun c hcc => hbl.block c (by omega)) (Nat.le_refl _) HTW.out) HM.out HP1.out, hbl⟩
/-- impl.treeOf at every value. -/
theorem treeOf_any (B : Nat) : ∀ f, Trees B f := by
  intro f
  induction f with
  | zero => intro t x w h; exact h.elim
  | succ f ih =>
    intro t x w h hB
    obtain ⟨kind, n, s, keys, kids⟩ := t
    rcases h with ⟨rfl, rfl, rfl, rfl, rfl, rfl⟩ | ⟨rfl, rfl, rfl, rfl, rfl⟩ | ⟨rfl, rfl, rfl, rfl, rfl⟩ | ⟨rfl, rfl, rfl, rfl, rfl⟩ | ⟨rfl, rfl, rfl, rfl, it, rfl, hi⟩ | ⟨rfl, rfl, rfl, ks, it, rfl, hs, hi⟩
    · exact treeOf_null B f w hB
    · exact treeOf_bool n B f w hB
    · exact treeOf_int n B f w hB
    · exact treeOf_text s B f w hB
    · exact treeOf_list B f ih kids it w hi hB
    · exact treeOf_map B f ih keys kids ks it w hs hi hB
end Go.Proofs.Ytbclgogolimbgaa

/-
  (*impl.treePart).find: where a step leads, in a part.
-/
namespace Go.Proofs.Ytbclgogolimbgaa
open Go.RowKit
set_option linter.unusedSimpArgs false
set_option linter.unusedVariables false

def findR (kind : Int) (keys : List ByteArray) (n : Nat) (x : PS) : Int × Bool :=
  if kind = 5 then (if x.named = false ∧ x.pl ≤ (n : Int) then (x.pl, decide (x.pl < (n : Int))) else (-1, false))
  else if kind = 6 ∧ x.named = true then ((posK keys x.key : Nat), hasK keys x.key)
  else (-1, false)

theorem findR_some {kind : Int} {keys : List ByteArray} {n k : Nat} {x : PS} (h0 : x.named = true ∨ 0 ≤ x.pl) (h : stepTo kind keys n x = some k) : findR kind keys n x = ((k : Int), true) := by
  unfold stepTo at h
  unfold findR
  split at h
  · rename_i hn
    split at h
    · rename_i h1
      simp only [Option.some.injEq] at h
      subst h
      rw [if_neg (by omega), if_pos ⟨h1.1, hn⟩, h1.2]
    · cases h
  · rename_i hn
    split at h
    · rename_i h1
      simp only [Option.some.injEq] at h
      subst h
      have hn2 : x.named = false := by simpa using hn
      have h0' : 0 ≤ x.pl := by rcases h0 with e | e; exact absurd e hn; exact e
      rw [if_pos h1.1, if_pos ⟨hn2, by omega⟩, decide_eq_true h1.2]
      congr 1
      omega
    · cases h

theorem findR_none {kind : Int} {keys : List ByteArray} {n : Nat} {x : PS} (h : stepTo kind keys n x = none) : (findR kind keys n x).2 = false := by
  unfold stepTo at h
  unfold findR
  split at h
  · rename_i hn
    split at h
    · cases h
    · rename_i h1
      by_cases h5 : kind = 5
      · rw [if_pos h5, if_neg (by rw [hn]; simp)]
      · rw [if_neg h5]
        by_cases h6 : kind = 6
        · rw [if_pos ⟨h6, hn⟩]
          cases e : hasK keys x.key
          · rfl
          · exact absurd ⟨h6, e⟩ h1
        · rw [if_neg (by rintro ⟨a, _⟩; exact h6 a)]
  · rename_i hn
    split at h
    · cases h
    · rename_i h1
      by_cases h5 : kind = 5
      · rw [if_pos h5]
        by_cases h2 : x.named = false ∧ x.pl ≤ (n : Int)
        · rw [if_pos h2]
          simp
          by_cases h3 : x.pl < (n : Int)
          · exact absurd ⟨h5, h3⟩ h1
          · omega
        · rw [if_neg h2]
      · rw [if_neg h5, if_neg (by rintro ⟨_, b⟩; exact hn b)]

theorem taf_null_list (x : Value) (w : World) : (Instr.typeAssert (.iface 155 x) 61 129 true).run Try.prog w = .ok (.tuple #[.agg #[.slice none 0 0], .bool false]) w := by kernel_rfl
theorem taf_bool_list (x : Value) (w : World) : (Instr.typeAssert (.iface 132 x) 61 129 true).run Try.prog w = .ok (.tuple #[.agg #[.slice none 0 0], .bool false]) w := by kernel_rfl
theorem taf_int_list (x : Value) (w : World) : (Instr.typeAssert (.iface 133 x) 61 129 true).run Try.prog w = .ok (.tuple #[.agg #[.slice none 0 0], .bool false]) w := by kernel_rfl
theorem taf_text_list (x : Value) (w : World) : (Instr.typeAssert (.iface 135 x) 61 129 true).run Try.prog w = .ok (.tuple #[.agg #[.slice none 0 0], .bool false]) w := by kernel_rfl
theorem taf_map_list (x : Value) (w : World) : (Instr.typeAssert (.iface 121 x) 61 129 true).run Try.prog w = .ok (.tuple #[.agg #[.slice none 0 0], .bool false]) w := by kernel_rfl
theorem taf_list_list (x : Value) (w : World) : (Instr.typeAssert (.iface 129 x) 61 129 true).run Try.prog w = .ok (.tuple #[x, .bool true]) w := by kernel_rfl

set_option maxRecDepth 100000 in
set_option maxHeartbeats 1600000 in
theorem find_null (p : Nat) (y ks it : Value) (x : PS) (w : World) (h0 : w.cell? ⟨p, 0, none⟩ = some (.iface 155 y)) (hp : p < w.heap.size) :
    Calls Try.prog 83 #[.pointer (some ⟨p, 0, none⟩), .agg #[.bool x.named, .string x.key, .int .i64 x.pl]] w fun e w' => e = .returned (.tuple #[.int .i64 (-1), .bool false]) ∧ Below w.heap.size w w' := by
  have t1 := taf_null_list y
  have t2 := ta_null_map y
  have hne : ¬ (p = w.heap.size) := by omega
  go_enter Try.func83, Try.ntmps83
  go_wp2_with fail
  go_ret2
  exact ⟨rfl, (Below.refl _ _).alloc (Nat.le_refl _) _⟩

set_option maxRecDepth 100000 in
set_option maxHeartbeats 1600000 in
theorem find_bool (p : Nat) (y ks it : Value) (x : PS) (w : World) (h0 : w.cell? ⟨p, 0, none⟩ = some (.iface 132 y)) (hp : p < w.heap.size) :
    Calls Try.prog 83 #[.pointer (some ⟨p, 0, none⟩), .agg #[.bool x.named, .string x.key, .int .i64 x.pl]] w fun e w' => e = .returned (.tuple #[.int .i64 (-1), .bool false]) ∧ Below w.heap.size w w' := by
  have t1 := taf_bool_list y
  have t2 := ta_bool_map y
  have hne : ¬ (p = w.heap.size) := by omega
  go_enter Try.func83, Try.ntmps83
  go_wp2_with fail
  go_ret2
  exact ⟨rfl, (Below.refl _ _).alloc (Nat.le_refl _) _⟩

set_option maxRecDepth 100000 in
set_option maxHeartbeats 1600000 in
theorem find_int (p : Nat) (y ks it : Value) (x : PS) (w : World) (h0 : w.cell? ⟨p, 0, none⟩ = some (.iface 133 y)) (hp : p < w.heap.size) :
    Calls Try.prog 83 #[.pointer (some ⟨p, 0, none⟩), .agg #[.bool x.named, .string x.key, .int .i64 x.pl]] w fun e w' => e = .returned (.tuple #[.int .i64 (-1), .bool false]) ∧ Below w.heap.size w w' := by
  have t1 := taf_int_list y
  have t2 := ta_int_map y
  have hne : ¬ (p = w.heap.size) := by omega
  go_enter Try.func83, Try.ntmps83
  go_wp2_with fail
  go_ret2
  exact ⟨rfl, (Below.refl _ _).alloc (Nat.le_refl _) _⟩

set_option maxRecDepth 100000 in
set_option maxHeartbeats 1600000 in
theorem find_text (p : Nat) (y ks it : Value) (x : PS) (w : World) (h0 : w.cell? ⟨p, 0, none⟩ = some (.iface 135 y)) (hp : p < w.heap.size) :
    Calls Try.prog 83 #[.pointer (some ⟨p, 0, none⟩), .agg #[.bool x.named, .string x.key, .int .i64 x.pl]] w fun e w' => e = .returned (.tuple #[.int .i64 (-1), .bool false]) ∧ Below w.heap.size w w' := by
  have t1 := taf_text_list y
  have t2 := ta_text_map y
  have hne : ¬ (p = w.heap.size) := by omega
  go_enter Try.func83, Try.ntmps83
  go_wp2_with fail
  go_ret2
  exact ⟨rfl, (Below.refl _ _).alloc (Nat.le_refl _) _⟩

set_option maxRecDepth 100000 in
set_option maxHeartbeats 1600000 in
theorem find_list (p n : Nat) (y : Value) (a : Option Addr) (c : Nat) (x : PS) (w : World) (h0 : w.cell? ⟨p, 0, none⟩ = some (.iface 129 y)) (h2 : w.cell? ⟨p, 2, none⟩ = some (.slice a n c)) (hp : p < w.heap.size) (hn : n ≤ 100000) (hx : -9223372036854775808 ≤ x.pl ∧ x.pl ≤ 9223372036854775807) :
    Calls Try.prog 83 #[.pointer (some ⟨p, 0, none⟩), .agg #[.bool x.named, .string x.key, .int .i64 x.pl]] w fun e w' => e = .returned (.tuple #[.int .i64 (findR 5 [] n x).1, .bool (findR 5 [] n x).2]) ∧ Below w.heap.size w w' := by
  have t1 := taf_list_list y
  have t2 := ta_list_map y
  have hne : ¬ (p = w.heap.size) := by omega
  obtain ⟨hx1, hx2⟩ := hx
  obtain ⟨nm, ky, pl⟩ := x
  simp only at hx1 hx2 ⊢
  have hba : Below w.heap.size w (w.alloc (.cells #[.bool nm, .string ky, .int .i64 pl] 82)) := (Below.refl _ _).alloc (Nat.le_refl _) _
  cases nm
  · by_cases hle : pl ≤ (n : Int)
    · have HR : Hid (findR 5 [] n ⟨false, ky, pl⟩ = (pl, decide (pl < (n : Int)))) := by unfold Hid findR; rw [if_pos rfl, if_pos ⟨rfl, hle⟩]
      go_enter Try.func83, Try.ntmps83
      go_wp2_with fail
      go_quiet (fail)
      go_wp2_with fail
      go_ret2
      exact ⟨by rw [HR.out]; rfl, below_drewN hba nq⟩
    · have HR : Hid (findR 5 [] n ⟨false, ky, pl⟩ = (-1, false)) := by unfold Hid findR; rw [if_pos rfl, if_neg (by simp; omega)]
      go_enter Try.func83, Try.ntmps83
      go_wp2_with fail
      go_ret2
      exact ⟨by rw [HR.out]; rfl, hba⟩
  · have HR : Hid (findR 5 [] n ⟨true, ky, pl⟩ = (-1, false)) := by unfold Hid findR; rw [if_pos rfl, if_neg (by simp)]
    go_enter Try.func83, Try.ntmps83
    go_wp2_with fail
    go_ret2
    exact ⟨by rw [HR.out]; rfl, hba⟩

set_option maxRecDepth 100000 in
set_option maxHeartbeats 1600000 in
theorem find_map (p : Nat) (y kv : Value) (keys : List ByteArray) (n : Nat) (x : PS) (w : World) (h0 : w.cell? ⟨p, 0, none⟩ = some (.iface 121 y)) (h1 : w.cell? ⟨p, 1, none⟩ = some kv) (hk : StrsAt w.heap.size w kv keys) (hr : Rise keys) (hl : keys.length ≤ 1048576) (hp : p < w.heap.size) :
    Calls Try.prog 83 #[.pointer (some ⟨p, 0, none⟩), .agg #[.bool x.named, .string x.key, .int .i64 x.pl]] w fun e w' => e = .returned (.tuple #[.int .i64 (findR 6 keys n x).1, .bool (findR 6 keys n x).2]) ∧ Below w.heap.size w w' := by
  have t1 := taf_map_list y
  have t2 := ta_map_map y
  have hne : ¬ (p = w.heap.size) := by omega
  obtain ⟨nm, ky, pl⟩ := x
  simp only
  have hba : Below w.heap.size w (w.alloc (.cells #[.bool nm, .string ky, .int .i64 pl] 82)) := (Below.refl _ _).alloc (Nat.le_refl _) _
  have HK := hideIt hk
  have HRI := hideIt hr
  obtain ⟨_, _, ak, ck, rfl, _⟩ := hk
  clear hr
  cases nm
  · have HR : Hid (findR 6 keys n ⟨false, ky, pl⟩ = (-1, false)) := by unfold Hid findR; rw [if_neg (by omega), if_neg (by simp)]
    go_enter Try.func83, Try.ntmps83
    go_wp2_with fail
    go_ret2
    exact ⟨by rw [HR.out]; rfl, hba⟩
  · have HR : Hid (findR 6 keys n ⟨true, ky, pl⟩ = (((posK keys ky : Nat) : Int), hasK keys ky)) := by unfold Hid findR; rw [if_neg (by omega), if_pos ⟨rfl, rfl⟩]
    go_enter Try.func83, Try.ntmps83
    go_wp2_with fail
    go_quiet ((go_at_call 111; exact Calls.quiet_of_same (search_any w.heap.size _ keys ky _ (HK.out.below (below_drewN hba _)) HRI.out hl)))
    go_wp2_with fail
    go_ret2
    exact ⟨by rw [HR.out]; rfl, below_drewN hba nq⟩
end Go.Proofs.Ytbclgogolimbgaa
