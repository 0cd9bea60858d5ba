/-
  impl.treeOf: the parts of a value as pointers.
-/
import Derived.Test.YtbclgogolimbgaaBSrch
import Derived.Test.YtbclgogolimbgaaKpK
import Derived.Test.YtbclgogolimbgaaCln
import Derived.Test.YtbclgogolimbgaaStepN
import Derived.Deep.DrawnRows
namespace Go.Proofs.Ytbclgogolimbgaa
open Go.RowKit
set_option linter.unusedSimpArgs false
set_option linter.unusedVariables false
attribute [local go_sem ↓] Go.wp_at_zero Go.wp_at_succ

theorem ta_bool_map (x : Value) (w : World) : (Instr.typeAssert (.iface 132 x) 61 121 true).run Try.prog w = .ok (.tuple #[.agg #[.slice none 0 0, .slice none 0 0], .bool false]) w := by kernel_rfl
theorem ta_int_map (x : Value) (w : World) : (Instr.typeAssert (.iface 133 x) 61 121 true).run Try.prog w = .ok (.tuple #[.agg #[.slice none 0 0, .slice none 0 0], .bool false]) w := by kernel_rfl
theorem ta_text_map (x : Value) (w : World) : (Instr.typeAssert (.iface 135 x) 61 121 true).run Try.prog w = .ok (.tuple #[.agg #[.slice none 0 0, .slice none 0 0], .bool false]) w := by kernel_rfl

theorem mp_1 (x : Value) (w : World) : (method 279 155 x "loop.example/g00345/impl.parts").run Try.prog w = .ok (150, x) w := by kernel_rfl
theorem mp_2 (x : Value) (w : World) : (method 279 132 x "loop.example/g00345/impl.parts").run Try.prog w = .ok (144, x) w := by kernel_rfl
theorem mp_3 (x : Value) (w : World) : (method 279 133 x "loop.example/g00345/impl.parts").run Try.prog w = .ok (146, x) w := by kernel_rfl
theorem mp_4 (x : Value) (w : World) : (method 279 135 x "loop.example/g00345/impl.parts").run Try.prog w = .ok (148, x) w := by kernel_rfl
theorem mp_5 (x : Value) (w : World) : (method 279 129 x "loop.example/g00345/impl.parts").run Try.prog w = .ok (142, x) w := by kernel_rfl
theorem mp_6 (x : Value) (w : World) : (method 279 121 x "loop.example/g00345/impl.parts").run Try.prog w = .ok (140, x) w := by kernel_rfl

/-- What treeOf answers, at every tree of that height. -/
def Trees (B f : Nat) : Prop :=
  ∀ (t : VT) (x : Value) (w : World), TreeAt B w f t x → B ≤ w.heap.size →
    Calls Try.prog 39 #[x] w fun e w' => ∃ p, e = .returned (.pointer (some ⟨p, 0, none⟩)) ∧ PT B w' f t w.heap.size w'.heap.size (.pointer (some ⟨p, 0, none⟩)) ∧ Below w.heap.size w w'

theorem PT.mk {B : Nat} {w : World} {f : Nat} {kind n : Int} {s : ByteArray} {keys : List ByteArray} {kids : List VT} {lo hi M p : Nat} {sv ks it : Value} {ps : Nat → Value} {ls hs : Nat → Nat} (ht : TreeAt B w (f + 1) (.mk kind n s keys kids) sv) (hM : kids.length = M)
    (hp : PNode w lo hi sv keys M (fun j l h u => PT B w f (kidT kids j) l h u) p ks it ps ls hs) : PT B w (f + 1) (.mk kind n s keys kids) lo hi (.pointer (some ⟨p, 0, none⟩)) := by
  subst hM
  exact ⟨sv, p, ks, it, ps, ls, hs, rfl, ht, hp⟩

theorem infoPtr : (Try.prog.info? 64).map (fun i => (i.zero, i.size, i.bytes)) = some (some (.pointer none), 1, 8) := by kernel_rfl

/-- A part without parts and keys. -/
theorem PNode.start {B : Nat} {w w1 : World} {sv : Value} {f : Nat} {T : Nat → VT} (h : Below (w.alloc (.cells #[sv, .slice none 0 0, .slice none 0 0] 119)).heap.size (w.alloc (.cells #[sv, .slice none 0 0, .slice none 0 0] 119)) w1) :
    PNode w1 w.heap.size w1.heap.size sv [] 0 (fun j l h u => PT B w1 f (T j) l h u) w.heap.size (.slice none 0 0) (.slice none 0 0) (fun _ => undef) (fun _ => 0) (fun _ => 0) := by
  have hs := h.size
  simp only [World.size_alloc] at hs
  have hn := World.ownsRow_lit (base := w.heap.size) (e := 119) (size := 3) w #[sv, .slice none 0 0, .slice none 0 0] 1 (Nat.le_refl _) (by simp [maxLen]) rfl
  refine ⟨own_below hn h (fun x hx => ?_), World.ownsRow_nil _ _ _ _, World.ownsRow_nil _ _ _ _, fun x hx => ?_, fun j hj => absurd hj (by omega), fun j hj => absurd hj (by omega), fun i j _ hj => absurd hj (by omega), fun j hj => absurd hj (by omega)⟩
  · simp [Value.ownBlock] at hx; subst hx; simp
  · rcases hx with rfl | hx | hx
    · omega
    · cases hx
    · cases hx

set_option maxRecDepth 100000 in
set_option maxHeartbeats 1600000 in
theorem treeOf_null (B f : Nat) (w : World) (hB : B ≤ w.heap.size) :
    Calls Try.prog 39 #[.iface 155 (.agg #[])] w fun e w' => ∃ p, e = .returned (.pointer (some ⟨p, 0, none⟩)) ∧ PT B w' (f + 1) (.mk 1 0 ByteArray.empty [] []) w.heap.size w'.heap.size (.pointer (some ⟨p, 0, none⟩)) ∧ Below w.heap.size w w' := by
  have hta := ta_null_map (.agg #[])
  have hmp := mp_1 (.agg #[])
  go_enter Try.func39, Try.ntmps39
  go_wp2_with fail
  refine (parts1_any _).mono ?_
  rintro e w2 ⟨rfl, hb2⟩
  have hb1 : Below (w.alloc (.cells #[.iface 155 (.agg #[]), .slice none 0 0, .slice none 0 0] 119)).heap.size (w.alloc (.cells #[.iface 155 (.agg #[]), .slice none 0 0, .slice none 0 0] 119)) w2 := ((Below.refl _ _).alloc (Nat.le_refl _) _).trans (hb2.mono (by simp))
  have HP := hideIt (PNode.start (B := B) (f := f) (T := kidT []) hb1)
  have HB := hideIt (((Below.refl w.heap.size w).alloc (Nat.le_refl _) _).trans (hb1.mono (by simp)))
  clear hb1 hb2
  go_wp2_with fail
  go_loopw [26] (fun i wr => i = .int .i64 0 ∧ wr = w2) (fun _ _ => 0)
  case atStart => exact ⟨rfl, rfl⟩
  case round =>
    obtain ⟨rfl, rfl⟩ := hrel
    go_wp2_with fail
    go_ret
    exact ⟨w.heap.size, rfl, ⟨_, w.heap.size, _, _, _, _, _, rfl, Or.inl ⟨rfl, rfl, rfl, rfl, rfl, rfl⟩, HP.out⟩, HB.out⟩

set_option maxRecDepth 100000 in
set_option maxHeartbeats 1600000 in
theorem treeOf_bool (n : Int) (B f : Nat) (w : World) (hB : B ≤ w.heap.size) :
    Calls Try.prog 39 #[.iface 132 (.agg #[.int .i64 n])] w fun e w' => ∃ p, e = .returned (.pointer (some ⟨p, 0, none⟩)) ∧ PT B w' (f + 1) (.mk 2 n ByteArray.empty [] []) w.heap.size w'.heap.size (.pointer (some ⟨p, 0, none⟩)) ∧ Below w.heap.size w w' := by
  have hta := ta_bool_map (.agg #[.int .i64 n])
  have hmp := mp_2 (.agg #[.int .i64 n])
  go_enter Try.func39, Try.ntmps39
  go_wp2_with fail
  refine (parts2_any _ _).mono ?_
  rintro e w2 ⟨rfl, hb2⟩
  have hb1 : Below (w.alloc (.cells #[.iface 132 (.agg #[.int .i64 n]), .slice none 0 0, .slice none 0 0] 119)).heap.size (w.alloc (.cells #[.iface 132 (.agg #[.int .i64 n]), .slice none 0 0, .slice none 0 0] 119)) w2 := ((Below.refl _ _).alloc (Nat.le_refl _) _).trans (hb2.mono (by simp))
  have HP := hideIt (PNode.start (B := B) (f := f) (T := kidT []) hb1)
  have HB := hideIt (((Below.refl w.heap.size w).alloc (Nat.le_refl _) _).trans (hb1.mono (by simp)))
  clear hb1 hb2
  go_wp2_with fail
  go_loopw [26] (fun i wr => i = .int .i64 0 ∧ wr = w2) (fun _ _ => 0)
  case atStart => exact ⟨rfl, rfl⟩
  case round =>
    obtain ⟨rfl, rfl⟩ := hrel
    go_wp2_with fail
    go_ret
    exact ⟨w.heap.size, rfl, ⟨_, w.heap.size, _, _, _, _, _, rfl, Or.inr (Or.inl ⟨rfl, rfl, rfl, rfl, rfl⟩), HP.out⟩, HB.out⟩

set_option maxRecDepth 100000 in
set_option maxHeartbeats 1600000 in
theorem treeOf_int (n : Int) (B f : Nat) (w : World) (hB : B ≤ w.heap.size) :
    Calls Try.prog 39 #[.iface 133 (.agg #[.int .i64 n])] w fun e w' => ∃ p, e = .returned (.pointer (some ⟨p, 0, none⟩)) ∧ PT B w' (f + 1) (.mk 3 n ByteArray.empty [] []) w.heap.size w'.heap.size (.pointer (some ⟨p, 0, none⟩)) ∧ Below w.heap.size w w' := by
  have hta := ta_int_map (.agg #[.int .i64 n])
  have hmp := mp_3 (.agg #[.int .i64 n])
  go_enter Try.func39, Try.ntmps39
  go_wp2_with fail
  refine (parts3_any _ _).mono ?_
  rintro e w2 ⟨rfl, hb2⟩
  have hb1 : Below (w.alloc (.cells #[.iface 133 (.agg #[.int .i64 n]), .slice none 0 0, .slice none 0 0] 119)).heap.size (w.alloc (.cells #[.iface 133 (.agg #[.int .i64 n]), .slice none 0 0, .slice none 0 0] 119)) w2 := ((Below.refl _ _).alloc (Nat.le_refl _) _).trans (hb2.mono (by simp))
  have HP := hideIt (PNode.start (B := B) (f := f) (T := kidT []) hb1)
  have HB := hideIt (((Below.refl w.heap.size w).alloc (Nat.le_refl _) _).trans (hb1.mono (by simp)))
  clear hb1 hb2
  go_wp2_with fail
  go_loopw [26] (fun i wr => i = .int .i64 0 ∧ wr = w2) (fun _ _ => 0)
  case atStart => exact ⟨rfl, rfl⟩
  case round =>
    obtain ⟨rfl, rfl⟩ := hrel
    go_wp2_with fail
    go_ret
    exact ⟨w.heap.size, rfl, ⟨_, w.heap.size, _, _, _, _, _, rfl, Or.inr (Or.inr (Or.inl ⟨rfl, rfl, rfl, rfl, rfl⟩)), HP.out⟩, HB.out⟩

set_option maxRecDepth 100000 in
set_option maxHeartbeats 1600000 in
theorem treeOf_text (s : ByteArray) (B f : Nat) (w : World) (hB : B ≤ w.heap.size) :
    Calls Try.prog 39 #[.iface 135 (.agg #[.string s])] w fun e w' => ∃ p, e = .returned (.pointer (some ⟨p, 0, none⟩)) ∧ PT B w' (f + 1) (.mk 4 0 s [] []) w.heap.size w'.heap.size (.pointer (some ⟨p, 0, none⟩)) ∧ Below w.heap.size w w' := by
  have hta := ta_text_map (.agg #[.string s])
  have hmp := mp_4 (.agg #[.string s])
  go_enter Try.func39, Try.ntmps39
  go_wp2_with fail
  refine (parts4_any _ _).mono ?_
  rintro e w2 ⟨rfl, hb2⟩
  have hb1 : Below (w.alloc (.cells #[.iface 135 (.agg #[.string s]), .slice none 0 0, .slice none 0 0] 119)).heap.size (w.alloc (.cells #[.iface 135 (.agg #[.string s]), .slice none 0 0, .slice none 0 0] 119)) w2 := ((Below.refl _ _).alloc (Nat.le_refl _) _).trans (hb2.mono (by simp))
  have HP := hideIt (PNode.start (B := B) (f := f) (T := kidT []) hb1)
  have HB := hideIt (((Below.refl w.heap.size w).alloc (Nat.le_refl _) _).trans (hb1.mono (by simp)))
  clear hb1 hb2
  go_wp2_with fail
  go_loopw [26] (fun i wr => i = .int .i64 0 ∧ wr = w2) (fun _ _ => 0)
  case atStart => exact ⟨rfl, rfl⟩
  case round =>
    obtain ⟨rfl, rfl⟩ := hrel
    go_wp2_with fail
    go_ret
    exact ⟨w.heap.size, rfl, ⟨_, w.heap.size, _, _, _, _, _, rfl, Or.inr (Or.inr (Or.inr (Or.inl ⟨rfl, rfl, rfl, rfl, rfl⟩))), HP.out⟩, HB.out⟩

/-- What stands behind the call for a part, and behind the block that is laid for it. -/
structure Behind (lo : Nat) (wr w1 : World) (iv u : Value) (k : Nat) (xs : List Value) : Prop where
  le : wr.heap.size ≤ w1.heap.size
  bel : Below wr.heap.size wr w1
  base : lo ≤ (w1.alloc (.cells #[u] 64)).heap.size
  row : (w1.alloc (.cells #[u] 64)).ownsRow lo 64 1 iv k xs
  c1 : w1.cell? ⟨lo, 2, none⟩ = some iv
  c2 : (w1.alloc (.cells #[u] 64)).cell? ⟨lo, 2, none⟩ = some iv
  f2 : (w1.alloc (.cells #[u] 64)).frozen? ⟨lo, 2, none⟩ = false
  lt0 : lo < w1.heap.size
  lt : lo < (w1.alloc (.cells #[u] 64)).heap.size
  top : (w1.alloc (.cells #[u] 64)).heap.size = w1.heap.size + 1
  news : ∀ j x, [u][j]? = some x → (w1.alloc (.cells #[u] 64)).cell? ((⟨w1.heap.size, 0, none⟩ : Addr).add j) = some x

theorem Behind.of {lo : Nat} {wr w1 : World} {iv u : Value} {k : Nat} {xs : List Value} (hb1 : Below wr.drew.heap.size wr.drew w1) (hpl : lo < wr.heap.size) (hrow : wr.ownsRow lo 64 1 iv k xs) (hc : wr.cell? ⟨lo, 2, none⟩ = some iv) (hf : wr.frozen? ⟨lo, 2, none⟩ = false) : Behind lo wr w1 iv u k xs := by
  have hb : Below wr.heap.size wr w1 := (Below.refl wr.heap.size wr).drew.trans (by simpa using hb1)
  have hz := hb.size
  have hba := (Below.refl w1.heap.size w1).alloc (Nat.le_refl _) (.cells #[u] 64)
  have c1 : w1.cell? ⟨lo, 2, none⟩ = some iv := (below_cell hb hpl).trans hc
  exact ⟨hz, hb, by simp; omega, (own_below hrow hb (fun x hx => (hrow.lt x hx).2)).alloc _, c1, (below_cell hba (by omega)).trans c1, (hba.frozen (p := ⟨lo, 2, none⟩) (by show lo < _; omega)).trans ((hb.frozen (p := ⟨lo, 2, none⟩) hpl).trans hf), by omega, by simp; omega, by simp,
    World.news_of_block (cs := #[u]) (t := 64) (fr := (0, 0)) (heap_alloc_new w1 _)⟩

set_option maxRecDepth 100000 in
theorem call_treeOf (v : Value) (w : World) : (callFunc 39 #[v]).run Try.prog w = .ok (.enter 39 #[v]) w := by
  have h := Try.func39
  go_simp

set_option maxRecDepth 100000 in
set_option maxHeartbeats 6400000 in
theorem treeOf_list (B f : Nat) (ih : Trees B f) (kids : List VT) (it : Value) (w : World) (hit : TItems B w it kids.length (fun j u => TreeAt B w f (kidT kids j) u)) (hB : B ≤ w.heap.size) :
    Calls Try.prog 39 #[.iface 129 (.agg #[it])] w fun e w' => ∃ p, e = .returned (.pointer (some ⟨p, 0, none⟩)) ∧ PT B w' (f + 1) (.mk 5 0 ByteArray.empty [] kids) w.heap.size w'.heap.size (.pointer (some ⟨p, 0, none⟩)) ∧ Below w.heap.size w w' := by
  have HTW : Hid (TreeAt B w (f + 1) (.mk 5 0 ByteArray.empty [] kids) (.iface 129 (.agg #[it]))) := Or.inr (Or.inr (Or.inr (Or.inr (Or.inl ⟨rfl, rfl, rfl, rfl, _, rfl, hit⟩))))
  obtain ⟨hM, ai, ci, rfl, hx⟩ := hit
  have HX := hideIt hx
  clear hx
  obtain ⟨M, hM2⟩ : ∃ M, kids.length = M := ⟨_, rfl⟩
  have HM := hideIt hM2
  rw [hM2] at hM HX HTW ⊢
  clear hM2
  have hta := ta_list_map (.agg #[.slice ai M ci])
  have hmp := mp_5 (.agg #[.slice ai M ci])
  obtain ⟨i0, hi0, hz0, hs0, hy0⟩ := info_parts infoPtr
  go_enter Try.func39, Try.ntmps39
  go_wp2_with fail
  refine (parts5_any _ _ _ _).mono ?_
  rintro e w2 ⟨rfl, hb2⟩
  have hb1 : Below (w.alloc (.cells #[.iface 129 (.agg #[.slice ai M ci]), .slice none 0 0, .slice none 0 0] 119)).heap.size (w.alloc (.cells #[.iface 129 (.agg #[.slice ai M ci]), .slice none 0 0, .slice none 0 0] 119)) w2 := ((Below.refl _ _).alloc (Nat.le_refl _) _).trans (hb2.mono (by simp))
  have HP := hideIt (PNode.start (B := B) (f := f) (T := kidT kids) hb1)
  have HB := hideIt (((Below.refl w.heap.size w).alloc (Nat.le_refl _) _).trans (hb1.mono (by simp)))
  clear hb1 hb2
  go_wp2_with fail
  go_loopw [26] (fun i wr => ∃ (k : Nat) (iv : Value) (ps : Nat → Value) (ls hs : Nat → Nat), k ≤ M ∧ i = .int .i64 k ∧ PNode wr w.heap.size wr.heap.size (.iface 129 (.agg #[.slice ai M ci])) [] k (fun j l h u => PT B wr f (kidT kids j) l h u) w.heap.size (.slice none 0 0) iv ps ls hs ∧ Below w.heap.size w wr) (fun i _ => M - (intOf i).toNat)
  case atStart => exact ⟨0, _, _, _, _, Nat.zero_le _, rfl, HP.out, HB.out⟩
  case round =>
    obtain ⟨k, iv, ps, ls, hs, hk, rfl, hp, hbl⟩ := hrel
    have HP1 := hideIt hp
    have zs := hbl.size
    obtain ⟨av, cv, ev⟩ := own_slice hp.kidsR
    subst ev
    have hnode := hp.node
    have hpl := (hp.lt (Or.inl rfl)).2
    have hc2 : wr.cell? ⟨w.heap.size, 2, none⟩ = some (.slice av k cv) := by rw [hnode.cellAt 2 (by omega)]; rfl
    have hf2 := hnode.frozenAt 2
    have ane : (Value.slice av k cv).ownBlock ≠ some w.heap.size := fun e => by
      rcases own_apart hp.kidsR hp.node (by decide) with e2 | e2
      · rw [e2] at e; cases e
      · exact e2 (by rw [e]; rfl)
    clear hp HP HB hnode
    by_cases hlt : k < M
    · obtain ⟨b, rfl, hbB, hc⟩ := HX.out (by omega)
      obtain ⟨tk, xk, hck, htk⟩ := hc k hlt
      have hck' : wr.cell? ⟨b, k, none⟩ = some (.iface tk xk) := (below_cell hbl (by omega)).trans hck
      have HT := hideIt (TreeAt.keep (fun c hcc => hbl.block c (by omega)) (Nat.le_refl _) htk)
      have HTD : Hid (TreeAt B wr.drew f (kidT kids k) (.iface tk xk)) := TreeAt.keep (w := wr) (w' := wr.drew) (fun _ _ => rfl) (Nat.le_refl _) HT.out
      have hBdrew : B ≤ wr.drew.heap.size := by simp; omega
      have hone : ∀ (pk : Nat), ∀ u ∈ [Value.pointer (some ⟨pk, 0, none⟩)], u.oneCell' = true := fun pk u hu => by simp at hu; subst hu; rfl
      have hml : k + 1 ≤ maxLen := by unfold maxLen; omega
      have hby : (k + 1) * 8 ≤ 140737488355328 := by omega
      clear hc hck htk
      go_wp2_with fail
      go_region_law
        (first
          | (refine step_call1 (by rfl) 39 _ _ (by rfl) (.iface tk xk) (by rfl) (call_treeOf _) (ih (kidT kids k) (.iface tk xk) _ HTD.out hBdrew) ?_; rintro e w1 ⟨pk, rfl, hpk, hb1⟩; have hbh := Behind.of (u := .pointer (some ⟨pk, 0, none⟩)) hb1 hpl HP1.out.kidsR hc2 hf2; have hS1 := hbh.c1; have hS2 := hbh.c2; refine ⟨_, rfl, ?_⟩)
          | (refine step_append_lies _ (by rfl) _ _ _ (by rfl) w.heap.size 64 i0 (.pointer none) 1 8 Try.underlying117 hi0 hz0 hs0 hy0 rfl (by omega) (.slice av k cv) k ((List.range k).map ps) (by rfl) hbh.row ⟨w1.heap.size, 0, none⟩ 1 1 [.pointer (some ⟨pk, 0, none⟩)] (by rfl) (by rfl) hbh.news (hone pk) (by omega) hml hby hbh.base (w1.heap.size + 1) hbh.top ?_; intro g cap w5 hown hgrow hat hlt5; have hS3 : w5.cell? ⟨w.heap.size, 2, none⟩ = some (.slice av k cv) := (World.grownBy.cell_far hgrow ⟨w.heap.size, 2, none⟩ hbh.lt (Ne.symm ane)).trans hbh.c2; have hf3 : w5.frozen? ⟨w.heap.size, 2, none⟩ = false := (World.grownBy.frozen_far hgrow ⟨w.heap.size, 2, none⟩ hbh.lt (Ne.symm ane)).trans hbh.f2))
      all_goals
        have HPK : Hid (PT B w1 f (kidT kids k) wr.heap.size w1.heap.size (.pointer (some ⟨pk, 0, none⟩))) := by simpa [Hid] using hpk
        have HS := hideIt (HP1.out.snoc hB zs hbh.bel HPK.out hown hgrow hat)
        have hg5 := hgrow.size
        have zb1 := hbh.le
        have hgz : w1.heap.size + 1 ≤ w5.heap.size := by simpa using hg5
        have HB5 : Hid (Below w.heap.size w (w5.setCell ⟨w.heap.size, 2, none⟩ (.slice (some ⟨g, 0, none⟩) (k + 1) cap))) := (((hbl.trans (hbh.bel.mono zs)).alloc (by omega) _).grown hgrow (by simp; omega) (fun x hx => (HP1.out.kidsR.lt x hx).1)).setCell (Nat.le_refl _) _
        go_wp2_with fail
        go_roundw
        case rel => exact ⟨k + 1, _, _, _, _, by omega, by go_num, HS.out, HB5.out⟩
        case measure => simp [intOf]; omega
    · obtain rfl : k = M := by omega
      go_wp2_with fail
      go_ret
      exact ⟨w.heap.size, rfl, PT.mk (TreeAt.keep (fun c hcc => hbl.block c (by omega)) (Nat.le_refl _) HTW.out) HM.out HP1.out, hbl⟩
end Go.Proofs.Ytbclgogolimbgaa
