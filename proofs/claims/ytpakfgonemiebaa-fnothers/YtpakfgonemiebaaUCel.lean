/-
  Plain: a new key among keys in order, and what is read of the nodes of a good tree.
-/
import Derived.Test.YtpakfgonemiebaaSortP
import Derived.Test.YtpakfgonemiebaaListP
import Derived.Test.YtpakfgonemiebaaSSort
import Derived.Test.YtpakfgonemiebaaWthP
import Derived.Test.YtpakfgonemiebaaTOf
import Derived.Test.YtpakfgonemiebaaAppS
import Derived.Lib.SliceRun
namespace Go.Proofs.Ytpakfgonemiebaa
open Go.RowKit
set_option linter.unusedSimpArgs false
set_option linter.unusedVariables false

theorem near_lay : ∀ {f : Nat} {t : VT}, FitT f t → ∀ sh, sh + (layT f t sh).length ≤ 100000 → ∀ j, j < (layT f t sh).length → Near (nodeAt (layT f t sh) j) := by
  intro f
  induction f with
  | zero => intro t h; exact h.elim
  | succ f ih =>
    intro t h sh hn
    obtain ⟨kind, n, s, keys, kids⟩ := t
    obtain ⟨h1, h2, h3, h4, h5, h6, h7⟩ := h
    rw [layT_eq] at hn ⊢
    rw [List.length_append, List.length_cons, List.length_nil] at hn ⊢
    have ha := acc_nodes f sh kids Near kids.length (Nat.le_refl _)
    have hall : ∀ j, j < (accT f sh kids kids.length).length → Near (nodeAt (accT f sh kids kids.length) j) := ha.2 (fun i hi => by
      refine ih (h7 i hi) _ ?_
      have hle := accT_le f sh kids (i + 1)
      rw [accT_succ f sh hi, List.length_append] at hle
      omega)
    intro j hj
    by_cases e : j < (accT f sh kids kids.length).length
    · rw [nodeAt_left e]; exact hall j e
    · obtain rfl : j = (accT f sh kids kids.length).length := by omega
      rw [nodeAt_right (Nat.le_refl _), Nat.sub_self]
      have hkl := ksT_len f sh kids (Nat.le_refl _)
      refine ⟨by show keys.length ≤ _; omega, by show (ksT f sh kids kids.length).length ≤ _; omega, fun i hi => ?_⟩
      have hi' : i < kids.length := by have : i < (ksT f sh kids kids.length).length := hi; omega
      have := ksT_get f sh (l := kids) hi' (Nat.le_refl _)
      have hle := accT_le f sh kids (i + 1)
      show -1000000 ≤ intAt (ksT f sh kids kids.length) i ∧ intAt (ksT f sh kids kids.length) i ≤ 1000000
      rw [this]
      omega
theorem near_kids {f : Nat} {kind n : Int} {s : ByteArray} {keys : List ByteArray} {kids : List VT} (hg : goodT (f + 1) (.mk kind n s keys kids)) (hl : (layT (f + 1) (.mk kind n s keys kids) 0).length ≤ 1000) : kids.length ≤ 1000 ∧ ∀ i, i < kids.length → (layT f (kidT kids i) 0).length ≤ 1000 ∧ 0 < (layT f (kidT kids i) 0).length ∧ ∀ j, j < (layT f (kidT kids i) 0).length → Near (nodeAt (layT f (kidT kids i) 0) j) := by
  rw [lay_sum] at hl
  obtain ⟨s1, s2⟩ := sum_ge (F := fun t => (layT f t 0).length) (l := kids) (fun j hj => layT_len (hg.2 j hj).full 0)
  refine ⟨by omega, fun i hi => ?_⟩
  have h1 := s2 i hi
  have h2 : 1 ≤ (layT f (kidT kids i) 0).length := layT_len (hg.2 i hi).full 0
  exact ⟨by omega, by omega, near_lay (good_fit (hg.2 i hi) (by omega)) 0 (by omega)⟩
theorem good_keys {f : Nat} {kind n : Int} {s : ByteArray} {keys : List ByteArray} {kids : List VT} (hg : goodT (f + 1) (.mk kind n s keys kids)) : keys.length ≤ kids.length := by
  rcases nodeT_says hg.1 with ⟨_, _, _, e2, _⟩ | ⟨_, _, _, e2, _⟩ | ⟨_, _, _, e2, _⟩ | ⟨_, _, _, e2, _⟩ | ⟨_, _, _, e2⟩ | ⟨_, _, _, hm, hr⟩
  · rw [e2]; simp
  · rw [e2]; simp
  · rw [e2]; simp
  · rw [e2]; simp
  · rw [e2]; simp
  · omega

theorem key_pre {l : List ByteArray} {x : ByteArray} {i : Nat} (h : i < l.length) : keyAt (l ++ [x]) i = keyAt l i := by
  unfold keyAt
  rw [List.getD_eq_getElem?_getD, List.getD_eq_getElem?_getD, List.getElem?_append_left h]
theorem key_end (l : List ByteArray) (x : ByteArray) : keyAt (l ++ [x]) l.length = x := by
  unfold keyAt
  rw [List.getD_eq_getElem?_getD, List.getElem?_append_right (Nat.le_refl _)]
  simp
theorem key_takeL {l : List ByteArray} {k j : Nat} (h : j < k) : keyAt (l.take k) j = keyAt l j := by
  unfold keyAt
  rw [List.getD_eq_getElem?_getD, List.getD_eq_getElem?_getD, List.getElem?_take, if_pos h]
theorem sort_pre {keys : List ByteArray} (key : ByteArray) (hr : Rise keys) : ∀ i, i ≤ keys.length → sortIn (keys ++ [key]) i = some (keys.take i, List.range i) := by
  intro i
  induction i with
  | zero => intro _; simp [sortIn]
  | succ i ih =>
    intro hi
    have hl : (keys.take i).length = i := by rw [List.length_take]; omega
    have hkp : keyAt (keys ++ [key]) i = keyAt keys i := key_pre (by omega)
    obtain ⟨ky, hky⟩ : ∃ ky, keyAt keys i = ky := ⟨_, rfl⟩
    have hpl : posK (keys.take i) ky ≤ i → True := fun _ => trivial
    obtain ⟨p1, p2, p3⟩ := posK_spec (l := keys.take i) ky
    have hp0 : posK (keys.take i) ky = i := by
      by_cases e : posK (keys.take i) ky < i
      · have h1 := p3 (by rw [hl]; exact e)
        rw [key_takeL e, ← hky, hky] at h1
        have h2 := hr _ i e (by omega)
        rw [hky, h1] at h2
        cases h2
      · omega
    have hp : posK (keys.take i) (keyAt (keys ++ [key]) i) = i := by
      rw [hkp, hky]; exact hp0
    have hn : hasK (keys.take i) (keyAt (keys ++ [key]) i) = false := by
      unfold hasK
      rw [hp, hl]
      simp
    have e1 : (keys.take i).take i = keys.take i := List.take_of_length_le (by omega)
    have e2 : (keys.take i).drop i = [] := List.drop_of_length_le (by omega)
    have e3 : (List.range i).take i = List.range i := List.take_of_length_le (by simp)
    have e4 : (List.range i).drop i = [] := List.drop_of_length_le (by simp)
    have e5 : keys.take (i + 1) = keys.take i ++ [keyAt keys i] := by
      rw [List.take_succ_eq_append_getElem (by omega)]
      unfold keyAt
      rw [List.getD_eq_getElem?_getD, List.getElem?_eq_getElem (by omega)]
      rfl
    rw [sortIn_put (ih (by omega)) hp hn, e1, e2, e3, e4, List.append_nil, List.append_nil, List.range_succ, hkp, e5]
theorem ins_take {α : Type} : ∀ (l : List α) (k : Nat) (x : α), k ≤ l.length → l.take k ++ [x] ++ l.drop k = l.insertIdx k x := by
  intro l
  induction l with
  | nil => intro k x h; simp at h; subst h; simp
  | cons y l ih =>
    intro k x h
    cases k with
    | zero => simp
    | succ k =>
      have := ih k x (by simp at h; omega)
      simp only [List.take_succ_cons, List.drop_succ_cons, List.cons_append, List.insertIdx_succ_cons]
      rw [← this]
      try simp
/-- A new key behind keys in order comes to its place. -/
theorem sort_new {keys : List ByteArray} {key : ByteArray} (hr : Rise keys) (hn : hasK keys key = false) : sortIn (keys ++ [key]) (keys.length + 1) = some (keys.insertIdx (posK keys key) key, (List.range keys.length).insertIdx (posK keys key) keys.length) := by
  have h1 := sort_pre key hr keys.length (Nat.le_refl _)
  rw [List.take_length] at h1
  have hp := (posK_spec (l := keys) key).1
  rw [sortIn_put h1 (j := posK keys key) (by rw [key_end]) (by rw [key_end]; exact hn), key_end, ins_take _ _ _ hp, ins_take _ _ _ (by simpa using hp)]
theorem range_ins {n p i : Nat} (hp : p ≤ n) (hi : i < n + 1) : ((List.range n).insertIdx p n)[i]? = some (if i < p then i else if i = p then n else i - 1) := by
  rw [List.getElem?_insertIdx]
  by_cases h1 : i < p
  · rw [if_pos h1, if_pos h1, List.getElem?_range (by omega)]
  · rw [if_neg h1, if_neg h1]
    by_cases h2 : i = p
    · rw [if_pos h2, if_pos h2, if_pos (by rw [List.length_range]; omega)]
    · rw [if_neg h2, if_neg h2, List.getElem?_range (by omega)]
end Go.Proofs.Ytpakfgonemiebaa

/-
  slices.Insert of one element, at parts and at keys.
-/
namespace Go.Proofs.Ytpakfgonemiebaa
open Go.RowKit
set_option linter.unusedSimpArgs false
set_option linter.unusedVariables false

theorem ins_cap {base e n k : Nat} {w : World} {a : Option Addr} {c : Nat} {xs : List Value} (h : w.ownsRow base e k (.slice a n c) n xs) : n ≤ c := by
  rcases h.2 with ⟨e1, e2⟩ | ⟨g', cap', cur, e1, _, _, h1, _⟩
  · simp only [Value.slice.injEq] at e1; omega
  · simp only [Value.slice.injEq] at e1
    obtain ⟨_, _, rfl⟩ := e1
    exact h1
theorem ins_max {base e n k : Nat} {w : World} {a : Option Addr} {c : Nat} {xs : List Value} (h : w.ownsRow base e k (.slice a n c) n xs) : c ≤ maxLen := by
  rcases h.2 with ⟨e1, e2⟩ | ⟨g', cap', cur, e1, _, _, _, h2, _⟩
  · simp only [Value.slice.injEq] at e1; unfold maxLen; omega
  · simp only [Value.slice.injEq] at e1
    obtain ⟨_, _, rfl⟩ := e1
    exact h2

set_option maxHeartbeats 4000000 in
set_option maxRecDepth 1000000 in
theorem insEndP (base : Nat) (a : Option Addr) (n cap vb : Nat) (xs : List Value) (u : Value) (w : World) (h : w.ownsRow base 58 1 (.slice a n cap) n xs) (hb : base ≤ w.heap.size) (hu : w.cell? ⟨vb, 0, none⟩ = some u) (h1 : u.oneCell' = true) (hn : n ≤ 100000) :
    Calls Try.prog 80 #[.slice a n cap, .int .i64 n, .slice (some ⟨vb, 0, none⟩) 1 1] w fun e w' => ∃ r, e = .returned r ∧ w'.ownsRow base 58 1 r (n + 1) (xs ++ [u]) ∧ w.grownBy w' (Value.slice a n cap).ownBlock ∧ (r.ownBlock = (Value.slice a n cap).ownBlock ∨ r.ownBlock = some w.heap.size) := by
  obtain ⟨i1, hi1, hz1, hs1, hy1⟩ := info_parts infoPtr
  have HO := hideIt h
  have HU := hideIt hu
  have hcap := ins_cap h
  have HF : Hid ((a = none ∧ n = 0 ∧ cap = 0) ∨ ∃ g, a = some ⟨g, 0, none⟩) := by
    rcases h.2 with ⟨e1, e2⟩ | ⟨g', cap', cur, e1, _⟩
    · simp only [Value.slice.injEq] at e1
      exact .inl e1
    · simp only [Value.slice.injEq] at e1
      exact .inr ⟨g', e1.1⟩
  have hcm : cap ≤ maxLen := ins_max h
  clear h hu
  rcases HF.out with ⟨rfl, rfl, rfl⟩ | ⟨g, rfl⟩
  · go_enter Try.func80, Try.ntmps80
    go_wp2_with (at_builtin; refine wpList_append_own_at _ rfl _ _ 114 rfl base 58 i1 (.pointer none) 1 8 Try.underlying114 hi1 hz1 hs1 hy1 rfl (by decide) _ _ _ rfl HO.out ⟨vb, 0, none⟩ 1 1 [u] rfl rfl ?c1 ?c2 ?c3 ?c4 ?c5 ?_)
    try (case c1 => intro j v hj; cases j with | zero => simp at hj; subst hj; exact HU.out | succ j => simp at hj)
    try (case c2 => intro v hv; simp at hv; subst hv; exact h1)
    try (case c3 => unfold maxLen; omega)
    try (case c4 => omega)
    try (case c5 => exact hb)
    intro r5 w5 hown5 hgrow5 _ hor5
    have HR := hideIt hown5
    have HG := hideIt hgrow5
    have HOR := hideIt hor5
    obtain ⟨a5, c5, e5⟩ := own_slice hown5
    subst e5
    clear hown5 hgrow5 hor5
    go_wp2_with fail
    go_ret
    exact ⟨_, rfl, HR.out, HG.out, HOR.out⟩
  · obtain ⟨AN, hAN⟩ : ∃ A : Addr, (if cap = n then some (⟨g, 0, none⟩ : Addr) else some ⟨g, n, none⟩) = some A := by split <;> exact ⟨_, rfl⟩
    unfold maxLen at hcm
    go_enter Try.func80, Try.ntmps80
    go_wp2_with (at_builtin; refine wpList_append_own_at _ rfl _ _ 114 rfl base 58 i1 (.pointer none) 1 8 Try.underlying114 hi1 hz1 hs1 hy1 rfl (by decide) _ _ _ rfl HO.out ⟨vb, 0, none⟩ 1 1 [u] rfl rfl ?d1 ?d2 ?d3 ?d4 ?d5 ?_)
    try (case d1 => intro j v hj; cases j with | zero => simp at hj; subst hj; exact HU.out | succ j => simp at hj)
    try (case d2 => intro v hv; simp at hv; subst hv; exact h1)
    try (case d3 => unfold maxLen; omega)
    try (case d4 => omega)
    try (case d5 => exact hb)
    intro r5 w5 hown5 hgrow5 _ hor5
    have HR := hideIt hown5
    have HG := hideIt hgrow5
    have HOR := hideIt hor5
    obtain ⟨a5, c5, e5⟩ := own_slice hown5
    subst e5
    clear hown5 hgrow5 hor5
    go_wp2_with fail
    go_ret
    exact ⟨_, rfl, HR.out, HG.out, HOR.out⟩

set_option maxHeartbeats 4000000 in
set_option maxRecDepth 1000000 in
theorem insEndS (base : Nat) (a : Option Addr) (n cap vb : Nat) (xs : List Value) (u : Value) (w : World) (h : w.ownsRow base 9 1 (.slice a n cap) n xs) (hb : base ≤ w.heap.size) (hu : w.cell? ⟨vb, 0, none⟩ = some u) (h1 : u.oneCell' = true) (hn : n ≤ 100000) :
    Calls Try.prog 81 #[.slice a n cap, .int .i64 n, .slice (some ⟨vb, 0, none⟩) 1 1] w fun e w' => ∃ r, e = .returned r ∧ w'.ownsRow base 9 1 r (n + 1) (xs ++ [u]) ∧ w.grownBy w' (Value.slice a n cap).ownBlock ∧ (r.ownBlock = (Value.slice a n cap).ownBlock ∨ r.ownBlock = some w.heap.size) := by
  obtain ⟨i1, hi1, hz1, hs1, hy1⟩ := info_parts infoStr
  have HO := hideIt h
  have HU := hideIt hu
  have hcap := ins_cap h
  have HF : Hid ((a = none ∧ n = 0 ∧ cap = 0) ∨ ∃ g, a = some ⟨g, 0, none⟩) := by
    rcases h.2 with ⟨e1, e2⟩ | ⟨g', cap', cur, e1, _⟩
    · simp only [Value.slice.injEq] at e1
      exact .inl e1
    · simp only [Value.slice.injEq] at e1
      exact .inr ⟨g', e1.1⟩
  have hcm : cap ≤ maxLen := ins_max h
  clear h hu
  rcases HF.out with ⟨rfl, rfl, rfl⟩ | ⟨g, rfl⟩
  · go_enter Try.func81, Try.ntmps81
    go_wp2_with (at_builtin; refine wpList_append_own_at _ rfl _ _ 75 rfl base 9 i1 (.string ByteArray.empty) 1 16 Try.underlying75 hi1 hz1 hs1 hy1 rfl (by decide) _ _ _ rfl HO.out ⟨vb, 0, none⟩ 1 1 [u] rfl rfl ?c1 ?c2 ?c3 ?c4 ?c5 ?_)
    try (case c1 => intro j v hj; cases j with | zero => simp at hj; subst hj; exact HU.out | succ j => simp at hj)
    try (case c2 => intro v hv; simp at hv; subst hv; exact h1)
    try (case c3 => unfold maxLen; omega)
    try (case c4 => omega)
    try (case c5 => exact hb)
    intro r5 w5 hown5 hgrow5 _ hor5
    have HR := hideIt hown5
    have HG := hideIt hgrow5
    have HOR := hideIt hor5
    obtain ⟨a5, c5, e5⟩ := own_slice hown5
    subst e5
    clear hown5 hgrow5 hor5
    go_wp2_with fail
    go_ret
    exact ⟨_, rfl, HR.out, HG.out, HOR.out⟩
  · obtain ⟨AN, hAN⟩ : ∃ A : Addr, (if cap = n then some (⟨g, 0, none⟩ : Addr) else some ⟨g, n, none⟩) = some A := by split <;> exact ⟨_, rfl⟩
    unfold maxLen at hcm
    go_enter Try.func81, Try.ntmps81
    go_wp2_with (at_builtin; refine wpList_append_own_at _ rfl _ _ 75 rfl base 9 i1 (.string ByteArray.empty) 1 16 Try.underlying75 hi1 hz1 hs1 hy1 rfl (by decide) _ _ _ rfl HO.out ⟨vb, 0, none⟩ 1 1 [u] rfl rfl ?d1 ?d2 ?d3 ?d4 ?d5 ?_)
    try (case d1 => intro j v hj; cases j with | zero => simp at hj; subst hj; exact HU.out | succ j => simp at hj)
    try (case d2 => intro v hv; simp at hv; subst hv; exact h1)
    try (case d3 => unfold maxLen; omega)
    try (case d4 => omega)
    try (case d5 => exact hb)
    intro r5 w5 hown5 hgrow5 _ hor5
    have HR := hideIt hown5
    have HG := hideIt hgrow5
    have HOR := hideIt hor5
    obtain ⟨a5, c5, e5⟩ := own_slice hown5
    subst e5
    clear hown5 hgrow5 hor5
    go_wp2_with fail
    go_ret
    exact ⟨_, rfl, HR.out, HG.out, HOR.out⟩
end Go.Proofs.Ytpakfgonemiebaa

/-
  Cells written in a row.
-/
namespace Go.Proofs.Ytpakfgonemiebaa
open Go.RowKit
set_option linter.unusedSimpArgs false
set_option linter.unusedVariables false

theorem cells_some (b : Nat) : ∀ (vs : List Value) (o : Nat) (w : World) (x : Addr), (w.cell? x).isSome = true → ((w.setCells b o vs).cell? x).isSome = true
  | [], _, _, _, h => h
  | v :: r, o, w, x, h => by
    rw [World.setCells]
    refine cells_some b r (o + 1) _ x ?_
    by_cases e : x = ⟨b, o, none⟩
    · subst e
      obtain ⟨u, hu⟩ := Option.isSome_iff_exists.1 h
      rw [World.cell?_setCell_same _ _ _ hu]; rfl
    · rw [World.cell?_setCell_other _ _ _ _ (fun h => e h.symm)]; exact h
theorem cells_rest (b : Nat) : ∀ (vs : List Value) (o : Nat) (w : World), (w.setCells b o vs).os = w.os ∧ (w.setCells b o vs).tape = w.tape ∧ (w.setCells b o vs).output = w.output ∧ (w.setCells b o vs).heap.size = w.heap.size
  | [], _, _ => ⟨rfl, rfl, rfl, rfl⟩
  | v :: r, o, w => by
    rw [World.setCells]
    obtain ⟨h1, h2, h3, h4⟩ := cells_rest b r (o + 1) (w.setCell ⟨b, o, none⟩ v)
    exact ⟨h1, h2, h3, h4.trans (by simp)⟩
end Go.Proofs.Ytpakfgonemiebaa
