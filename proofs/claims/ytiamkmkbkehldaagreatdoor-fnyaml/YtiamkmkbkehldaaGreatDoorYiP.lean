/-
  What turns giving up into false: unlessGivenUp at a reading that hands back a value.
-/
import Derived.Test.YtiamkmkbkehldaaGreatDoorRdM
import Derived.Test.YtiamkmkbkehldaaGreatDoorRdN
import Derived.Test.YtiamkmkbkehldaaGreatDoorRd
import Derived.Test.YtiamkmkbkehldaaGreatDoorYmP
import Derived.Test.YtiamkmkbkehldaaGreatDoorYiR
import Derived.Laws.EntriesVeiled
namespace Go.Proofs.YtiamkmkbkehldaaGreatDoor
open Go.RowKit
set_option linter.unusedSimpArgs false
set_option linter.unusedVariables false

theorem catchV_idle (q : Addr) (w : World) :
    CallsD Tryz.prog 84 #[.pointer (some q)] .returning w fun e u' w' => e = .returned (.tuple #[]) ∧ u' = .returning ∧ w' = w := by
  refine callsD_of_wpS Tryz.func84 rfl fun c₀ cs hu => ?_
  apply wpS_seq
  apply wpS_region
  simp [wpOpsS, go_sem, recoverD, hu, Tryz.ntmps84, Exit.thenS]
  refine wpS_cond (t := false) (by simp [Act.eval, Array.replicate]) ?_
  simp only [Bool.false_eq_true, if_false]
  refine wpS_of_wp (wp_skip ?_)
  cases c₀
  simp_all [bodyPostS, results, Tryz.results84]

end Go.Proofs.YtiamkmkbkehldaaGreatDoor

/-
  Plain: the tree of right nodes is good; the nodes that are laid for a tree, and its tree again.
-/
namespace Go.Proofs.YtiamkmkbkehldaaGreatDoor
open Go.RowKit
set_option linter.unusedSimpArgs false
set_option linter.unusedVariables false

theorem good_tree {vs : List VN} (hok : okB vs = true) : ∀ f i, i < vs.length → i < f → goodT f (treeOf vs f i) := by
  intro f
  induction f with
  | zero => intro i _ h; omega
  | succ f ih =>
    intro i hi hf
    obtain ⟨_, p2, _, _⟩ := okB_parts hok
    rw [treeOf]
    refine ⟨?_, fun j hj => ?_⟩
    · have := (p2 i hi).1
      rw [nodeT_eq] at this
      rw [List.length_map]
      exact this
    · rw [List.length_map] at hj
      have hki := kidsIn_get (p2 i hi).2 hj
      rw [kidT_map hj]
      exact ih _ (by omega) (by omega)
theorem whole_lay {vs : List VN} (hok : okB vs = true) : layT vs.length (treeOf vs vs.length (vs.length - 1)) 0 = vs := by
  obtain ⟨p1, _⟩ := okB_parts hok
  obtain ⟨h, htr⟩ := root_first hok
  rw [← lay_tree, lay_run vs vs.length (vs.length - 1) 0 0 h (by omega) htr]
  rw [show vs.length - 1 + 1 - 0 = vs.length by omega, show (((0 : Nat) : Int) - ((0 : Nat) : Int)) = 0 by omega, run_all]
  have : (shiftN 0) = id := by funext x; exact shift_zero x
  rw [this, List.map_id]
end Go.Proofs.YtiamkmkbkehldaaGreatDoor

/-
  Plain: trees changed at the end of a path: a part taken or laid there, the rest as it was.
-/
namespace Go.Proofs.YtiamkmkbkehldaaGreatDoor
open Go.RowKit
set_option linter.unusedSimpArgs false
set_option linter.unusedVariables false

/-! ### How many nodes, how deep -/
theorem cat_sumT (f : Nat) (kids : List VT) : ∀ k, k ≤ kids.length → (catNs (fun i => layT f (kidT kids i) 0) k).length = ((kids.take k).map fun t => (layT f t 0).length).sum := by
  intro k
  induction k with
  | zero => intro _; rfl
  | succ k ih =>
    intro hk
    rw [catNs_len, ih (by omega), take_kid (by omega), List.map_append, List.sum_append]
    simp
theorem lay_sum (f : Nat) (kind n : Int) (s : ByteArray) (keys : List ByteArray) (kids : List VT) : (layT (f + 1) (.mk kind n s keys kids) 0).length = (kids.map fun t => (layT f t 0).length).sum + 1 := by
  rw [layT_eq, (acc_cat f kids _ (Nat.le_refl _)).1, List.length_append, cat_sumT f kids _ (Nat.le_refl _), List.take_length]
  rfl
end Go.Proofs.YtiamkmkbkehldaaGreatDoor

/-
  Plain: a part laid at the end of a path.
-/
namespace Go.Proofs.YtiamkmkbkehldaaGreatDoor
open Go.RowKit
set_option linter.unusedSimpArgs false
set_option linter.unusedVariables false

end Go.Proofs.YtiamkmkbkehldaaGreatDoor

/-
  Plain: trees whose nodes fit.
-/
namespace Go.Proofs.YtiamkmkbkehldaaGreatDoor
open Go.RowKit
set_option linter.unusedSimpArgs false
set_option linter.unusedVariables false

def FitT : Nat → VT → Prop
  | 0, _ => False
  | f + 1, .mk kind n s keys kids => (1 ≤ kind ∧ kind ≤ 6) ∧ (-9223372036854775808 ≤ n ∧ n ≤ 9223372036854775807) ∧ s.size ≤ 100000 ∧ keys.length ≤ 100000 ∧ (∀ i, i < keys.length → (keyAt keys i).size ≤ 100000) ∧ kids.length ≤ 100000 ∧ ∀ j, j < kids.length → FitT f (kidT kids j)
theorem FitT.full : ∀ {f : Nat} {t : VT}, FitT f t → FullT f t
  | 0, _, h => h.elim
  | f + 1, .mk _ _ _ _ _, h => fun j hj => (h.2.2.2.2.2.2 j hj).full
theorem ksT_get (f sh : Nat) {l : List VT} : ∀ {m j : Nat}, j < m → m ≤ l.length → intAt (ksT f sh l m) j = ((sh + (accT f sh l (j + 1)).length : Nat) : Int) - 1 := by
  intro m
  induction m with
  | zero => intro j h; omega
  | succ m ih =>
    intro j hj hm
    have hl := ksT_len f sh l (k := m) (by omega)
    rw [ksT_succ f sh (by omega)]
    by_cases e : j < m
    · have := ih e (by omega)
      unfold intAt at this ⊢
      rw [List.getD_eq_getElem?_getD, List.getElem?_append_left (by omega), ← List.getD_eq_getElem?_getD]
      exact this
    · obtain rfl : j = m := by omega
      unfold intAt
      rw [List.getD_eq_getElem?_getD, List.getElem?_append_right (by omega), hl, Nat.sub_self]
      rfl
theorem fits_lay : ∀ {f : Nat} {t : VT}, FitT f t → ∀ sh, sh + (layT f t sh).length ≤ 1000000 → ∀ j, j < (layT f t sh).length → Fits (nodeAt (layT f t sh) j) := by
  intro f
  induction f with
  | zero => intro t h; exact h.elim
  | succ f ih =>
    intro t h sh hn
    obtain ⟨kind, n, s, keys, kids⟩ := t
    obtain ⟨h1, h2, h3, h4, h5, h6, h7⟩ := h
    rw [layT_eq] at hn ⊢
    rw [List.length_append, List.length_cons, List.length_nil] at hn ⊢
    have ha := acc_nodes f sh kids Fits kids.length (Nat.le_refl _)
    have hall : ∀ j, j < (accT f sh kids kids.length).length → Fits (nodeAt (accT f sh kids kids.length) j) := ha.2 (fun i hi => by
      refine ih (h7 i hi) _ ?_
      have hle := accT_le f sh kids (i + 1)
      rw [accT_succ f sh hi, List.length_append] at hle
      omega)
    intro j hj
    by_cases e : j < (accT f sh kids kids.length).length
    · rw [nodeAt_left e]; exact hall j e
    · obtain rfl : j = (accT f sh kids kids.length).length := by omega
      rw [nodeAt_right (Nat.le_refl _), Nat.sub_self]
      have hkl := ksT_len f sh kids (Nat.le_refl _)
      refine ⟨by show keys.length ≤ _; omega, fun i hi => by have := h5 i hi; show (keyAt keys i).size ≤ _; omega, by show (ksT f sh kids kids.length).length ≤ _; omega, fun i hi => ?_, by show s.size ≤ _; omega, by show _ ≤ kind; omega, by show kind ≤ _; omega, by show _ ≤ n; omega, by show n ≤ _; omega⟩
      have hi' : i < kids.length := by have : i < (ksT f sh kids kids.length).length := hi; omega
      have := ksT_get f sh (l := kids) hi' (Nat.le_refl _)
      have hle := accT_le f sh kids (i + 1)
      show -9223372036854775808 ≤ intAt (ksT f sh kids kids.length) i ∧ intAt (ksT f sh kids kids.length) i ≤ 9223372036854775807
      rw [this]
      omega
end Go.Proofs.YtiamkmkbkehldaaGreatDoor

/-
  Plain: the nodes of a good tree fit, right or not.
-/
namespace Go.Proofs.YtiamkmkbkehldaaGreatDoor
open Go.RowKit
set_option linter.unusedSimpArgs false
set_option linter.unusedVariables false

theorem sum_ge {F : VT → Nat} : ∀ {l : List VT}, (∀ j, j < l.length → 1 ≤ F (kidT l j)) → l.length ≤ (l.map F).sum ∧ ∀ j, j < l.length → F (kidT l j) ≤ (l.map F).sum := by
  intro l
  induction l with
  | nil => intro _; exact ⟨by simp, fun j hj => absurd hj (by simp)⟩
  | cons x l ih =>
    intro h
    have h0 : 1 ≤ F x := h 0 (by simp)
    obtain ⟨h1, h2⟩ := ih (fun j hj => h (j + 1) (by simp; omega))
    rw [List.map_cons, List.sum_cons, List.length_cons]
    refine ⟨by omega, fun j hj => ?_⟩
    cases j with
    | zero => show F x ≤ _; omega
    | succ j =>
      have : F (kidT l j) ≤ (l.map F).sum := h2 j (by simp at hj; omega)
      show F (kidT l j) ≤ _
      omega
theorem good_fit : ∀ {f : Nat} {t : VT}, goodT f t → (layT f t 0).length ≤ 100000 → FitT f t := by
  intro f
  induction f with
  | zero => intro t h; exact h.elim
  | succ f ih =>
    intro t h hl
    obtain ⟨kind, n, s, keys, kids⟩ := t
    rw [lay_sum] at hl
    obtain ⟨s1, s2⟩ := sum_ge (F := fun t => (layT f t 0).length) (l := kids) (fun j hj => layT_len (h.2 j hj).full 0)
    have hk : kids.length ≤ 100000 := by omega
    have hem : ByteArray.empty.size = 0 := rfl
    have hkids : ∀ j, j < kids.length → FitT f (kidT kids j) := fun j hj => ih (h.2 j hj) (by have := s2 j hj; omega)
    rcases nodeT_says h.1 with ⟨a1, a2, a3, a4, _⟩ | ⟨a1, a2, a3, a4, _⟩ | ⟨a1, a2, a3, a4, _⟩ | ⟨a1, a2, a3, a4, _⟩ | ⟨a1, a2, a3, a4⟩ | ⟨a1, a2, a3, a4, a5⟩
    · exact ⟨by omega, by omega, by rw [a3]; omega, by rw [a4]; simp, fun i hi => by rw [a4] at hi; simp at hi, hk, hkids⟩
    · exact ⟨by omega, by omega, by rw [a3]; omega, by rw [a4]; simp, fun i hi => by rw [a4] at hi; simp at hi, hk, hkids⟩
    · exact ⟨by omega, by omega, by rw [a3]; omega, by rw [a4]; simp, fun i hi => by rw [a4] at hi; simp at hi, hk, hkids⟩
    · exact ⟨by omega, by omega, by omega, by rw [a4]; simp, fun i hi => by rw [a4] at hi; simp at hi, hk, hkids⟩
    · exact ⟨by omega, by omega, by rw [a3]; omega, by rw [a4]; simp, fun i hi => by rw [a4] at hi; simp at hi, hk, hkids⟩
    · refine ⟨by omega, by omega, by rw [a3]; omega, by omega, fun i hi => ?_, hk, hkids⟩
      have := (rise_at a5 hi).1
      unfold textB at this
      simp only [Bool.and_eq_true, decide_eq_true_eq] at this
      omega
theorem good_fits {f : Nat} {t : VT} (h : goodT f t) (hl : (layT f t 0).length ≤ 100000) : ∀ j, j < (layT f t 0).length → Fits (nodeAt (layT f t 0) j) := fits_lay (good_fit h hl) 0 (by omega)
end Go.Proofs.YtiamkmkbkehldaaGreatDoor

/-
  The program's YAML: all lines read.
-/
namespace Go.Proofs.YtiamkmkbkehldaaGreatDoor
open Go.RowKit
set_option linter.unusedSimpArgs false
set_option linter.unusedVariables false

set_option maxRecDepth 100000 in
set_option maxHeartbeats 6400000 in
theorem readYamlLines_yes {D : Nat} {ls : List YL} {v : Value} {t : VT} (hsm : SmallY 4000 ls) (h : rdLines ls = some t) (w : World) (hrow : w.ownsRow D 128 4 v ls.length (ylCells ls)) (htab : TabB w.heap.size w) :
    Calls Tryz.prog 44 #[v] w fun e w' => ∃ ty x, e = .returned (.iface ty x) ∧ TreeP (NewB w w') w' (ls.length + 1) t (.iface ty x) ∧ Below w.heap.size w w' := by
  have hpos : 0 < ls.length := by
    cases ls with
    | nil => cases h
    | cons x r => simp
  obtain ⟨rb, cap, rfl, _, hrl⟩ := hrow.form hpos
  have hcs : ∀ j u, (ylCells ls)[j]? = some u → w.cell? ⟨rb, j, none⟩ = some u := fun j u hj => by
    have := hrow.cellAt j (by
      rcases Nat.lt_or_ge j (ylCells ls).length with h' | h'
      · have := hrow.1; omega
      · rw [List.getElem?_eq_none h'] at hj; cases hj)
    rw [this, hj]
  have HCS := hideIt hcs
  have HROW := hideIt hrow
  have HSM := hideIt hsm
  have HTAB := hideIt htab
  obtain ⟨N, hNN⟩ : ∃ N, ls.length = N := ⟨_, rfl⟩
  have hN := hsm.1
  have HNN := hideIt hNN
  rw [hNN] at hpos hN ⊢
  obtain ⟨X, hX⟩ : ∃ X, ls[0]'(by rw [hNN]; exact hpos) = X := ⟨_, rfl⟩
  obtain ⟨k0, k1, k2, k3⟩ := cells_at (ls := ls) (q := 0) (by rw [hNN]; exact hpos)
  rw [hX] at k0 k1 k2 k3
  simp only [Nat.zero_mul, Nat.zero_add] at k0 k1 k2 k3
  have g0 := hcs _ _ k0
  have g1 := hcs _ _ k1
  have g3 := hcs _ _ k3
  obtain ⟨EB, hEB⟩ : ∃ EB, txt X.rest = EB := ⟨_, rfl⟩
  rw [hEB] at g3
  have HXZ : Hid (X.rest.length ≤ 4000) := (HSM.out.2 X (by rw [← hX]; exact List.getElem_mem _)).2.2
  have hb0 : rb < w.heap.size := hrl
  by_cases hsh : N = 1 ∧ X.ahead = 0 ∧ X.kind = 0
  · obtain ⟨rfl, hx1, hx2⟩ := hsh
    have hls : ls = [X] := by
      cases ls with
      | nil => simp at hNN
      | cons x r =>
        have : r = [] := List.eq_nil_of_length_eq_zero (by simpa using hNN)
        subst this
        have : x = X := hX
        rw [this]
    have hrd : shortY X.rest = some t := by
      rw [hls] at h
      have h2 : (if X.ahead = 0 ∧ X.kind = 0 then shortY X.rest else topY [X]) = some t := h
      rw [if_pos ⟨hx1, hx2⟩] at h2
      exact h2
    rw [hx1] at g0
    rw [hx2] at g1
    have HSH := hideIt (fun w' htab => readShort_yes (s := EB) (t := t) (by rw [← hEB, txt_size]; exact HXZ.out) (by rw [← hEB, bytes_txt]; exact hrd) w' htab)
    have HBA : Hid (Below w.heap.size w (w.alloc (.cells #[.slice (some ⟨rb, 0, none⟩) 1 cap] 66))) := (Below.refl _ _).alloc (Nat.le_refl _) _
    clear h hls hrd hx1 hx2 hEB hX k0 k1 k2 k3 hcs hrow hsm htab hNN hN
    go_enter Tryz.func44, Tryz.ntmps44
    go_wp2_with fail
    refine (HSH.out _ ((HTAB.out.next HBA.out).wide HBA.out.size)).mono ?_
    rintro e w1 ⟨ty, x, rfl, hsv, hb1⟩
    have HSV := hideIt hsv
    have HB1 := hideIt (HBA.out.trans (hb1.mono HBA.out.size))
    clear hsv hb1
    go_wp2_with fail
    go_ret
    exact ⟨_, _, rfl, HSV.out _ _ _, HB1.out⟩
  · have htop : topY ls = some t := by
      cases ls with
      | nil => exact h
      | cons x r =>
        cases r with
        | nil =>
          have h2 : (if x.ahead = 0 ∧ x.kind = 0 then shortY x.rest else topY [x]) = some t := h
          have hxX : x = X := hX
          rw [if_neg (fun e => hsh ⟨by rw [← hNN]; rfl, by rw [← hxX]; exact e.1, by rw [← hxX]; exact e.2⟩)] at h2
          exact h2
        | cons y r => exact h
    have hbm : blockM 0 (ls.drop 0) = some (t, []) := by
      unfold topY at htop
      rw [List.drop_zero]
      cases e : blockM 0 ls with
      | none => simp [e] at htop
      | some y =>
        obtain ⟨t2, z⟩ := y
        simp only [e] at htop
        split at htop
        · rename_i hz
          subst hz
          obtain rfl := Option.some.inj htop
          rfl
        · cases htop
    obtain ⟨W3, hW3⟩ : ∃ W3, ((w.alloc (.cells #[.slice (some ⟨rb, 0, none⟩) N cap] 66)).alloc (.cells #[.int .i64 0] 3)).alloc (.cells #[.func (.func 86) #[] #[.pointer (some ⟨w.heap.size + 1, 0, none⟩), .pointer (some ⟨w.heap.size, 0, none⟩), .pointer (some ⟨w.heap.size + 1 + 1, 0, none⟩)]] 130) = W3 := ⟨_, rfl⟩
    have hz3 : W3.heap.size = w.heap.size + 3 := by rw [← hW3]; simp
    have HB3 : Hid (Below w.heap.size w W3) := by rw [Hid, ← hW3]; exact (((Below.refl _ _).alloc (Nat.le_refl _) _).alloc (by simp) _).alloc (by simp; omega) _
    have HYB : Hid (YBox W3 (w.heap.size + 1) w.heap.size (w.heap.size + 1 + 1) rb (some ⟨rb, 0, none⟩) cap ls 0) := by
      rw [Hid, ← hW3]
      refine ⟨?_, ?_, ?_, fun _ => ⟨rfl, by omega, by simp; omega, fun j u hj => ?_⟩, by omega, by omega⟩
      · rw [Below.heap_alloc _ _ _ (by simp)]
        have e : (w.alloc (.cells #[.slice (some ⟨rb, 0, none⟩) N cap] 66)).heap.size = w.heap.size + 1 := by simp
        have := heap_alloc_new (w.alloc (.cells #[.slice (some ⟨rb, 0, none⟩) N cap] 66)) (.cells #[.int .i64 0] 3)
        rw [e] at this
        exact this
      · rw [Below.heap_alloc _ _ _ (by simp; omega), Below.heap_alloc _ _ _ (by simp), hNN]
        exact heap_alloc_new w _
      · have e : ((w.alloc (.cells #[.slice (some ⟨rb, 0, none⟩) N cap] 66)).alloc (.cells #[.int .i64 0] 3)).heap.size = w.heap.size + 1 + 1 := by simp
        have := heap_alloc_new ((w.alloc (.cells #[.slice (some ⟨rb, 0, none⟩) N cap] 66)).alloc (.cells #[.int .i64 0] 3)) (.cells #[.func (.func 86) #[] #[.pointer (some ⟨w.heap.size + 1, 0, none⟩), .pointer (some ⟨w.heap.size, 0, none⟩), .pointer (some ⟨w.heap.size + 1 + 1, 0, none⟩)]] 130)
        rw [e] at this
        exact this
      · rw [hW3, cellOf (HB3.out.block rb hb0)]
        exact hcs j u hj
    have HCR := hideIt (ry_any (B := w.heap.size) HSM.out (show w.heap.size ≤ w.heap.size + 1 by omega) N 0 0 t [] W3 HYB.out (Nat.zero_le _) (by rw [hNN]; omega) (by omega) (HTAB.out.next HB3.out) hbm)
    simp only [List.length_nil, Nat.sub_zero, hNN] at HCR
    have hcf : ∀ a b c d (w : World), (callFunc 86 #[a, b, c, d]).run Tryz.prog w = .ok (.enter 86 #[a, b, c, d]) w := fun a b c d w => call_ry a b c d w
    have HTEST : Hid (N = 1 → X.ahead = 0 → ¬ X.kind = 0) := fun a b c => hsh ⟨a, b, c⟩
    have HNN2 := hideIt hNN
    clear h htop hbm hEB hX k0 k1 k2 k3 hcs hrow hsm htab hsh hNN
    go_enter Tryz.func44, Tryz.ntmps44
    by_cases n1 : N = 1
    · subst n1
      by_cases n2 : X.ahead = 0
      · have n3 := HTEST.out rfl n2
        have n3' : (X.kind == 0) = false := by simpa using n3
        rw [n2] at g0
        have cf : W3.cell? ⟨w.heap.size + 1 + 1, 0, none⟩ = some (.func (.func 86) #[] #[.pointer (some ⟨w.heap.size + 1, 0, none⟩), .pointer (some ⟨w.heap.size, 0, none⟩), .pointer (some ⟨w.heap.size + 1 + 1, 0, none⟩)]) := cellAt HYB.out.fu rfl
        go_wp2_with fail
        refine HCR.out.mono ?_
        rintro e w4 ⟨ty, x, rfl, htr, hyb, hb4⟩
        have d1 : w4.cell? ⟨w.heap.size + 1, 0, none⟩ = some (.int .i64 (1 : Int)) := cellAt hyb.pl rfl
        have d2 : w4.cell? ⟨w.heap.size, 0, none⟩ = some (.slice (some ⟨rb, 0, none⟩) 1 cap) := by
          have hli := hyb.li
          rw [HNN.out] at hli
          exact cellAt hli rfl
        have HT4 : Hid (TreeP (NewB w w4) w4 (1 + 1) t (.iface ty x)) := htr.keep (fun _ _ => rfl) (fun b hb => ⟨by have := hb.1; omega, hb.2⟩)
        have HB4 : Hid (Below w.heap.size w w4) := HB3.out.trans ((hb4.below (by omega)).mono (by omega))
        clear htr hyb hb4
        go_wp2_with fail
        go_ret
        exact ⟨_, _, rfl, HT4.out, HB4.out⟩
      · have n2' : ¬ ((X.ahead : Nat) : Int) = 0 := by omega
        have n2'' : (((X.ahead : Nat) : Int) == 0) = false := by simpa using n2'
        have cf : W3.cell? ⟨w.heap.size + 1 + 1, 0, none⟩ = some (.func (.func 86) #[] #[.pointer (some ⟨w.heap.size + 1, 0, none⟩), .pointer (some ⟨w.heap.size, 0, none⟩), .pointer (some ⟨w.heap.size + 1 + 1, 0, none⟩)]) := cellAt HYB.out.fu rfl
        go_wp2_with fail
        refine HCR.out.mono ?_
        rintro e w4 ⟨ty, x, rfl, htr, hyb, hb4⟩
        have d1 : w4.cell? ⟨w.heap.size + 1, 0, none⟩ = some (.int .i64 (1 : Int)) := cellAt hyb.pl rfl
        have d2 : w4.cell? ⟨w.heap.size, 0, none⟩ = some (.slice (some ⟨rb, 0, none⟩) 1 cap) := by
          have hli := hyb.li
          rw [HNN.out] at hli
          exact cellAt hli rfl
        have HT4 : Hid (TreeP (NewB w w4) w4 (1 + 1) t (.iface ty x)) := htr.keep (fun _ _ => rfl) (fun b hb => ⟨by have := hb.1; omega, hb.2⟩)
        have HB4 : Hid (Below w.heap.size w w4) := HB3.out.trans ((hb4.below (by omega)).mono (by omega))
        clear htr hyb hb4
        go_wp2_with fail
        go_ret
        exact ⟨_, _, rfl, HT4.out, HB4.out⟩
    · have n1' : ¬ ((N : Nat) : Int) = 1 := by omega
      have n1'' : (((N : Nat) : Int) == 1) = false := by simpa using n1'
      have cf : W3.cell? ⟨w.heap.size + 1 + 1, 0, none⟩ = some (.func (.func 86) #[] #[.pointer (some ⟨w.heap.size + 1, 0, none⟩), .pointer (some ⟨w.heap.size, 0, none⟩), .pointer (some ⟨w.heap.size + 1 + 1, 0, none⟩)]) := cellAt HYB.out.fu rfl
      go_wp2_with fail
      refine HCR.out.mono ?_
      rintro e w4 ⟨ty, x, rfl, htr, hyb, hb4⟩
      have d1 : w4.cell? ⟨w.heap.size + 1, 0, none⟩ = some (.int .i64 (N : Int)) := cellAt hyb.pl rfl
      have d2 : w4.cell? ⟨w.heap.size, 0, none⟩ = some (.slice (some ⟨rb, 0, none⟩) N cap) := by
        have hli := hyb.li
        rw [HNN.out] at hli
        exact cellAt hli rfl
      have HT4 : Hid (TreeP (NewB w w4) w4 (N + 1) t (.iface ty x)) := htr.keep (fun _ _ => rfl) (fun b hb => ⟨by have := hb.1; omega, hb.2⟩)
      have HB4 : Hid (Below w.heap.size w w4) := HB3.out.trans ((hb4.below (by omega)).mono (by omega))
      clear htr hyb hb4
      go_wp2_with fail
      go_ret
      exact ⟨_, _, rfl, HT4.out, HB4.out⟩
end Go.Proofs.YtiamkmkbkehldaaGreatDoor

/-
  The program's ReadYaml, where the text says a value.
-/
namespace Go.Proofs.YtiamkmkbkehldaaGreatDoor
open Go.RowKit
set_option linter.unusedSimpArgs false
set_option linter.unusedVariables false

set_option maxRecDepth 100000 in
set_option maxHeartbeats 1600000 in
theorem unless1_yes (G : FuncId) (a : Value) (w : World) (Z : Value → World → Prop) (hcf : ∀ w, (callFunc G #[a]).run Tryz.prog w = .ok (.enter G #[a]) w)
    (hc : Calls Tryz.prog G #[a] (w.alloc (.cells #[.bool false] 4)) fun e w' => ∃ v, e = .returned v ∧ Z v w')
    (hZ : ∀ v w', Z v w' → w'.cell? ⟨w.heap.size, 0, none⟩ = some (.bool false) ∧ w'.frozen? ⟨w.heap.size, 0, none⟩ = false) :
    Calls Tryz.prog 42 #[.func (.func G) #[] #[a]] w fun e w' => ∃ v, e = .returned (.tuple #[v, .bool true]) ∧ ∃ w1, Z v w1 ∧ w' = w1.setCell ⟨w.heap.size, 0, none⟩ (.bool true) := by
  have hmf : ∀ (fn : Fn) (first cap : Array Value) (w : World), (Instr.makeFunc fn first cap).run Tryz.prog w = .ok (.func fn first cap) w := fun _ _ _ _ => rfl
  go_enter_defers Tryz.func42, Tryz.ntmps42
  go_wp2_with fail
  refine hc.mono ?_
  rintro e w1 ⟨v, rfl, hz⟩
  obtain ⟨c1, f1⟩ := hZ v w1 hz
  go_wp2_with fail
  refine leaves_cons (f := 84) (args := #[.pointer (some ⟨w.heap.size, 0, none⟩)]) (by simp) (by simp [go_sem]) ?_
  refine (catchV_idle ⟨w.heap.size, 0, none⟩ _).mono ?_
  rintro e u' w'' ⟨rfl, rfl, rfl⟩
  have c2 : (w1.setCell ⟨w.heap.size, 0, none⟩ (.bool true)).cell? ⟨w.heap.size, 0, none⟩ = some (.bool true) := World.cell?_setCell_same _ _ _ c1
  simp [Leaves, settle, results, Tryz.results42, go_sem, c2]
  exact ⟨w1, hz, rfl⟩
theorem TreeP.full {P : Nat → Prop} {w : World} : ∀ {f : Nat} {t : VT} {v : Value}, TreeP P w f t v → FullT f t := by
  intro f
  induction f with
  | zero => intro t v h; exact h.elim
  | succ f ih =>
    intro t v h
    obtain ⟨kind, n, s, keys, kids⟩ := t
    have hit : ∀ it, TItemsP P w it kids.length (fun j u => TreeP P w f (kidT kids j) u) → FullT (f + 1) (.mk kind n s keys kids) := by
      rintro it ⟨h0, a, cap, e, hx⟩ j hj
      obtain ⟨b, ea, h2, h3⟩ := hx (by omega)
      obtain ⟨t, x, _, hv⟩ := h3 j hj
      exact ih hv
    rcases h with ⟨_, _, _, _, rfl, _⟩ | ⟨_, _, _, rfl, _⟩ | ⟨_, _, _, rfl, _⟩ | ⟨_, _, _, rfl, _⟩ | ⟨h1, h2, h3, h4, it, e, hi⟩ | ⟨h1, h2, h3, ks, it, e, hs, hi⟩
    · exact fun j hj => absurd hj (by simp)
    · exact fun j hj => absurd hj (by simp)
    · exact fun j hj => absurd hj (by simp)
    · exact fun j hj => absurd hj (by simp)
    · exact hit it hi
    · exact hit it hi
theorem lay_same {f g : Nat} {t : VT} (hf : FullT f t) (hg : FullT g t) : layT g t 0 = layT f t 0 := by
  rcases Nat.le_total f g with h | h
  · exact layT_more hf h 0
  · exact (layT_more hg h 0).symm
theorem call_cyaml (a : Value) (w : World) : (callFunc 43 #[a]).run Tryz.prog w = .ok (.enter 43 #[a]) w := by kernel_rfl

set_option maxRecDepth 100000 in
set_option maxHeartbeats 1600000 in
theorem closure_yaml {s : ByteArray} {t : VT} {ls : List YL} {sb : Nat} (hs : s.size ≤ 4000) (hl : linesY s.data.toList = some ls) (h : rdLines ls = some t) (w : World) (hc : w.cell? ⟨sb, 0, none⟩ = some (.string s)) (htab : TabB w.heap.size w) :
    Calls Tryz.prog 43 #[.pointer (some ⟨sb, 0, none⟩)] w fun e w' => ∃ v, e = .returned v ∧ (∃ ty x, v = .iface ty x ∧ TreeP (NewB w w') w' (ls.length + 1) t (.iface ty x)) ∧ Below w.heap.size w w' := by
  have HTAB := hideIt htab
  have HYL := hideIt (yamlLines_yes hs hl w)
  have HSM : Hid (SmallY 4000 ls) := by
    have h1 := linesY_small hl
    rw [len_is] at h1
    exact ⟨Nat.le_trans h1.1 hs, fun x hx => ⟨Nat.le_trans (h1.2 x hx).1 hs, Nat.le_trans (h1.2 x hx).2.1 hs, Nat.le_trans (h1.2 x hx).2.2 hs⟩⟩
  have HR := hideIt h
  clear htab hl h
  go_enter Tryz.func43, Tryz.ntmps43
  go_wp2_with fail
  refine HYL.out.mono ?_
  rintro e w1 ⟨v, rfl, hrow, hb1⟩
  have HB1 := hideIt hb1
  have z1 := hb1.size
  have HRY := hideIt (readYamlLines_yes HSM.out HR.out w1 hrow ((HTAB.out.next hb1).wide z1))
  obtain ⟨av, cv, ev⟩ := own_slice hrow
  obtain ⟨N, hN⟩ : ∃ N, ls.length = N := ⟨_, rfl⟩
  have HN := hideIt hN
  rw [hN] at ev HRY
  subst ev
  clear hrow hb1 hN
  go_wp2_with fail
  refine HRY.out.mono ?_
  rintro e w2 ⟨ty, x, rfl, ht, hb2⟩
  have HT2 : Hid (TreeP (NewB w w2) w2 (N + 1) t (.iface ty x)) := ht.keep (fun _ _ => rfl) (fun b hb => ⟨by have := hb.1; omega, hb.2⟩)
  have HB2 := hideIt (HB1.out.trans (hb2.mono z1))
  clear ht hb2
  go_wp2_with fail
  go_ret
  exact ⟨_, rfl, ⟨_, _, rfl, by rw [HN.out]; exact HT2.out⟩, HB2.out⟩

set_option maxRecDepth 100000 in
set_option maxHeartbeats 3200000 in
theorem implReadYaml_yes {s : ByteArray} {t : VT} {ns : List VN} {f : Nat} (hs : s.size ≤ 4000) (h : rdYaml s.data.toList = some t) (hg : goodT f t) (hns : layT f t 0 = ns) (hok : okB ns = true) (w : World) (htab : TabB w.heap.size w) :
    Calls Tryz.prog 12 #[.string s] w fun e w' => ∃ r base KV IV, e = .returned (.tuple #[r, .bool true]) ∧ w.heap.size ≤ base ∧ base ≤ w'.heap.size ∧ Nest base w' r ns KV IV ∧ Below w.heap.size w w' := by
  obtain ⟨ls, hl, hr⟩ : ∃ ls, linesY s.data.toList = some ls ∧ rdLines ls = some t := by
    unfold rdYaml at h
    cases e : linesY s.data.toList with
    | none => simp [e] at h
    | some ls => simp only [e] at h; exact ⟨ls, rfl, h⟩
  obtain ⟨p1, _⟩ := okB_parts hok
  have HNS := hideIt hns
  have HOK := hideIt hok
  have HG := hideIt hg
  have HTAB := hideIt htab
  have HL := hideIt hl
  have HR := hideIt hr
  have h4 : ¬ (4000 : Int) < (s.size : Int) := by omega
  have hmf : ∀ (fn : Fn) (first cap : Array Value) (w : World), (Instr.makeFunc fn first cap).run Tryz.prog w = .ok (.func fn first cap) w := fun _ _ _ _ => rfl
  clear h hg hns hok htab hl hr
  obtain ⟨w1, hw1⟩ : ∃ w1, w.alloc (.cells #[.string s] 9) = w1 := ⟨_, rfl⟩
  have hz1 : w1.heap.size = w.heap.size + 1 := by rw [← hw1]; simp
  have HB1 : Hid (Below w.heap.size w w1) := by rw [Hid, ← hw1]; exact (Below.refl _ _).alloc (Nat.le_refl _) _
  have HC1 : Hid (w1.heap[w.heap.size]? = some (.cells #[.string s] 9 (0, 0))) := by rw [Hid, ← hw1]; exact heap_alloc_new w _
  have hz2 : (w1.alloc (.cells #[.bool false] 4)).heap.size = w1.heap.size + 1 := by simp
  have HB2 : Hid (Below w1.heap.size w1 (w1.alloc (.cells #[.bool false] 4))) := (Below.refl _ _).alloc (Nat.le_refl _) _
  have HBW : Hid (Below w.heap.size w (w1.alloc (.cells #[.bool false] 4))) := HB1.out.trans (HB2.out.mono (by omega))
  have HCC := hideIt (closure_yaml (sb := w.heap.size) hs HL.out HR.out (w1.alloc (.cells #[.bool false] 4)) ((cellOf (HB2.out.block w.heap.size (by omega))).trans (cellAt HC1.out rfl)) ((HTAB.out.next HBW.out).wide (by omega)))
  have HKEEP : Hid (∀ w', Below (w1.alloc (.cells #[.bool false] 4)).heap.size (w1.alloc (.cells #[.bool false] 4)) w' → w'.cell? ⟨w1.heap.size, 0, none⟩ = some (.bool false) ∧ w'.frozen? ⟨w1.heap.size, 0, none⟩ = false) := fun w' hb => by
    have hh := (hb.block w1.heap.size (by rw [hz2]; omega)).trans (heap_alloc_new w1 (.cells #[.bool false] 4))
    exact ⟨by rw [Lib.cell_of_heap hh]; rfl, Lib.frozen_of_heap hh 0⟩
  have HU := hideIt (unless1_yes 43 _ w1 (fun v w' => (∃ ty x, v = .iface ty x ∧ TreeP (NewB (w1.alloc (.cells #[.bool false] 4)) w') w' (ls.length + 1) t (.iface ty x)) ∧ Below (w1.alloc (.cells #[.bool false] 4)).heap.size (w1.alloc (.cells #[.bool false] 4)) w') (call_cyaml _) HCC.out (fun v w' hz => HKEEP.out w' hz.2))
  have HZ1 := hideIt hz1
  have hz1' : w.heap.size < w1.heap.size := by omega
  have c1 : w1.cell? ⟨w.heap.size, 0, none⟩ = some (.string s) := cellAt HC1.out rfl
  clear HCC hz1
  go_enter Tryz.func12, Tryz.ntmps12
  go_wp2_with fail
  refine HU.out.mono ?_
  rintro e w3 ⟨v, rfl, w9, ⟨⟨ty, x, rfl, htr⟩, hb9⟩, rfl⟩
  have HB3 : Hid (Below w.heap.size w (w9.setCell ⟨w1.heap.size, 0, none⟩ (.bool true))) := below_set (HBW.out.trans (hb9.mono (by omega))) (by omega) 0 _
  have HT3 : Hid (TreeAt (w9.setCell ⟨w1.heap.size, 0, none⟩ (.bool true)).heap.size (w9.setCell ⟨w1.heap.size, 0, none⟩ (.bool true)) (ls.length + 1) t (.iface ty x)) :=
    (htr.keep (P' := fun b => b < (w9.setCell ⟨w1.heap.size, 0, none⟩ (.bool true)).heap.size) (fun b hb' => Below.heap_setCell _ _ _ _ (by show b ≠ w1.heap.size; have := hb'.1; omega)) (fun b hb' => by simpa using hb'.2)).at (fun b hb => hb)
  have HNS3 : Hid (layT (ls.length + 1) t 0 = ns) := by rw [Hid, lay_same HG.out.full htr.full]; exact HNS.out
  have HFT : Hid (∀ i, i < ns.length → Fits (nodeAt ns i)) := by rw [Hid, ← HNS.out]; exact good_fits HG.out (by rw [HNS.out]; omega)
  clear htr hb9
  generalize w9.setCell ⟨w1.heap.size, 0, none⟩ (.bool true) = w3 at HB3 HT3 ⊢
  have z3 := HB3.out.size
  have HRN := hideIt (rightNodes_any (ls.length + 1) t _ ns w3 HT3.out HNS3.out (by omega) HFT.out)
  rw [HOK.out] at HRN
  go_wp2_with fail
  refine HRN.out.mono ?_
  rintro e w4 ⟨r, base, KV, IV, rfl, hb1, hb2, hn2, hbl2⟩
  have HRR : Hid (rightNs ns = ns) := by rw [Hid]; unfold rightNs; rw [HOK.out]; rfl
  rw [HRR.out] at hn2
  have HB4 := hideIt (HB3.out.trans (hbl2.mono z3))
  have HN2 := hideIt hn2
  have HBB : Hid (w.heap.size ≤ base ∧ base ≤ w4.heap.size) := ⟨Nat.le_trans z3 hb1, hb2⟩
  obtain ⟨ar, cr, er⟩ := own_slice hn2.row
  obtain ⟨M, hM⟩ : ∃ M, ns.length = M := ⟨_, rfl⟩
  rw [hM] at er
  subst er
  clear hn2 hbl2 hM hb1 hb2
  go_wp2_with fail
  refine bodyPost_ret (v := .tuple #[.slice ar M cr, .bool true]) (by simp [results, Tryz.results12, go_sem]) rfl ?_
  exact ⟨.slice ar M cr, base, KV, IV, rfl, HBB.out.1, HBB.out.2, HN2.out, HB4.out⟩
end Go.Proofs.YtiamkmkbkehldaaGreatDoor
