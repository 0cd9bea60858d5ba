/-
  Plain: trees changed at the end of a path: a part taken or laid there, the rest as it was.
-/
import Derived.Test.YtpakfgonemiebaaNdS
import Derived.Test.YtpakfgonemiebaaListP
import Derived.Test.YtpakfgonemiebaaSS
namespace Go.Proofs.Ytpakfgonemiebaa
open Go.RowKit
set_option linter.unusedSimpArgs false
set_option linter.unusedVariables false

def kidsT : VT → List VT
  | .mk _ _ _ _ kids => kids
def stepT : VT → PS → Option Nat
  | .mk kind _ _ keys kids, x => stepTo kind keys kids.length x
def putKid (k : Nat) (u : VT) : VT → VT
  | .mk kind n s keys kids => .mk kind n s keys (kids.set k u)
def takeKid (k : Nat) : VT → VT
  | .mk kind n s keys kids => .mk kind n s (keys.eraseIdx k) (kids.eraseIdx k)
def takeG (t : VT) (x : PS) : Option VT := match stepT t x with
  | none => none
  | some k => some (takeKid k t)
/-- The part to which steps lead. -/
def folT : List PS → VT → Option VT
  | [], t => some t
  | x :: ps, t => match stepT t x with
    | none => none
    | some k => folT ps (kidT (kidsT t) k)
/-- The tree with another part there. -/
def plugT : List PS → VT → VT → VT
  | [], _, u => u
  | x :: ps, t, u => match stepT t x with
    | none => t
    | some k => putKid k (plugT ps (kidT (kidsT t) k) u) t
def updT (g : VT → PS → Option VT) : List PS → VT → Option VT
  | [], _ => none
  | [x], t => g t x
  | x :: y :: ps, t => match stepT t x with
    | none => none
    | some k => match updT g (y :: ps) (kidT (kidsT t) k) with
      | none => none
      | some u => some (putKid k u t)
theorem updT_snoc (g : VT → PS → Option VT) : ∀ (ps : List PS) (t : VT) (x : PS), updT g (ps ++ [x]) t = match folT ps t with | none => none | some s => match g s x with | none => none | some u => some (plugT ps t u) := by
  intro ps
  induction ps with
  | nil =>
    intro t x
    show g t x = _
    rw [folT]
    dsimp only
    cases g t x <;> rfl
  | cons y ps ih =>
    intro t x
    rw [folT]
    cases ps with
    | nil =>
      show (match stepT t y with | none => none | some k => match updT g [x] (kidT (kidsT t) k) with | none => none | some u => some (putKid k u t)) = _
      cases e : stepT t y with
      | none => rfl
      | some k =>
        dsimp only [updT, folT]
        cases e2 : g (kidT (kidsT t) k) x with
        | none => rfl
        | some u => simp only [plugT, e]
    | cons z ps =>
      show (match stepT t y with | none => none | some k => match updT g (z :: ps ++ [x]) (kidT (kidsT t) k) with | none => none | some u => some (putKid k u t)) = _
      cases e : stepT t y with
      | none => rfl
      | some k =>
        dsimp only
        rw [ih (kidT (kidsT t) k) x]
        cases e1 : folT (z :: ps) (kidT (kidsT t) k) with
        | none => rfl
        | some s =>
          dsimp only
          cases e2 : g s x with
          | none => rfl
          | some u =>
            dsimp only
            conv => rhs; rw [plugT, e]
/-! ### How many nodes, how deep -/
theorem cat_sumT (f : Nat) (kids : List VT) : ∀ k, k ≤ kids.length → (catNs (fun i => layT f (kidT kids i) 0) k).length = ((kids.take k).map fun t => (layT f t 0).length).sum := by
  intro k
  induction k with
  | zero => intro _; rfl
  | succ k ih =>
    intro hk
    rw [catNs_len, ih (by omega), take_kid (by omega), List.map_append, List.sum_append]
    simp
theorem lay_sum (f : Nat) (kind n : Int) (s : ByteArray) (keys : List ByteArray) (kids : List VT) : (layT (f + 1) (.mk kind n s keys kids) 0).length = (kids.map fun t => (layT f t 0).length).sum + 1 := by
  rw [layT_eq, (acc_cat f kids _ (Nat.le_refl _)).1, List.length_append, cat_sumT f kids _ (Nat.le_refl _), List.take_length]
  rfl
theorem sum_erase {F : VT → Nat} : ∀ {l : List VT} {k : Nat}, ((l.eraseIdx k).map F).sum ≤ (l.map F).sum := by
  intro l
  induction l with
  | nil => intro k; simp
  | cons x l ih =>
    intro k
    cases k with
    | zero => simp
    | succ k => have := @ih k; simp; omega
theorem sum_set {F : VT → Nat} : ∀ {l : List VT} {k : Nat} {u : VT}, F u ≤ F (kidT l k) → ((l.set k u).map F).sum ≤ (l.map F).sum := by
  intro l
  induction l with
  | nil => intro k u _; simp
  | cons x l ih =>
    intro k u h
    cases k with
    | zero => have h' : F u ≤ F x := h; rw [List.set_cons_zero, List.map_cons, List.map_cons, List.sum_cons, List.sum_cons]; omega
    | succ k => have := @ih k u h; rw [List.set_cons_succ, List.map_cons, List.map_cons, List.sum_cons, List.sum_cons]; omega
theorem kid_erase {l : List VT} {k j : Nat} : kidT (l.eraseIdx k) j = kidT l (if j < k then j else j + 1) := by
  unfold kidT
  rw [List.getD_eq_getElem?_getD, List.getD_eq_getElem?_getD, List.getElem?_eraseIdx]
  split <;> rfl
theorem key_erase {l : List ByteArray} {k j : Nat} : keyAt (l.eraseIdx k) j = keyAt l (if j < k then j else j + 1) := by
  unfold keyAt
  rw [List.getD_eq_getElem?_getD, List.getD_eq_getElem?_getD, List.getElem?_eraseIdx]
  split <;> rfl
theorem kid_set {l : List VT} {k j : Nat} {u : VT} (hk : k < l.length) : kidT (l.set k u) j = if j = k then u else kidT l j := by
  unfold kidT
  rw [List.getD_eq_getElem?_getD, List.getD_eq_getElem?_getD, List.getElem?_set]
  by_cases e : j = k
  · subst e; simp [hk]
  · rw [if_neg e, if_neg (fun h => e h.symm)]
/-- No more nodes, no deeper, and right if the other one is. -/
def NoMore (f : Nat) (u t : VT) : Prop := (layT f u 0).length ≤ (layT f t 0).length ∧ hiT f u ≤ hiT f t ∧ goodT f u
theorem erase_rise {keys : List ByteArray} (hr : riseB keys = true) (k : Nat) : riseB (keys.eraseIdx k) = true := by
  unfold riseB
  rw [List.all_eq_true]
  intro j hj
  have hj' := List.mem_range.1 hj
  have hl : (keys.eraseIdx k).length ≤ keys.length := by rw [List.length_eraseIdx]; split <;> omega
  have hin : (if j < k then j else j + 1) < keys.length := by
    rw [List.length_eraseIdx] at hj'
    split at hj' <;> (split <;> omega)
  unfold riseAt
  rw [key_erase, key_erase, (rise_at hr hin).1]
  simp only [Bool.true_and, Bool.or_eq_true, decide_eq_true_eq]
  by_cases e : j = 0
  · exact .inl e
  · right
    obtain ⟨a, b, hab, ea, eb⟩ : ∃ a b, a < b ∧ (if j - 1 < k then j - 1 else j - 1 + 1) = a ∧ (if j < k then j else j + 1) = b := ⟨_, _, by split <;> (split <;> omega), rfl, rfl⟩
    rw [ea, eb]
    rw [eb] at hin
    have := keys_less hr (b - a - 1) a (by omega)
    rwa [show a + (b - a - 1) + 1 = b by omega] at this
theorem node5 (m : Nat) : nodeT 5 0 ByteArray.empty [] m = true := by
  unfold nodeT nodeB unnamedB namedB
  simp
theorem node6T {keys : List ByteArray} {m : Nat} (hl : keys.length = m) (hr : riseB keys = true) : nodeT 6 0 ByteArray.empty keys m = true := by
  unfold nodeT nodeB unnamedB namedB
  simp [hl, hr]
theorem take_nomore {f : Nat} {t : VT} {k : Nat} (h : goodT (f + 1) t) (hk : k < (kidsT t).length) : NoMore (f + 1) (takeKid k t) t := by
  obtain ⟨kind, n, s, keys, kids⟩ := t
  have hk' : k < kids.length := hk
  obtain ⟨h1, h2⟩ := h
  have hel : (kids.eraseIdx k).length = kids.length - 1 := by rw [List.length_eraseIdx, if_pos hk']
  have hin : ∀ j, j < kids.length - 1 → (if j < k then j else j + 1) < kids.length := fun j hj => by split <;> omega
  refine ⟨?_, ?_, ?_, ?_⟩
  · show (layT (f + 1) (.mk kind n s (keys.eraseIdx k) (kids.eraseIdx k)) 0).length ≤ _
    rw [lay_sum, lay_sum]
    have := sum_erase (F := fun t => (layT f t 0).length) (l := kids) (k := k)
    omega
  · show hiT (f + 1) (.mk kind n s (keys.eraseIdx k) (kids.eraseIdx k)) ≤ _
    rw [hiT, hiT]
    have : hiK (hiT f) (kids.eraseIdx k) (kids.eraseIdx k).length ≤ hiK (hiT f) kids kids.length := hiK_bound (fun j hj => by rw [kid_erase]; exact hiK_le (hin j (by omega)))
    omega
  · show nodeT kind n s (keys.eraseIdx k) (kids.eraseIdx k).length = true
    rw [hel]
    rcases nodeT_says h1 with ⟨_, _, _, _, hm⟩ | ⟨_, _, _, _, hm⟩ | ⟨_, _, _, _, hm⟩ | ⟨_, _, _, _, hm⟩ | ⟨rfl, rfl, rfl, rfl⟩ | ⟨rfl, rfl, rfl, hm, hr⟩
    · omega
    · omega
    · omega
    · omega
    · exact node5 _
    · exact node6T (by rw [List.length_eraseIdx, if_pos (by omega), hm]) (erase_rise hr k)
  · intro j hj
    have hj' : j < (kids.eraseIdx k).length := hj
    show goodT f (kidT (kids.eraseIdx k) j)
    rw [kid_erase]
    exact h2 _ (hin j (by omega))
theorem put_nomore {f : Nat} {t u : VT} {k : Nat} (h : goodT (f + 1) t) (hk : k < (kidsT t).length) (hu : NoMore f u (kidT (kidsT t) k)) : NoMore (f + 1) (putKid k u t) t := by
  obtain ⟨kind, n, s, keys, kids⟩ := t
  have hk' : k < kids.length := hk
  obtain ⟨h1, h2⟩ := h
  obtain ⟨u1, u2, u3⟩ := hu
  refine ⟨?_, ?_, ?_, ?_⟩
  · show (layT (f + 1) (.mk kind n s keys (kids.set k u)) 0).length ≤ _
    rw [lay_sum, lay_sum]
    have := sum_set (F := fun t => (layT f t 0).length) (l := kids) (k := k) (u := u) u1
    omega
  · show hiT (f + 1) (.mk kind n s keys (kids.set k u)) ≤ _
    rw [hiT, hiT]
    have : hiK (hiT f) (kids.set k u) (kids.set k u).length ≤ hiK (hiT f) kids kids.length := hiK_bound (fun j hj => by
      rw [List.length_set] at hj
      rw [kid_set hk']
      split
      · rename_i e; subst e; exact Nat.le_trans u2 (hiK_le hk')
      · exact hiK_le hj)
    omega
  · show nodeT kind n s keys (kids.set k u).length = true
    rw [List.length_set]; exact h1
  · intro j hj
    have hj' : j < (kids.set k u).length := hj
    rw [List.length_set] at hj'
    show goodT f (kidT (kids.set k u) j)
    rw [kid_set hk']
    split
    · exact u3
    · exact h2 j hj'
theorem stepTo_lt {kind : Int} {keys : List ByteArray} {n : Nat} {x : PS} {k : Nat} (h0 : x.named = true ∨ 0 ≤ x.pl) (h6 : kind = 6 → keys.length = n) (h : stepTo kind keys n x = some k) : k < n := by
  unfold stepTo at h
  split at h
  · split at h
    · rename_i hh
      simp only [Option.some.injEq] at h
      have := hh.2
      unfold hasK at this
      simp only [Bool.and_eq_true, decide_eq_true_eq] at this
      have := h6 hh.1
      omega
    · cases h
  · split at h
    · simp only [Option.some.injEq] at h
      rename_i hn hh
      rcases h0 with h0 | h0
      · exact absurd h0 hn
      · omega
    · cases h
theorem stepT_lt {f : Nat} {t : VT} {x : PS} {k : Nat} (hg : goodT f t) (h0 : x.named = true ∨ 0 ≤ x.pl) (h : stepT t x = some k) : k < (kidsT t).length := by
  cases f with
  | zero => exact hg.elim
  | succ f =>
    obtain ⟨kind, n, s, keys, kids⟩ := t
    refine stepTo_lt h0 (fun e => ?_) h
    rcases nodeT_says hg.1 with ⟨e2, _⟩ | ⟨e2, _⟩ | ⟨e2, _⟩ | ⟨e2, _⟩ | ⟨e2, _⟩ | ⟨_, _, _, hm, _⟩
    · omega
    · omega
    · omega
    · omega
    · omega
    · exact hm
theorem good_kid {f : Nat} {t : VT} {k : Nat} (hg : goodT (f + 1) t) (hk : k < (kidsT t).length) : goodT f (kidT (kidsT t) k) := by
  obtain ⟨kind, n, s, keys, kids⟩ := t
  exact hg.2 k hk
/-- What is taken makes no more of it. -/
theorem taken_nomore : ∀ (ps : List PS) (f : Nat) (t u : VT), goodT f t → (∀ x ∈ ps, x.named = true ∨ 0 ≤ x.pl) → updT takeG ps t = some u → NoMore f u t
  | [], _, _, _, _, _, h => by cases h
  | [x], f, t, u, hg, h0, h => by
    have h' : takeG t x = some u := h
    unfold takeG at h'
    cases e : stepT t x with
    | none => rw [e] at h'; cases h'
    | some k =>
      rw [e] at h'
      simp only [Option.some.injEq] at h'
      subst h'
      have hk := stepT_lt hg (h0 x (by simp)) e
      cases f with
      | zero => exact hg.elim
      | succ f => exact take_nomore hg hk
  | x :: y :: ps, f, t, u, hg, h0, h => by
    rw [updT] at h
    cases e : stepT t x with
    | none => rw [e] at h; cases h
    | some k =>
      rw [e] at h
      dsimp only at h
      have hk := stepT_lt hg (h0 x (by simp)) e
      cases f with
      | zero => exact hg.elim
      | succ f =>
        cases e2 : updT takeG (y :: ps) (kidT (kidsT t) k) with
        | none => rw [e2] at h; cases h
        | some v =>
          rw [e2] at h
          simp only [Option.some.injEq] at h
          subst h
          exact put_nomore hg hk (taken_nomore (y :: ps) f _ v (good_kid hg hk) (fun z hz => h0 z (by simp at hz ⊢; exact .inr hz)) e2)
end Go.Proofs.Ytpakfgonemiebaa

/-
  spec.PartsOf: the rows of the parts' nodes.
-/
namespace Go.Proofs.Ytpakfgonemiebaa
open Go.RowKit
set_option linter.unusedSimpArgs false
set_option linter.unusedVariables false

theorem infoRow : (Try.prog.info? 24).map (fun i => (i.zero, i.size, i.bytes)) = some (some (.slice none 0 0), 1, 24) := by kernel_rfl

/-- The root's kids, and their nodes. -/
def rootKids (vs : List VN) : List Int := (nodeAt vs (vs.length - 1)).kids
def PL (vs : List VN) (i : Nat) : List VN := partOf vs (intAt (rootKids vs) i).toNat
def partsN (vs : List VN) : Nat := if okB vs = true then (rootKids vs).length else 0

theorem root_kid {vs : List VN} (hok : okB vs = true) {k : Nat} (hk : k < (rootKids vs).length) : ∃ q : Nat, intAt (rootKids vs) k = (q : Int) ∧ q + 1 < vs.length := by
  obtain ⟨p1, p2, _, _⟩ := okB_parts hok
  have := kidsIn_get (p2 (vs.length - 1) (by omega)).2 hk
  refine ⟨(intAt (rootKids vs) k).toNat, ?_, ?_⟩
  · unfold rootKids; omega
  · unfold rootKids; omega

theorem PL_few {vs : List VN} (hf : ∀ i, i < vs.length → Fits (nodeAt vs i)) : partsN vs ≤ 80 ∧ ∀ i, i < partsN vs → Few (PL vs i) ∧ ∀ j, j < (PL vs i).length → Fits (nodeAt (PL vs i) j) := by
  unfold partsN
  by_cases hok : okB vs = true
  · rw [if_pos hok]
    obtain ⟨p1, _, _, p4⟩ := okB_parts hok
    refine ⟨by have := p4 (vs.length - 1) (by omega); unfold rootKids; omega, fun i hi => ?_⟩
    obtain ⟨q, hq, hql⟩ := root_kid hok hi
    have e : PL vs i = partOf vs q := by unfold PL; rw [hq]; simp
    rw [e]
    have hp := part_fits hok hf (m := q) (by omega)
    exact ⟨⟨(lay_part hok (Nat.lt_succ_self q) (by omega)).2, fun j hj => (hp j hj).2⟩, fun j hj => (hp j hj).1⟩
  · rw [if_neg hok]
    exact ⟨by omega, fun i hi => absurd hi (by omega)⟩

set_option maxRecDepth 100000 in
set_option maxHeartbeats 3200000 in
theorem l1Parts_any (B : Nat) (v : Value) (vs : List VN) (w : World) (h : NodesAt B w v vs) (hB : B ≤ w.heap.size) (hok : okB vs = true) :
    Calls Try.prog 87 #[v] w fun e w' => ∃ r rs KV IV lo, e = .returned r ∧ Rows2 w.heap.size w' r (rootKids vs).length (PL vs) rs KV IV lo ∧ Below w.heap.size w w' := by
  have HV := hideIt h
  obtain ⟨hlen, av, cap, rfl, hcell⟩ := h
  obtain ⟨p1, _, p3, _⟩ := okB_parts hok
  obtain ⟨b0, o0, rfl, hb0, hc⟩ := hcell (by omega)
  obtain ⟨ka, ki, hn1⟩ := hc (vs.length - 1) (by omega)
  have HN1 := hideIt hn1
  have HP3 := hideIt p3
  have HKF := hideIt (keys_few hok)
  have HRK := hideIt (fun k hk => root_kid (k := k) hok hk)
  obtain ⟨i0, hi0, hz0, hs0, hy0⟩ := info_parts infoRow
  obtain ⟨_, hkb, aI, cI, eI, hki⟩ := hn1.inn.kids
  subst eI
  have hb1 : Below w.heap.size w (w.alloc (.cells #[] 24)) := (Below.refl _ _).alloc (Nat.le_refl _) _
  have c4 := (below_cell (o := o0 + (vs.length - 1) * 5 + 4) hb1 (show b0 < w.heap.size by omega)).trans hn1.c4
  have HKI := hideIt hki
  have p0 : ((vs.length : Int) - 1).toNat = vs.length - 1 := by omega
  have HR0 := hideIt (Rows2.start (base := w.heap.size) (World.ownsRow_lit w #[] 0 (Nat.le_refl _) (by simp [maxLen]) rfl) (by simp) (PL vs))
  have HB1 := hideIt hb1
  have hkl : (rootKids vs).length = (nodeAt vs (vs.length - 1)).kids.length := rfl
  have HKL := hideIt hkl
  have hk80 : (nodeAt vs (vs.length - 1)).kids.length ≤ 80 := (HKF.out (vs.length - 1) (by omega)).2.1
  obtain ⟨M, hM⟩ : ∃ M, (nodeAt vs (vs.length - 1)).kids.length = M := ⟨_, rfl⟩
  have HM := hideIt hM
  rw [hM] at c4 hk80
  clear hcell hc hn1 hki p3 hb1 hkl hM
  go_enter Try.func87, Try.ntmps87
  go_wp2_with fail
  go_loopw [3, 5] (fun o i wr => ∃ (k : Nat) (rs : Nat → Value) (KV IV : Nat → Nat → Value) (lo : Nat → Nat), k ≤ M ∧ i = .int .i64 k ∧ Rows2 w.heap.size wr o k (PL vs) rs KV IV lo ∧ Below w.heap.size w wr) (fun _ i _ => M - (intOf i).toNat)
  case atStart => exact ⟨0, _, _, _, _, Nat.zero_le _, rfl, HR0.out, HB1.out⟩
  case round =>
    obtain ⟨k, rs, KV, IV, lo, hk, rfl, hrows, hbl⟩ := hrel
    have HR := hideIt hrows
    have zs := hbl.size
    obtain ⟨ao, co, eo⟩ := own_slice hrows.row
    subst eo
    clear hrows
    by_cases hlt : k < M
    · obtain ⟨q, hq, hql⟩ := HRK.out k (by rw [HKL.out, HM.out]; exact hlt)
      obtain ⟨bk, ok, rfl, hbk, hck⟩ := HKI.out (by rw [HM.out]; omega)
      have hcq : wr.cell? ⟨bk, ok + k, none⟩ = some (.int .i64 (q : Int)) := by
        have := hck k (by rw [HM.out]; exact hlt)
        rw [← hq]
        exact (below_cell hbl (by omega)).trans this
      obtain ⟨⟨a0, h0⟩, htr⟩ := HP3.out q (by omega)
      have HTR := hideIt htr
      have HPL : Hid (run vs (-(a0 : Int)) a0 (q + 1 - a0) = PL vs k) := by rw [Hid]; unfold PL; rw [hq, Int.toNat_natCast, partOf, htr]; simp [trF]
      clear htr hq hck
      go_wp2_with fail
      refine (l1Part_any B _ vs q a0 h0 wr (HV.out.below (hbl.mono hB)) (by omega) p1.2 HKF.out (by omega) HTR.out).mono ?_
      rintro e w3 ⟨r, K, I, rfl, hn3, hb3⟩
      rw [HPL.out] at hn3
      have HN3 := hideIt hn3
      obtain ⟨ar, cr, er⟩ := own_slice hn3.row
      obtain ⟨Lk, hLk⟩ : ∃ Lk, (PL vs k).length = Lk := ⟨_, rfl⟩
      rw [hLk] at er
      subst er
      have HB3 := hideIt hb3
      have z3 := hb3.size
      have HROW := hideIt (HR.out.below hb3).row
      clear hn3 hb3 hLk
      go_wp2_with (at_builtin; refine wpList_append_own_at _ rfl _ _ 40 rfl w.heap.size 24 i0 (.slice none 0 0) 1 24 Try.underlying40 hi0 hz0 hs0 hy0 rfl (by decide) _ _ _ rfl (HROW.out.alloc _) ⟨w3.heap.size, 0, none⟩ 1 1 [.slice ar Lk cr] rfl rfl ?c1 ?c2 ?c3 ?c4 ?c5 ?_)
      case c1 => exact cell_one_new _ _ _
      case c2 => intro u hu; simp at hu; subst hu; rfl
      case c3 => unfold maxLen; omega
      case c4 => omega
      case c5 => simp; omega
      intro v' w5 hown hgrow _ _
      have HR5 := hideIt (HR.out.snoc HB3.out HN3.out hown hgrow)
      have HB5 : Hid (Below w.heap.size w w5) := ((hbl.trans (HB3.out.mono zs)).alloc (by omega) _).grown hgrow (by simp; omega) (fun x hx => (HROW.out.lt x hx).1)
      clear hown hgrow
      go_wp2_with fail
      go_roundw
      case rel => exact ⟨k + 1, _, _, _, _, by omega, by go_num, HR5.out, HB5.out⟩
      case measure => simp [intOf]; omega
    · obtain rfl : k = M := by omega
      go_wp2_with fail
      go_ret
      exact ⟨_, _, _, _, _, rfl, by rw [HKL.out, HM.out]; exact HR.out, hbl⟩

end Go.Proofs.Ytpakfgonemiebaa
