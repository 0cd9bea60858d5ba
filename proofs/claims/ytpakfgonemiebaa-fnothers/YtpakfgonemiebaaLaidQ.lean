/-
  Plain: what stands at a path, of trees; and what FnTaken asks of what is taken.
-/
import Derived.Test.YtpakfgonemiebaaLowN
import Derived.Test.YtpakfgonemiebaaVOf
import Derived.Test.YtpakfgonemiebaaILay
import Derived.Test.YtpakfgonemiebaaUIns
namespace Go.Proofs.Ytpakfgonemiebaa
open Go.RowKit
set_option linter.unusedSimpArgs false
set_option linter.unusedVariables false

theorem fol_got {vs : List VN} (hok : okB vs = true) : ∀ (ps : List PS) (f n : Nat), n < f → n < vs.length → (∀ x ∈ ps, x.named = true ∨ 0 ≤ x.pl) →
    (gotN vs n ps = none → folT ps (treeOf vs f n) = none) ∧ ∀ m, gotN vs n ps = some m → m < vs.length ∧ ∃ f', m < f' ∧ folT ps (treeOf vs f n) = some (treeOf vs f' m) := by
  intro ps
  induction ps with
  | nil =>
    intro f n hf hn _
    refine ⟨fun h => (by cases h), fun m h => ?_⟩
    simp only [gotN, Option.some.injEq] at h
    subst h
    exact ⟨hn, f, hf, rfl⟩
  | cons x ps ih =>
    intro f n hf hn h0
    cases f with
    | zero => omega
    | succ f =>
    have es : stepT (treeOf vs (f + 1) n) x = stepN (nodeAt vs n) x := by
      show stepTo _ _ (List.map _ _).length x = _
      rw [List.length_map]; rfl
    rw [gotN, folT, es]
    cases e : stepN (nodeAt vs n) x with
    | none => exact ⟨fun _ => rfl, fun m h => (by cases h)⟩
    | some k =>
      obtain ⟨_, p2, _, _⟩ := okB_parts hok
      have hk : k < (nodeAt vs n).kids.length := stepN_lt (h0 x (by simp)) (fun h6 => by
        have hnode := (p2 n hn).1
        rw [nodeT_eq] at hnode
        rcases nodeT_says hnode with ⟨e2, _⟩ | ⟨e2, _⟩ | ⟨e2, _⟩ | ⟨e2, _⟩ | ⟨e2, _⟩ | ⟨_, _, _, hm, _⟩
        · omega
        · omega
        · omega
        · omega
        · omega
        · exact hm) e
      have hin := kidsIn_get (p2 n hn).2 hk
      have hkid : kidT (kidsT (treeOf vs (f + 1) n)) k = treeOf vs f (intAt (nodeAt vs n).kids k).toNat := by
        show kidT (List.map _ _) k = _
        rw [kidT_map hk]
      dsimp only
      rw [hkid]
      exact ih f _ (by omega) (by omega) (fun z hz => h0 z (by simp [hz]))

theorem lay_same {f g : Nat} {t : VT} (h1 : FullT f t) (h2 : FullT g t) : layT f t 0 = layT g t 0 := by
  rcases Nat.le_total f g with h | h
  · exact (layT_more h1 h 0).symm
  · exact layT_more h2 h 0

/-- What stands at a path of a tree that was laid. -/
theorem got_lay {f : Nat} {t : VT} {ps : List PS} (hg : goodT f t) (hok : okB (layT f t 0) = true) (hps : pathB ps = true) :
    gotB (layT f t 0) ps = (folT ps t).isSome ∧ ∀ s, folT ps t = some s → ∃ f', goodT f' s ∧ okB (layT f' s 0) = true ∧ gotNs (layT f t 0) ps = layT f' s 0 := by
  obtain ⟨vs, hvs⟩ : ∃ vs, layT f t 0 = vs := ⟨_, rfl⟩
  have htb := tree_back hg.full vs 0 (f + vs.length + 1) (by omega) (fun i hi => by rw [Nat.zero_add, hvs])
  rw [hvs, Nat.zero_add] at htb
  rw [hvs] at hok ⊢
  have p1 := (okB_parts hok).1
  obtain ⟨g1, g2⟩ := fol_got hok ps (f + vs.length + 1) (vs.length - 1) (by omega) (by omega) (steps_mem hps)
  rw [htb] at g1 g2
  cases e : gotN vs (vs.length - 1) ps with
  | none =>
    rw [g1 e]
    refine ⟨?_, fun s h => (by cases h)⟩
    unfold gotB
    rw [hok, hps, e]; rfl
  | some m =>
    obtain ⟨hm, f', hf', hs⟩ := g2 m e
    rw [hs]
    refine ⟨by unfold gotB; rw [hok, hps, e]; rfl, fun s h => ?_⟩
    simp only [Option.some.injEq] at h
    subst h
    have hp := (lay_part hok hf' hm).1
    refine ⟨f', good_tree hok f' m hm hf', by rw [hp]; exact part_okB hok hm, ?_⟩
    unfold gotNs
    rw [hok, hps, e, hp]
    rfl

theorem step_put {k : Nat} {u t : VT} {x : PS} : stepT (putKid k u t) x = stepT t x := by
  obtain ⟨kind, n, s, keys, kids⟩ := t
  show stepTo kind keys (kids.set k u).length x = stepTo kind keys kids.length x
  rw [List.length_set]
theorem fol_plug : ∀ (ps : List PS) (f : Nat) (t s u : VT), goodT f t → (∀ x ∈ ps, x.named = true ∨ 0 ≤ x.pl) → folT ps t = some s → folT ps (plugT ps t u) = some u := by
  intro ps
  induction ps with
  | nil => intro f t s u _ _ _; rfl
  | cons x ps ih =>
    intro f t s u hg h0 h
    rw [folT] at h
    rw [plugT]
    cases e : stepT t x with
    | none => rw [e] at h; cases h
    | some k =>
      rw [e] at h
      dsimp only at h ⊢
      have hk := stepT_lt hg (h0 x (by simp)) e
      cases f with
      | zero => exact hg.elim
      | succ f =>
      rw [folT, step_put, e]
      dsimp only
      have hkid : kidT (kidsT (putKid k (plugT ps (kidT (kidsT t) k) u) t)) k = plugT ps (kidT (kidsT t) k) u := by
        obtain ⟨kind, n, sx, keys, kids⟩ := t
        show kidT (kids.set k _) k = _
        rw [kid_set (show k < kids.length from hk), if_pos rfl]
      rw [hkid]
      exact ih f _ s u (good_kid hg hk) (fun z hz => h0 z (by simp [hz])) h
/-- A key that was taken is not there any more. -/
theorem take_gone {f : Nat} {t : VT} {x : PS} {k : Nat} (hg : goodT f t) (hn : x.named = true) (h : stepT t x = some k) : stepT (takeKid k t) x = none := by
  cases f with
  | zero => exact hg.elim
  | succ f =>
  obtain ⟨kind, n, s, keys, kids⟩ := t
  have h2 : stepTo kind keys kids.length x = some k := h
  show stepTo kind (keys.eraseIdx k) (kids.eraseIdx k).length x = none
  unfold stepTo at h2 ⊢
  rw [if_pos hn] at h2 ⊢
  split at h2
  · rename_i h6
    simp only [Option.some.injEq] at h2
    have hr : riseB keys = true := by
      rcases nodeT_says hg.1 with ⟨e2, _⟩ | ⟨e2, _⟩ | ⟨e2, _⟩ | ⟨e2, _⟩ | ⟨e2, _⟩ | ⟨_, _, _, _, hr⟩
      · have := h6.1; omega
      · have := h6.1; omega
      · have := h6.1; omega
      · have := h6.1; omega
      · have := h6.1; omega
      · exact hr
    have hh := h6.2
    unfold hasK at hh
    rw [h2] at hh
    simp only [Bool.and_eq_true, decide_eq_true_eq] at hh
    obtain ⟨hk, hkey⟩ := hh
    have hno : hasK (keys.eraseIdx k) x.key = false := hasK_none (fun j hj e => by
      have hl : (keys.eraseIdx k).length = keys.length - 1 := by rw [List.length_eraseIdx, if_pos hk]
      rw [hl] at hj
      rw [key_erase, ← hkey] at e
      have hR := riseB_rise hr
      by_cases c : j < k
      · rw [if_pos c] at e
        exact less_ne (hR j k c hk) e
      · rw [if_neg c] at e
        exact less_ne (hR k (j + 1) (by omega) (by omega)) e.symm)
    rw [if_neg (fun c => by rw [hno] at c; cases c.2)]
  · cases h2

/-- All that FnTaken asks. -/
theorem taken_there {vs : List VN} {ps : List PS} : (takenT vs ps).isSome = (gotB vs ps && decide (0 < ps.length)) := by
  by_cases hok : okB vs = true
  · by_cases hps : pathB ps = true
    · have hp1 := (okB_parts hok).1
      have hg := good_tree hok vs.length (vs.length - 1) (by omega) (by omega)
      have h1 := (got_lay hg (by rw [whole_lay hok]; exact hok) hps).1
      rw [whole_lay hok] at h1
      rw [h1]
      unfold takenT
      rw [hok, hps]
      show (updT takeG ps (treeV vs)).isSome = _
      rcases List.eq_nil_or_concat ps with rfl | ⟨qs, x, rfl⟩
      · rfl
      · rw [List.concat_eq_append] at *
        rw [updT_snoc, folT_snoc]
        show _ = ((match folT qs (treeV vs) with | none => none | some s => match stepT s x with | none => none | some k => some (kidT (kidsT s) k)).isSome && _)
        cases folT qs (treeV vs) with
        | none => rfl
        | some s =>
          dsimp only
          unfold takeG
          cases stepT s x with
          | none => rfl
          | some k => simp
    · unfold takenT gotB
      simp only [Bool.not_eq_true] at hps
      rw [hps]; simp
  · unfold takenT gotB
    simp only [Bool.not_eq_true] at hok
    rw [hok]; simp

theorem taken_says {vs : List VN} {ps : List PS} {U : VT} (h : takenT vs ps = some U) : ∃ (m k P : Nat), ps.length = m + 1 ∧ okB (takenNs vs ps) = true ∧ gotB vs (ps.take m) = true ∧ gotB (takenNs vs ps) (ps.take m) = true ∧ okB (gotNs vs (ps.take m)) = true ∧ okB (gotNs (takenNs vs ps) (ps.take m)) = true ∧
    partsN (gotNs vs (ps.take m)) = P ∧ partsN (gotNs (takenNs vs ps) (ps.take m)) = P - 1 ∧ k < P ∧ (∀ i, i < P - 1 → PL (gotNs (takenNs vs ps) (ps.take m)) i = PL (gotNs vs (ps.take m)) (if i < k then i else i + 1)) ∧ ((stepAt ps m).named = true → gotB (takenNs vs ps) ps = false) ∧ ((stepAt ps m).named = false → (stepAt ps m).pl = (k : Int)) := by
  have hns : takenNs vs ps = layT vs.length U 0 := by unfold takenNs; rw [h]
  rw [hns]
  unfold takenT at h
  split at h
  case isFalse => cases h
  rename_i hc
  obtain ⟨hok, hps⟩ : okB vs = true ∧ pathB ps = true := by simpa using hc
  obtain ⟨hgU, hokU⟩ := taken_ok hok hps h
  have hp1 := (okB_parts hok).1
  have hg : goodT vs.length (treeV vs) := good_tree hok vs.length (vs.length - 1) (by omega) (by omega)
  have hwl : layT vs.length (treeV vs) 0 = vs := whole_lay hok
  rcases List.eq_nil_or_concat ps with rfl | ⟨qs, x, rfl⟩
  · cases h
  rw [List.concat_eq_append] at *
  have hmem := steps_mem hps
  have hx0 := hmem x (by simp)
  have hq0 : ∀ z ∈ qs, z.named = true ∨ 0 ≤ z.pl := fun z hz => hmem z (by simp [hz])
  have hpl : (qs ++ [x]).length = qs.length + 1 := by simp
  have htk : (qs ++ [x]).take qs.length = qs := by simp
  have hst : stepAt (qs ++ [x]) qs.length = x := by unfold stepAt; simp
  have hqs : pathB qs = true := by
    unfold pathB at hps ⊢
    simp only [Bool.and_eq_true, decide_eq_true_eq, List.all_eq_true, List.mem_range] at hps ⊢
    refine ⟨by have := hps.1; rw [hpl] at this; omega, fun i hi => ?_⟩
    have := hps.2 i (by rw [hpl]; omega)
    unfold stepAt at this ⊢
    rw [List.getD_eq_getElem?_getD, List.getElem?_append_left hi] at this
    rw [List.getD_eq_getElem?_getD]; exact this
  rw [updT_snoc] at h
  cases e1 : folT qs (treeV vs) with
  | none => rw [e1] at h; cases h
  | some s =>
  rw [e1] at h
  dsimp only at h
  unfold takeG at h
  cases e2 : stepT s x with
  | none => rw [e2] at h; cases h
  | some k =>
  rw [e2] at h
  dsimp only at h
  simp only [Option.some.injEq] at h
  subst h
  have hfU := fol_plug qs vs.length (treeV vs) s (takeKid k s) hg hq0 e1
  obtain ⟨a1, a2⟩ := got_lay hg (by rw [hwl]; exact hok) hqs
  rw [hwl] at a1 a2
  obtain ⟨fa, hga, hoka, hea⟩ := a2 s e1
  obtain ⟨b1, b2⟩ := got_lay hgU hokU hqs
  obtain ⟨fb, hgb, hokb, heb⟩ := b2 _ hfU
  have hkl := stepT_lt hga hx0 e2
  have hgone := fun hn => take_gone hga hn e2
  have hlast : (x.named = true → folT (qs ++ [x]) (plugT qs (treeV vs) (takeKid k s)) = none) := fun hn => by rw [folT_snoc, hfU]; dsimp only; rw [hgone hn]
  have hpx := (got_lay hgU hokU hps).1
  refine ⟨qs.length, k, (kidsT s).length, hpl, hokU, ?_⟩
  rw [htk, hst, hea, heb]
  refine ⟨by rw [a1, e1]; rfl, by rw [b1, hfU]; rfl, hoka, hokb, ?_⟩
  obtain ⟨kind, n, sx, keys, kids⟩ := s
  cases fa with
  | zero => exact hga.elim
  | succ fa =>
  cases fb with
  | zero => exact hgb.elim
  | succ fb =>
  have hkl' : k < kids.length := hkl
  have hel : (kids.eraseIdx k).length = kids.length - 1 := by rw [List.length_eraseIdx, if_pos hkl']
  refine ⟨?_, ?_, hkl, fun i hi => ?_, fun hn => by rw [hpx, hlast hn]; rfl, fun hn => ?_⟩
  · unfold partsN; rw [if_pos hoka, lay_kidsW]; rfl
  · unfold partsN
    rw [if_pos hokb]
    show (rootKids (layT (fb + 1) (.mk kind n sx (keys.eraseIdx k) (kids.eraseIdx k)) 0)).length = kids.length - 1
    rw [lay_kidsW, hel]
  · have hi' : i < kids.length - 1 := hi
    obtain ⟨q, eq⟩ : ∃ q, (if i < k then i else i + 1) = q := ⟨_, rfl⟩
    have hq : q < kids.length := by rw [← eq]; split <;> omega
    rw [eq, lay_PL hga.full hoka hq]
    show PL (layT (fb + 1) (.mk kind n sx (keys.eraseIdx k) (kids.eraseIdx k)) 0) i = _
    have h3 := lay_PL (f := fb) (kind := kind) (n := n) (s := sx) (keys := keys.eraseIdx k) (kids := kids.eraseIdx k) hgb.full hokb (j := i) (by rw [hel]; exact hi')
    rw [h3, kid_erase, eq]
    have h4 := good_kid hgb (k := i) (show i < (kids.eraseIdx k).length by rw [hel]; exact hi')
    have h5 : goodT fb (kidT (kids.eraseIdx k) i) := h4
    rw [kid_erase, eq] at h5
    exact lay_same h5.full (good_kid hga (k := q) hq).full
  · have h2 : stepTo kind keys kids.length x = some k := e2
    unfold stepTo at h2
    rw [if_neg (by rw [hn]; simp)] at h2
    split at h2
    · simp only [Option.some.injEq] at h2
      rcases hx0 with c | c
      · rw [hn] at c; cases c
      · omega
    · cases h2
end Go.Proofs.Ytpakfgonemiebaa

/-
  Plain: what is laid is got there; laid again nothing changes; what was got, laid back, changes nothing.
-/
namespace Go.Proofs.Ytpakfgonemiebaa
open Go.RowKit
set_option linter.unusedSimpArgs false
set_option linter.unusedVariables false

theorem treeOf_more {vs : List VN} (hok : okB vs = true) : ∀ (f g i : Nat), i < vs.length → i < f → f ≤ g → treeOf vs g i = treeOf vs f i := by
  intro f
  induction f with
  | zero => intro g i _ h; omega
  | succ f ih =>
    intro g i hi hf hg
    obtain ⟨g, rfl⟩ : ∃ g', g = g' + 1 := ⟨g - 1, by omega⟩
    obtain ⟨_, p2, _, _⟩ := okB_parts hok
    rw [treeOf, treeOf]
    have e : ((nodeAt vs i).kids.map fun k => treeOf vs g k.toNat) = (nodeAt vs i).kids.map fun k => treeOf vs f k.toNat := by
      refine List.map_congr_left (fun k hk => ?_)
      obtain ⟨j, hj, e⟩ := List.getElem_of_mem hk
      have hki := kidsIn_get (p2 i hi).2 hj
      have e2 : intAt (nodeAt vs i).kids j = k := by
        unfold intAt
        rw [List.getD_eq_getElem?_getD, List.getElem?_eq_getElem hj, e]; rfl
      rw [e2] at hki
      exact ih g k.toNat (by omega) (by omega) (by omega)
    rw [e]
theorem treeV_lay {f : Nat} {t : VT} (hg : goodT f t) (hok : okB (layT f t 0) = true) : treeV (layT f t 0) = t := by
  obtain ⟨vs, hvs⟩ : ∃ vs, layT f t 0 = vs := ⟨_, rfl⟩
  have htb := tree_back hg.full vs 0 (f + vs.length + 1) (by omega) (fun i hi => by rw [Nat.zero_add, hvs])
  rw [hvs, Nat.zero_add] at htb
  rw [hvs] at hok ⊢
  have p1 := (okB_parts hok).1
  unfold treeV
  rw [← treeOf_more hok vs.length (f + vs.length + 1) (vs.length - 1) (by omega) (by omega) (by omega)]
  exact htb
theorem fol_good : ∀ (ps : List PS) (f : Nat) (t s : VT), goodT f t → (∀ x ∈ ps, x.named = true ∨ 0 ≤ x.pl) → folT ps t = some s → ∃ f', goodT f' s := by
  intro ps
  induction ps with
  | nil => intro f t s hg _ h; rw [folT, Option.some.injEq] at h; subst h; exact ⟨f, hg⟩
  | cons y ps ih =>
    intro f t s hg h0 h
    cases f with
    | zero => exact hg.elim
    | succ f =>
      rw [folT] at h
      cases e : stepT t y with
      | none => rw [e] at h; cases h
      | some k =>
        rw [e] at h
        exact ih f _ s (good_kid hg (stepT_lt hg (h0 y (by simp)) e)) (fun x hx => h0 x (by simp [hx])) h
theorem put_same {t : VT} {k : Nat} (hk : k < (kidsT t).length) : putKid k (kidT (kidsT t) k) t = t := by
  obtain ⟨kind, n, s, keys, kids⟩ := t
  have hk' : k < kids.length := hk
  show VT.mk kind n s keys (kids.set k (kidT kids k)) = _
  have : kids.set k (kidT kids k) = kids := by
    unfold kidT
    rw [List.getD_eq_getElem?_getD, List.getElem?_eq_getElem hk']
    simp
  rw [this]
theorem plug_same : ∀ (ps : List PS) (f : Nat) (t s : VT), goodT f t → (∀ x ∈ ps, x.named = true ∨ 0 ≤ x.pl) → folT ps t = some s → plugT ps t s = t := by
  intro ps
  induction ps with
  | nil => intro f t s _ _ h; rw [folT, Option.some.injEq] at h; subst h; rfl
  | cons y ps ih =>
    intro f t s hg h0 h
    cases f with
    | zero => exact hg.elim
    | succ f =>
      rw [folT] at h
      show (match stepT t y with | none => t | some j => putKid j (plugT ps (kidT (kidsT t) j) s) t) = t
      cases e : stepT t y with
      | none => rfl
      | some k =>
        rw [e] at h
        have hk := stepT_lt hg (h0 y (by simp)) e
        dsimp only
        rw [ih f _ s (good_kid hg hk) (fun x hx => h0 x (by simp [hx])) h]
        exact put_same hk
theorem pos_ins {keys : List ByteArray} {key : ByteArray} : posK (keys.insertIdx (posK keys key) key) key = posK keys key := by
  obtain ⟨p1, p2, p3⟩ := posK_spec (l := keys) key
  obtain ⟨p, hp⟩ : ∃ p, posK keys key = p := ⟨_, rfl⟩
  rw [hp] at p1 p2 p3 ⊢
  obtain ⟨q1, q2, q3⟩ := posK_spec (l := keys.insertIdx p key) key
  obtain ⟨q, hq⟩ : ∃ q, posK (keys.insertIdx p key) key = q := ⟨_, rfl⟩
  rw [hq] at q1 q2 q3 ⊢
  rw [ins_len p1] at q1 q3
  rcases Nat.lt_trichotomy q p with h | h | h
  · have h1 := q3 (by omega)
    rw [key_ins p1, if_pos h, p2 q h] at h1
    cases h1
  · exact h
  · have h1 := q2 p h
    rw [key_ins p1, if_neg (by omega), if_pos rfl, less_irr] at h1
    cases h1
/-- What is laid by a step is there. -/
theorem lay_hit {f : Nat} {t u v : VT} {x : PS} (hg : goodT (f + 1) t) (hx : stepB x = true) (h : layG u t x = some v) : ∃ k, stepT v x = some k ∧ k < (kidsT v).length ∧ kidT (kidsT v) k = u := by
  obtain ⟨kind, n, s, keys, kids⟩ := t
  unfold layG at h
  cases e : stepT (.mk kind n s keys kids) x with
  | some k =>
    rw [e] at h
    simp only [Option.some.injEq] at h
    subst h
    have hk : k < kids.length := stepT_lt hg (stepB_from hx) e
    refine ⟨k, by rw [step_put]; exact e, ?_, ?_⟩
    · show k < (kids.set k u).length
      rw [List.length_set]; exact hk
    · show kidT (kids.set k u) k = u
      rw [kid_set hk, if_pos rfl]
  | none =>
    rw [e] at h
    have hs' : stepTo kind keys kids.length x = none := e
    unfold stepTo at hs'
    have h' : insT u x (.mk kind n s keys kids) = some v := h
    rw [insT] at h'
    split at h'
    · rename_i hn
      split at h'
      · rename_i h6
        simp only [Option.some.injEq] at h'
        subst h'
        rcases nodeT_says hg.1 with ⟨e2, _⟩ | ⟨e2, _⟩ | ⟨e2, _⟩ | ⟨e2, _⟩ | ⟨e2, _⟩ | ⟨_, a1, a2, hm, hr⟩
        · omega
        · omega
        · omega
        · omega
        · omega
        · have hp := (posK_spec (l := keys) x.key).1
          have hpk : posK keys x.key ≤ kids.length := by omega
          refine ⟨posK keys x.key, ?_, ?_, ?_⟩
          · show stepTo kind (keys.insertIdx (posK keys x.key) x.key) (kids.insertIdx (posK keys x.key) u).length x = _
            unfold stepTo
            have hh : hasK (keys.insertIdx (posK keys x.key) x.key) x.key = true := by
              unfold hasK
              rw [pos_ins, ins_len hp, key_ins hp, if_neg (by omega), if_pos rfl]
              simp; omega
            rw [if_pos hn, if_pos ⟨h6, hh⟩, pos_ins]
          · show posK keys x.key < (kids.insertIdx (posK keys x.key) u).length
            rw [ins_len hpk]; omega
          · show kidT (kids.insertIdx (posK keys x.key) u) (posK keys x.key) = u
            rw [kid_ins hpk, if_neg (by omega), if_pos rfl]
      · cases h'
    · rename_i hn
      split at h'
      · rename_i h5
        simp only [Option.some.injEq] at h'
        subst h'
        refine ⟨kids.length, ?_, ?_, ?_⟩
        · show stepTo kind keys (kids.insertIdx kids.length u).length x = _
          unfold stepTo
          rw [if_neg hn, ins_len (Nat.le_refl _), if_pos ⟨h5.1, by have := h5.2; omega⟩, h5.2]
          simp
        · show kids.length < (kids.insertIdx kids.length u).length
          rw [ins_len (Nat.le_refl _)]; omega
        · show kidT (kids.insertIdx kids.length u) kids.length = u
          rw [kid_ins (Nat.le_refl _), if_neg (by omega), if_pos rfl]
      · cases h'
theorem lay_again {t u : VT} {x : PS} {k : Nat} (h : stepT t x = some k) (hk : k < (kidsT t).length) (hu : kidT (kidsT t) k = u) : layG u t x = some t := by
  unfold layG
  rw [h]
  dsimp only
  rw [← hu, put_same hk]
/-- The tree that is laid, followed along the path. -/
theorem laid_fol {f : Nat} {t u v : VT} {ps : List PS} (hg : goodT f t) (hps : ∀ x ∈ ps, stepB x = true) (hne : ps ≠ []) (h : updT (layG u) ps t = some v) : folT ps v = some u ∧ (∀ f', goodT f' v → updT (layG u) ps v = some v) := by
  rcases List.eq_nil_or_concat ps with rfl | ⟨qs, x, rfl⟩
  · exact absurd rfl hne
  rw [List.concat_eq_append] at *
  have hx := hps x (by simp)
  have hq0 : ∀ z ∈ qs, z.named = true ∨ 0 ≤ z.pl := fun z hz => stepB_from (hps z (by simp [hz]))
  rw [updT_snoc] at h
  cases e1 : folT qs t with
  | none => rw [e1] at h; cases h
  | some s =>
    rw [e1] at h
    dsimp only at h
    cases e2 : layG u s x with
    | none => rw [e2] at h; cases h
    | some s' =>
      rw [e2] at h
      simp only [Option.some.injEq] at h
      subst h
      obtain ⟨fs, hgs⟩ := fol_good qs f t s hg hq0 e1
      cases fs with
      | zero => exact hgs.elim
      | succ fs =>
      obtain ⟨k, h1, h2, h3⟩ := lay_hit hgs hx e2
      have hf := fol_plug qs f t s s' hg hq0 e1
      refine ⟨?_, fun f' hg' => ?_⟩
      · rw [folT_snoc, hf]
        dsimp only
        rw [h1]
        dsimp only
        rw [h3]
      · rw [updT_snoc, hf]
        dsimp only
        rw [lay_again h1 h2 h3]
        dsimp only
        rw [plug_same qs f' _ s' hg' hq0 hf]
theorem laid_ok {vs : List VN} {ps : List PS} {ws : List VN} (h : laidB vs ps ws = true) : ∃ V, laidT vs ps ws = some V ∧ laidNs vs ps ws = layT (fuelL vs ws) V 0 ∧ okB (layT (fuelL vs ws) V 0) = true ∧ goodT (fuelL vs ws) V ∧ okB vs = true ∧ pathB ps = true ∧ okB ws = true := by
  cases e : laidT vs ps ws with
  | none => rw [(laid_no e).1] at h; cases h
  | some V =>
    obtain ⟨e1, e2⟩ := laid_yes e
    rw [e1] at h
    refine ⟨V, rfl, ?_, h, (laid_facts e).1, ?_⟩
    · rw [e2]; unfold rightNs; rw [h]; rfl
    · unfold laidT at e
      split at e
      · rename_i hok
        obtain ⟨⟨ok1, ok2⟩, ok3⟩ : (okB vs = true ∧ pathB ps = true) ∧ okB ws = true := by simpa using hok
        exact ⟨ok1, ok2, ok3⟩
      · cases e
theorem laid_mk {vs : List VN} {ps : List PS} {ws : List VN} {V : VT} {f : Nat} (h : laidT vs ps ws = some V) (hg : goodT f V) (hok : okB (layT f V 0) = true) : laidB vs ps ws = true ∧ laidNs vs ps ws = layT f V 0 := by
  obtain ⟨e1, e2⟩ := laid_yes h
  have e3 : layT (fuelL vs ws) V 0 = layT f V 0 := lay_same (laid_facts h).1.full hg.full
  rw [e3] at e1 e2
  refine ⟨by rw [e1]; exact hok, ?_⟩
  rw [e2]; unfold rightNs; rw [hok]; rfl
/-- What was got, laid back, changes nothing. -/
theorem got_laid {vs : List VN} {ps : List PS} (h : gotB vs ps = true) : laidB vs ps (gotNs vs ps) = true ∧ laidNs vs ps (gotNs vs ps) = vs := by
  obtain ⟨⟨hok, hps⟩, _⟩ : (okB vs = true ∧ pathB ps = true) ∧ _ := by
    have h' := h
    unfold gotB at h'
    simpa using h'
  have hg := treeV_good hok
  have hwl : layT vs.length (treeV vs) 0 = vs := whole_lay hok
  obtain ⟨a1, a2⟩ := got_lay hg (by rw [hwl]; exact hok) hps
  rw [hwl] at a1 a2
  rw [h] at a1
  obtain ⟨s, hs⟩ : ∃ s, folT ps (treeV vs) = some s := Option.isSome_iff_exists.1 a1.symm
  obtain ⟨f', hg', hok', e⟩ := a2 s hs
  have hts : treeV (gotNs vs ps) = s := by rw [e]; exact treeV_lay hg' hok'
  have hlt : laidT vs ps (gotNs vs ps) = some (treeV vs) := by
    unfold laidT
    rw [if_pos (by rw [hok, hps, e, hok']; rfl), hts]
    have h0 := steps_mem hps
    rcases List.eq_nil_or_concat ps with rfl | ⟨qs, x, rfl⟩
    · show some s = some (treeV vs)
      exact hs.symm
    · rw [List.concat_eq_append] at *
      rw [if_neg (by simp), updT_snoc]
      rw [folT_snoc] at hs
      cases e1 : folT qs (treeV vs) with
      | none => rw [e1] at hs; cases hs
      | some s0 =>
        rw [e1] at hs
        dsimp only at hs ⊢
        have hq0 : ∀ z ∈ qs, z.named = true ∨ 0 ≤ z.pl := fun z hz => h0 z (by simp [hz])
        obtain ⟨fs, hgs⟩ := fol_good qs _ _ s0 hg hq0 e1
        cases e2 : stepT s0 x with
        | none => rw [e2] at hs; cases hs
        | some k =>
          rw [e2] at hs
          simp only [Option.some.injEq] at hs
          rw [lay_again e2 (stepT_lt hgs (h0 x (by simp)) e2) hs]
          dsimp only
          rw [plug_same qs _ _ s0 hg hq0 e1]
  have := laid_mk hlt hg (by rw [hwl]; exact hok)
  rw [hwl] at this
  exact this
/-- What is laid is got there, and laid again nothing changes. -/
theorem laid_got {vs : List VN} {ps : List PS} {ws : List VN} (h : laidB vs ps ws = true) : gotB (laidNs vs ps ws) ps = true ∧ gotNs (laidNs vs ps ws) ps = ws ∧ laidB (laidNs vs ps ws) ps ws = true ∧ laidNs (laidNs vs ps ws) ps ws = laidNs vs ps ws ∧ okB (laidNs vs ps ws) = true := by
  obtain ⟨V, hlt, hns, hokV, hgV, ok1, ok2, ok3⟩ := laid_ok h
  have hfol : folT ps V = some (treeV ws) ∧ laidT (laidNs vs ps ws) ps ws = some V := by
    have hlt' := hlt
    unfold laidT at hlt' ⊢
    rw [if_pos (by rw [ok1, ok2, ok3]; rfl)] at hlt'
    rw [hns, if_pos (by rw [hokV, ok2, ok3]; rfl), treeV_lay hgV hokV]
    by_cases e : ps.length = 0
    · rw [if_pos e] at hlt' ⊢
      obtain rfl := List.eq_nil_of_length_eq_zero e
      refine ⟨?_, hlt'⟩
      rw [folT]; exact hlt'.symm
    · rw [if_neg e] at hlt' ⊢
      obtain ⟨g1, g2⟩ := laid_fol (treeV_good ok1) (steps_all ok2) (fun h => e (by rw [h]; rfl)) hlt'
      exact ⟨g1, g2 _ hgV⟩
  obtain ⟨a1, a2⟩ := got_lay hgV hokV ok2
  obtain ⟨f', hg', hok', e⟩ := a2 _ hfol.1
  rw [← hns] at a1 e
  rw [hfol.1] at a1
  refine ⟨a1, ?_, ?_⟩
  · rw [e, lay_same hg'.full (treeV_good ok3).full]
    exact whole_lay ok3
  · have := laid_mk hfol.2 hgV hokV
    rw [← hns] at this
    exact ⟨this.1, this.2, by rw [hns]; exact hokV⟩
end Go.Proofs.Ytpakfgonemiebaa
