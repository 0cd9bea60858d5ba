/-
  Plain: what is laid is got there; laid again nothing changes; what was got, laid back, changes nothing.
-/
import Derived.Test.YtpakfgonemiebaaILay
import Derived.Test.YtpakfgonemiebaaTakQ
import Derived.Test.YtpakfgonemiebaaUCel
import Derived.Test.YtpakfgonemiebaaPsP
import Derived.Deep.QuietTactic
import Derived.BigQuiet
import Derived.Laws.StructEq
import Derived.Lib.Strings
namespace Go.Proofs.Ytpakfgonemiebaa
open Go.RowKit
set_option linter.unusedSimpArgs false
set_option linter.unusedVariables false

theorem treeOf_more {vs : List VN} (hok : okB vs = true) : ∀ (f g i : Nat), i < vs.length → i < f → f ≤ g → treeOf vs g i = treeOf vs f i := by
  intro f
  induction f with
  | zero => intro g i _ h; omega
  | succ f ih =>
    intro g i hi hf hg
    obtain ⟨g, rfl⟩ : ∃ g', g = g' + 1 := ⟨g - 1, by omega⟩
    obtain ⟨_, p2, _, _⟩ := okB_parts hok
    rw [treeOf, treeOf]
    have e : ((nodeAt vs i).kids.map fun k => treeOf vs g k.toNat) = (nodeAt vs i).kids.map fun k => treeOf vs f k.toNat := by
      refine List.map_congr_left (fun k hk => ?_)
      obtain ⟨j, hj, e⟩ := List.getElem_of_mem hk
      have hki := kidsIn_get (p2 i hi).2 hj
      have e2 : intAt (nodeAt vs i).kids j = k := by
        unfold intAt
        rw [List.getD_eq_getElem?_getD, List.getElem?_eq_getElem hj, e]; rfl
      rw [e2] at hki
      exact ih g k.toNat (by omega) (by omega) (by omega)
    rw [e]
theorem treeV_lay {f : Nat} {t : VT} (hg : goodT f t) (hok : okB (layT f t 0) = true) : treeV (layT f t 0) = t := by
  obtain ⟨vs, hvs⟩ : ∃ vs, layT f t 0 = vs := ⟨_, rfl⟩
  have htb := tree_back hg.full vs 0 (f + vs.length + 1) (by omega) (fun i hi => by rw [Nat.zero_add, hvs])
  rw [hvs, Nat.zero_add] at htb
  rw [hvs] at hok ⊢
  have p1 := (okB_parts hok).1
  unfold treeV
  rw [← treeOf_more hok vs.length (f + vs.length + 1) (vs.length - 1) (by omega) (by omega) (by omega)]
  exact htb
theorem fol_good : ∀ (ps : List PS) (f : Nat) (t s : VT), goodT f t → (∀ x ∈ ps, x.named = true ∨ 0 ≤ x.pl) → folT ps t = some s → ∃ f', goodT f' s := by
  intro ps
  induction ps with
  | nil => intro f t s hg _ h; rw [folT, Option.some.injEq] at h; subst h; exact ⟨f, hg⟩
  | cons y ps ih =>
    intro f t s hg h0 h
    cases f with
    | zero => exact hg.elim
    | succ f =>
      rw [folT] at h
      cases e : stepT t y with
      | none => rw [e] at h; cases h
      | some k =>
        rw [e] at h
        exact ih f _ s (good_kid hg (stepT_lt hg (h0 y (by simp)) e)) (fun x hx => h0 x (by simp [hx])) h
theorem put_same {t : VT} {k : Nat} (hk : k < (kidsT t).length) : putKid k (kidT (kidsT t) k) t = t := by
  obtain ⟨kind, n, s, keys, kids⟩ := t
  have hk' : k < kids.length := hk
  show VT.mk kind n s keys (kids.set k (kidT kids k)) = _
  have : kids.set k (kidT kids k) = kids := by
    unfold kidT
    rw [List.getD_eq_getElem?_getD, List.getElem?_eq_getElem hk']
    simp
  rw [this]
theorem plug_same : ∀ (ps : List PS) (f : Nat) (t s : VT), goodT f t → (∀ x ∈ ps, x.named = true ∨ 0 ≤ x.pl) → folT ps t = some s → plugT ps t s = t := by
  intro ps
  induction ps with
  | nil => intro f t s _ _ h; rw [folT, Option.some.injEq] at h; subst h; rfl
  | cons y ps ih =>
    intro f t s hg h0 h
    cases f with
    | zero => exact hg.elim
    | succ f =>
      rw [folT] at h
      show (match stepT t y with | none => t | some j => putKid j (plugT ps (kidT (kidsT t) j) s) t) = t
      cases e : stepT t y with
      | none => rfl
      | some k =>
        rw [e] at h
        have hk := stepT_lt hg (h0 y (by simp)) e
        dsimp only
        rw [ih f _ s (good_kid hg hk) (fun x hx => h0 x (by simp [hx])) h]
        exact put_same hk
theorem pos_ins {keys : List ByteArray} {key : ByteArray} : posK (keys.insertIdx (posK keys key) key) key = posK keys key := by
  obtain ⟨p1, p2, p3⟩ := posK_spec (l := keys) key
  obtain ⟨p, hp⟩ : ∃ p, posK keys key = p := ⟨_, rfl⟩
  rw [hp] at p1 p2 p3 ⊢
  obtain ⟨q1, q2, q3⟩ := posK_spec (l := keys.insertIdx p key) key
  obtain ⟨q, hq⟩ : ∃ q, posK (keys.insertIdx p key) key = q := ⟨_, rfl⟩
  rw [hq] at q1 q2 q3 ⊢
  rw [ins_len p1] at q1 q3
  rcases Nat.lt_trichotomy q p with h | h | h
  · have h1 := q3 (by omega)
    rw [key_ins p1, if_pos h, p2 q h] at h1
    cases h1
  · exact h
  · have h1 := q2 p h
    rw [key_ins p1, if_neg (by omega), if_pos rfl, less_irr] at h1
    cases h1
/-- What is laid by a step is there. -/
theorem lay_hit {f : Nat} {t u v : VT} {x : PS} (hg : goodT (f + 1) t) (hx : stepB x = true) (h : layG u t x = some v) : ∃ k, stepT v x = some k ∧ k < (kidsT v).length ∧ kidT (kidsT v) k = u := by
  obtain ⟨kind, n, s, keys, kids⟩ := t
  unfold layG at h
  cases e : stepT (.mk kind n s keys kids) x with
  | some k =>
    rw [e] at h
    simp only [Option.some.injEq] at h
    subst h
    have hk : k < kids.length := stepT_lt hg (stepB_from hx) e
    refine ⟨k, by rw [step_put]; exact e, ?_, ?_⟩
    · show k < (kids.set k u).length
      rw [List.length_set]; exact hk
    · show kidT (kids.set k u) k = u
      rw [kid_set hk, if_pos rfl]
  | none =>
    rw [e] at h
    have hs' : stepTo kind keys kids.length x = none := e
    unfold stepTo at hs'
    have h' : insT u x (.mk kind n s keys kids) = some v := h
    rw [insT] at h'
    split at h'
    · rename_i hn
      split at h'
      · rename_i h6
        simp only [Option.some.injEq] at h'
        subst h'
        rcases nodeT_says hg.1 with ⟨e2, _⟩ | ⟨e2, _⟩ | ⟨e2, _⟩ | ⟨e2, _⟩ | ⟨e2, _⟩ | ⟨_, a1, a2, hm, hr⟩
        · omega
        · omega
        · omega
        · omega
        · omega
        · have hp := (posK_spec (l := keys) x.key).1
          have hpk : posK keys x.key ≤ kids.length := by omega
          refine ⟨posK keys x.key, ?_, ?_, ?_⟩
          · show stepTo kind (keys.insertIdx (posK keys x.key) x.key) (kids.insertIdx (posK keys x.key) u).length x = _
            unfold stepTo
            have hh : hasK (keys.insertIdx (posK keys x.key) x.key) x.key = true := by
              unfold hasK
              rw [pos_ins, ins_len hp, key_ins hp, if_neg (by omega), if_pos rfl]
              simp; omega
            rw [if_pos hn, if_pos ⟨h6, hh⟩, pos_ins]
          · show posK keys x.key < (kids.insertIdx (posK keys x.key) u).length
            rw [ins_len hpk]; omega
          · show kidT (kids.insertIdx (posK keys x.key) u) (posK keys x.key) = u
            rw [kid_ins hpk, if_neg (by omega), if_pos rfl]
      · cases h'
    · rename_i hn
      split at h'
      · rename_i h5
        simp only [Option.some.injEq] at h'
        subst h'
        refine ⟨kids.length, ?_, ?_, ?_⟩
        · show stepTo kind keys (kids.insertIdx kids.length u).length x = _
          unfold stepTo
          rw [if_neg hn, ins_len (Nat.le_refl _), if_pos ⟨h5.1, by have := h5.2; omega⟩, h5.2]
          simp
        · show kids.length < (kids.insertIdx kids.length u).length
          rw [ins_len (Nat.le_refl _)]; omega
        · show kidT (kids.insertIdx kids.length u) kids.length = u
          rw [kid_ins (Nat.le_refl _), if_neg (by omega), if_pos rfl]
      · cases h'
theorem lay_again {t u : VT} {x : PS} {k : Nat} (h : stepT t x = some k) (hk : k < (kidsT t).length) (hu : kidT (kidsT t) k = u) : layG u t x = some t := by
  unfold layG
  rw [h]
  dsimp only
  rw [← hu, put_same hk]
/-- The tree that is laid, followed along the path. -/
theorem laid_fol {f : Nat} {t u v : VT} {ps : List PS} (hg : goodT f t) (hps : ∀ x ∈ ps, stepB x = true) (hne : ps ≠ []) (h : updT (layG u) ps t = some v) : folT ps v = some u ∧ (∀ f', goodT f' v → updT (layG u) ps v = some v) := by
  rcases List.eq_nil_or_concat ps with rfl | ⟨qs, x, rfl⟩
  · exact absurd rfl hne
  rw [List.concat_eq_append] at *
  have hx := hps x (by simp)
  have hq0 : ∀ z ∈ qs, z.named = true ∨ 0 ≤ z.pl := fun z hz => stepB_from (hps z (by simp [hz]))
  rw [updT_snoc] at h
  cases e1 : folT qs t with
  | none => rw [e1] at h; cases h
  | some s =>
    rw [e1] at h
    dsimp only at h
    cases e2 : layG u s x with
    | none => rw [e2] at h; cases h
    | some s' =>
      rw [e2] at h
      simp only [Option.some.injEq] at h
      subst h
      obtain ⟨fs, hgs⟩ := fol_good qs f t s hg hq0 e1
      cases fs with
      | zero => exact hgs.elim
      | succ fs =>
      obtain ⟨k, h1, h2, h3⟩ := lay_hit hgs hx e2
      have hf := fol_plug qs f t s s' hg hq0 e1
      refine ⟨?_, fun f' hg' => ?_⟩
      · rw [folT_snoc, hf]
        dsimp only
        rw [h1]
        dsimp only
        rw [h3]
      · rw [updT_snoc, hf]
        dsimp only
        rw [lay_again h1 h2 h3]
        dsimp only
        rw [plug_same qs f' _ s' hg' hq0 hf]
theorem laid_ok {vs : List VN} {ps : List PS} {ws : List VN} (h : laidB vs ps ws = true) : ∃ V, laidT vs ps ws = some V ∧ laidNs vs ps ws = layT (fuelL vs ws) V 0 ∧ okB (layT (fuelL vs ws) V 0) = true ∧ goodT (fuelL vs ws) V ∧ okB vs = true ∧ pathB ps = true ∧ okB ws = true := by
  cases e : laidT vs ps ws with
  | none => rw [(laid_no e).1] at h; cases h
  | some V =>
    obtain ⟨e1, e2⟩ := laid_yes e
    rw [e1] at h
    refine ⟨V, rfl, ?_, h, (laid_facts e).1, ?_⟩
    · rw [e2]; unfold rightNs; rw [h]; rfl
    · unfold laidT at e
      split at e
      · rename_i hok
        obtain ⟨⟨ok1, ok2⟩, ok3⟩ : (okB vs = true ∧ pathB ps = true) ∧ okB ws = true := by simpa using hok
        exact ⟨ok1, ok2, ok3⟩
      · cases e
theorem laid_mk {vs : List VN} {ps : List PS} {ws : List VN} {V : VT} {f : Nat} (h : laidT vs ps ws = some V) (hg : goodT f V) (hok : okB (layT f V 0) = true) : laidB vs ps ws = true ∧ laidNs vs ps ws = layT f V 0 := by
  obtain ⟨e1, e2⟩ := laid_yes h
  have e3 : layT (fuelL vs ws) V 0 = layT f V 0 := lay_same (laid_facts h).1.full hg.full
  rw [e3] at e1 e2
  refine ⟨by rw [e1]; exact hok, ?_⟩
  rw [e2]; unfold rightNs; rw [hok]; rfl
/-- What was got, laid back, changes nothing. -/
theorem got_laid {vs : List VN} {ps : List PS} (h : gotB vs ps = true) : laidB vs ps (gotNs vs ps) = true ∧ laidNs vs ps (gotNs vs ps) = vs := by
  obtain ⟨⟨hok, hps⟩, _⟩ : (okB vs = true ∧ pathB ps = true) ∧ _ := by
    have h' := h
    unfold gotB at h'
    simpa using h'
  have hg := treeV_good hok
  have hwl : layT vs.length (treeV vs) 0 = vs := whole_lay hok
  obtain ⟨a1, a2⟩ := got_lay hg (by rw [hwl]; exact hok) hps
  rw [hwl] at a1 a2
  rw [h] at a1
  obtain ⟨s, hs⟩ : ∃ s, folT ps (treeV vs) = some s := Option.isSome_iff_exists.1 a1.symm
  obtain ⟨f', hg', hok', e⟩ := a2 s hs
  have hts : treeV (gotNs vs ps) = s := by rw [e]; exact treeV_lay hg' hok'
  have hlt : laidT vs ps (gotNs vs ps) = some (treeV vs) := by
    unfold laidT
    rw [if_pos (by rw [hok, hps, e, hok']; rfl), hts]
    have h0 := steps_mem hps
    rcases List.eq_nil_or_concat ps with rfl | ⟨qs, x, rfl⟩
    · show some s = some (treeV vs)
      exact hs.symm
    · rw [List.concat_eq_append] at *
      rw [if_neg (by simp), updT_snoc]
      rw [folT_snoc] at hs
      cases e1 : folT qs (treeV vs) with
      | none => rw [e1] at hs; cases hs
      | some s0 =>
        rw [e1] at hs
        dsimp only at hs ⊢
        have hq0 : ∀ z ∈ qs, z.named = true ∨ 0 ≤ z.pl := fun z hz => h0 z (by simp [hz])
        obtain ⟨fs, hgs⟩ := fol_good qs _ _ s0 hg hq0 e1
        cases e2 : stepT s0 x with
        | none => rw [e2] at hs; cases hs
        | some k =>
          rw [e2] at hs
          simp only [Option.some.injEq] at hs
          rw [lay_again e2 (stepT_lt hgs (h0 x (by simp)) e2) hs]
          dsimp only
          rw [plug_same qs _ _ s0 hg hq0 e1]
  have := laid_mk hlt hg (by rw [hwl]; exact hok)
  rw [hwl] at this
  exact this
/-- What is laid is got there, and laid again nothing changes. -/
theorem laid_got {vs : List VN} {ps : List PS} {ws : List VN} (h : laidB vs ps ws = true) : gotB (laidNs vs ps ws) ps = true ∧ gotNs (laidNs vs ps ws) ps = ws ∧ laidB (laidNs vs ps ws) ps ws = true ∧ laidNs (laidNs vs ps ws) ps ws = laidNs vs ps ws ∧ okB (laidNs vs ps ws) = true := by
  obtain ⟨V, hlt, hns, hokV, hgV, ok1, ok2, ok3⟩ := laid_ok h
  have hfol : folT ps V = some (treeV ws) ∧ laidT (laidNs vs ps ws) ps ws = some V := by
    have hlt' := hlt
    unfold laidT at hlt' ⊢
    rw [if_pos (by rw [ok1, ok2, ok3]; rfl)] at hlt'
    rw [hns, if_pos (by rw [hokV, ok2, ok3]; rfl), treeV_lay hgV hokV]
    by_cases e : ps.length = 0
    · rw [if_pos e] at hlt' ⊢
      obtain rfl := List.eq_nil_of_length_eq_zero e
      refine ⟨?_, hlt'⟩
      rw [folT]; exact hlt'.symm
    · rw [if_neg e] at hlt' ⊢
      obtain ⟨g1, g2⟩ := laid_fol (treeV_good ok1) (steps_all ok2) (fun h => e (by rw [h]; rfl)) hlt'
      exact ⟨g1, g2 _ hgV⟩
  obtain ⟨a1, a2⟩ := got_lay hgV hokV ok2
  obtain ⟨f', hg', hok', e⟩ := a2 _ hfol.1
  rw [← hns] at a1 e
  rw [hfol.1] at a1
  refine ⟨a1, ?_, ?_⟩
  · rw [e, lay_same hg'.full (treeV_good ok3).full]
    exact whole_lay ok3
  · have := laid_mk hfol.2 hgV hokV
    rw [← hns] at this
    exact ⟨this.1, this.2, by rw [hns]; exact hokV⟩
end Go.Proofs.Ytpakfgonemiebaa

/-
  The law's own comparison of two paths.
-/
namespace Go.Proofs.Ytpakfgonemiebaa
open Go.RowKit
set_option linter.unusedSimpArgs false
set_option linter.unusedVariables false

theorem steps_eq {a b : List PS} (hl : a.length = b.length) (h : ∀ j, j < a.length → stepAt a j = stepAt b j) : a = b := by
  refine List.ext_getElem hl fun i h1 h2 => ?_
  have := h i h1
  simpa [stepAt, h1, h2] using this

theorem key_eq {a b : ByteArray} (h : (a.toList == b.toList) = true) : a = b := by
  have e : a.toList = b.toList := eq_of_beq h
  rw [Lib.toList_data, Lib.toList_data] at e
  rw [← Lib.mk_data a, ← Lib.mk_data b, e]

theorem ps_eq {x y : PS} (h1 : x.named = y.named) (h2 : x.key = y.key) (h3 : x.pl = y.pl) : x = y := by
  cases x; cases y; simp_all

theorem steps_ne {a b : List PS} {k : Nat} (h : stepAt a k ≠ stepAt b k) : ¬ a = b := fun e => h (by rw [e])

theorem ret_noP {p : Prop} (h : ¬ p) : ∃ b, Ending.returned (.bool false) = .returned (.bool b) ∧ (b = true ↔ p) := ⟨false, rfl, by simp [h]⟩

set_option maxRecDepth 100000 in
set_option maxHeartbeats 3200000 in
theorem samePath_any (B : Nat) (v1 v2 : Value) (ps qs : List PS) (w : World) (h1 : StepsAt B w v1 ps) (h2 : StepsAt B w v2 qs) (hB : B ≤ w.heap.size) :
    Calls Try.prog 16 #[v1, v2] w fun e w' => (∃ b, e = .returned (.bool b) ∧ (b = true ↔ ps = qs)) ∧ Below w.heap.size w w' := by
  obtain ⟨hlen, hf1, a1, cap1, rfl, hcell1⟩ := h1
  obtain ⟨hlen2, hf2, a2, cap2, rfl, hcell2⟩ := h2
  have HC1 := hideIt hcell1
  have HC2 := hideIt hcell2
  clear hcell1 hcell2 hf1 hf2
  by_cases hl : ps.length = qs.length
  case neg =>
    have hne : ((ps.length : Int) != (qs.length : Int)) = true := by simp; omega
    have HO : Hid (¬ ps = qs) := fun e => hl (by rw [e])
    clear hl
    go_enter Try.func16, Try.ntmps16
    go_wp2_with fail
    go_ret
    exact ⟨ret_noP HO.out, Below.refl _ _⟩
  case pos =>
  obtain ⟨N, hN⟩ : ∃ N, ps.length = N := ⟨_, rfl⟩
  have HN1 := hideIt hN
  have HN2 := hideIt (hl.symm.trans hN)
  rw [← hl, hN]
  rw [hN] at hlen
  clear hl hN hlen2
  have hne : ((N : Int) != (N : Int)) = false := by simp
  go_enter Try.func16, Try.ntmps16
  go_wp2_with fail
  go_loopw [5] (fun i wr => ∃ k : Nat, k ≤ N ∧ i = .int .i64 k ∧ Hid (∀ j, j < k → stepAt ps j = stepAt qs j) ∧ Below w.heap.size w wr) (fun i _ => N - (intOf i).toNat)
  case atStart => exact ⟨0, Nat.zero_le _, rfl, fun j hj => absurd hj (by omega), Below.refl _ _⟩
  case round =>
    obtain ⟨k, hk, rfl, HE, hbel⟩ := hrel
    by_cases hlt : k < N
    case neg =>
      have HO : Hid (ps = qs) := steps_eq (HN1.out.trans HN2.out.symm) (fun j hj => HE.out j (by have := HN1.out; omega))
      go_wp2_with fail
      go_ret
      exact ⟨⟨true, rfl, by simp [HO.out]⟩, hbel⟩
    case pos =>
    obtain ⟨b1, o1, rfl, hb1, hc1⟩ := HC1.out (by have := HN1.out; omega)
    obtain ⟨b2, o2, rfl, hb2, hc2⟩ := HC2.out (by have := HN2.out; omega)
    obtain ⟨c0, c1, c2⟩ := hc1 k (by have := HN1.out; omega)
    obtain ⟨d0, d1, d2⟩ := hc2 k (by have := HN2.out; omega)
    clear hc1 hc2
    obtain ⟨x, hx⟩ : ∃ x, stepAt ps k = x := ⟨_, rfl⟩
    obtain ⟨y, hy⟩ : ∃ y, stepAt qs k = y := ⟨_, rfl⟩
    rw [hx] at c0 c1 c2
    rw [hy] at d0 d1 d2
    have c0 := (below_cell hbel (show b1 < w.heap.size by omega)).trans c0
    have c1 := (below_cell hbel (show b1 < w.heap.size by omega)).trans c1
    have c2 := (below_cell hbel (show b1 < w.heap.size by omega)).trans c2
    have d0 := (below_cell hbel (show b2 < w.heap.size by omega)).trans d0
    have d1 := (below_cell hbel (show b2 < w.heap.size by omega)).trans d1
    have d2 := (below_cell hbel (show b2 < w.heap.size by omega)).trans d2
    have HNE : Hid (x ≠ y → ¬ ps = qs) := fun h => steps_ne (k := k) (by rw [hx, hy]; exact h)
    have HEQ : Hid (x = y → ∀ j, j < k + 1 → stepAt ps j = stepAt qs j) := fun h j hj => by
      by_cases e : j = k
      · subst e; rw [hx, hy]; exact h
      · exact HE.out j (by omega)
    clear hx hy
    obtain ⟨xn, xk, xp⟩ := x
    obtain ⟨yn, yk, yp⟩ := y
    simp only at c0 c1 c2 d0 d1 d2
    by_cases q1 : xn = yn
    case neg =>
      have f1 : (xn == yn) = false := by simp [q1]
      have HO := hideIt (HNE.out (fun e => q1 (by injection e)))
      clear q1
      go_wp2_with fail
      go_quiet (fail)
      go_wp2_with fail
      go_ret
      exact ⟨ret_noP HO.out, below_drewN hbel nq⟩
    case pos =>
    subst q1
    by_cases q2 : (xk.toList == yk.toList) = true
    case neg =>
      have f2 : (xk.toList == yk.toList) = false := by simpa using q2
      have HO := hideIt (HNE.out (fun e => q2 (by injection e with _ e; rw [e]; simp)))
      clear q2
      go_wp2_with fail
      go_quiet (fail)
      go_wp2_with fail
      go_ret
      exact ⟨ret_noP HO.out, below_drewN hbel nq⟩
    case pos =>
    by_cases q3 : xp = yp
    case neg =>
      have f3 : (xp == yp) = false := by simp [q3]
      have HO := hideIt (HNE.out (fun e => q3 (by injection e)))
      clear q3
      go_wp2_with fail
      go_quiet (fail)
      go_wp2_with fail
      go_ret
      exact ⟨ret_noP HO.out, below_drewN hbel nq⟩
    case pos =>
    subst q3
    have HE2 := hideIt (HEQ.out (ps_eq rfl (key_eq q2) rfl))
    go_wp2_with fail
    go_quiet (fail)
    go_wp2_with fail
    go_roundw
    case rel => exact ⟨k + 1, by omega, by go_num, HE2, below_drewN hbel nq⟩
    case measure => simp [intOf]; omega
end Go.Proofs.Ytpakfgonemiebaa

/-
  Plain: what is laid at one path changes nothing of what stands at a path that does not begin with it nor it with that.
-/
namespace Go.Proofs.Ytpakfgonemiebaa
open Go.RowKit
set_option linter.unusedSimpArgs false
set_option linter.unusedVariables false

theorem bytes_same {a b : ByteArray} (h : a.toList = b.toList) : a = b := key_eq (by simp [h])
theorem has_at {l : List ByteArray} (hr : Rise l) {key : ByteArray} {i : Nat} (hi : i < l.length) (he : (keyAt l i).toList = key.toList) : hasK l key = true ∧ posK l key = i :=
  hasK_first hr hi he (fun j hj e => less_ne (hr j i hj hi) (e.trans he.symm))
theorem step_says {f : Nat} {kind n : Int} {s : ByteArray} {keys : List ByteArray} {kids : List VT} {x : PS} {k : Nat} (hg : goodT (f + 1) (.mk kind n s keys kids)) (hx : stepB x = true) (h : stepT (.mk kind n s keys kids) x = some k) :
    (x.named = true ∧ kind = 6 ∧ x.pl = 0 ∧ hasK keys x.key = true ∧ posK keys x.key = k ∧ (keyAt keys k).toList = x.key.toList ∧ keys.length = kids.length ∧ riseB keys = true) ∨ (x.named = false ∧ kind = 5 ∧ x.key.toList = [] ∧ x.pl = (k : Int) ∧ k < kids.length) := by
  have h' : stepTo kind keys kids.length x = some k := h
  unfold stepTo at h'
  unfold stepB at hx
  cases hn : x.named
  · rw [hn] at h' hx
    simp only [Bool.false_eq_true, if_false] at h'
    simp at hx
    split at h'
    · rename_i h5
      simp only [Option.some.injEq] at h'
      refine .inr ⟨rfl, h5.1, by simpa using hx.1, by omega, by omega⟩
    · cases h'
  · rw [hn] at h' hx
    simp only [if_true] at h'
    simp at hx
    split at h'
    · rename_i h6
      simp only [Option.some.injEq] at h'
      have hk := h6.2
      unfold hasK at hk
      simp only [Bool.and_eq_true, decide_eq_true_eq] at hk
      rw [h'] at hk
      rcases nodeT_says hg.1 with ⟨e2, _⟩ | ⟨e2, _⟩ | ⟨e2, _⟩ | ⟨e2, _⟩ | ⟨e2, _⟩ | ⟨_, a1, a2, hm, hr⟩
      · have := h6.1; omega
      · have := h6.1; omega
      · have := h6.1; omega
      · have := h6.1; omega
      · have := h6.1; omega
      · exact .inl ⟨rfl, h6.1, hx.2, h6.2, h', hk.2, hm, hr⟩
    · cases h'
theorem step_inj {f : Nat} {t : VT} {x y : PS} {k : Nat} (hg : goodT (f + 1) t) (hx : stepB x = true) (hy : stepB y = true) (h1 : stepT t x = some k) (h2 : stepT t y = some k) : x = y := by
  obtain ⟨kind, n, s, keys, kids⟩ := t
  obtain ⟨xn, xk, xp⟩ := x
  obtain ⟨yn, yk, yp⟩ := y
  rcases step_says hg hx h1 with ⟨a1, a2, a3, _, _, a4, _⟩ | ⟨a1, a2, a3, a4, _⟩
  · rcases step_says hg hy h2 with ⟨b1, b2, b3, _, _, b4, _⟩ | ⟨b1, b2, b3, b4, _⟩
    · dsimp only at a1 a3 a4 b1 b3 b4
      rw [bytes_same (a4.symm.trans b4), a1, b1, a3, b3]
    · omega
  · rcases step_says hg hy h2 with ⟨b1, b2, b3, _, _, b4, _⟩ | ⟨b1, b2, b3, b4, _⟩
    · omega
    · dsimp only at a1 a3 a4 b1 b3 b4
      rw [bytes_same (a3.trans b3.symm), a1, b1, a4, b4]
/-- Another step leads where it led. -/
theorem step_other {f : Nat} {t u v : VT} {x y : PS} {k : Nat} (hg : goodT (f + 1) t) (hx : stepB x = true) (hy : stepB y = true) (hne : x ≠ y) (h : layG u t x = some v) (hk : stepT t y = some k) : ∃ k', stepT v y = some k' ∧ kidT (kidsT v) k' = kidT (kidsT t) k := by
  obtain ⟨kind, n, s, keys, kids⟩ := t
  unfold layG at h
  cases e : stepT (.mk kind n s keys kids) x with
  | some j =>
    rw [e] at h
    simp only [Option.some.injEq] at h
    subst h
    have hj : j < kids.length := stepT_lt hg (stepB_from hx) e
    refine ⟨k, by rw [step_put]; exact hk, ?_⟩
    show kidT (kids.set j u) k = kidT kids k
    rw [kid_set hj, if_neg]
    rintro rfl
    exact hne (step_inj hg hx hy e hk)
  | none =>
    rw [e] at h
    have h' : insT u x (.mk kind n s keys kids) = some v := h
    have hsx : stepTo kind keys kids.length x = none := e
    unfold stepTo at hsx
    rw [insT] at h'
    split at h'
    · rename_i hn
      split at h'
      · rename_i h6
        simp only [Option.some.injEq] at h'
        subst h'
        rcases step_says hg hy hk with ⟨a1, a2, a3, a4, a5, a6, hm, hr⟩ | ⟨a1, a2, a3, a4, a5⟩
        · have hno : hasK keys x.key = false := by
            cases e3 : hasK keys x.key
            · rfl
            · rw [if_pos hn, if_pos ⟨h6, e3⟩] at hsx; cases hsx
          have htx : textB x.key = true := by
            unfold stepB at hx
            rw [hn] at hx
            simp at hx
            exact hx.1
          have hr' := riseB_rise (rise_ins hr htx hno)
          have hp := (posK_spec (l := keys) x.key).1
          have hpk : posK keys x.key ≤ kids.length := by omega
          have hkl : k < keys.length := by
            have := a4
            unfold hasK at this
            simp only [Bool.and_eq_true, decide_eq_true_eq] at this
            omega
          obtain ⟨p, hpp⟩ : ∃ p, posK keys x.key = p := ⟨_, rfl⟩
          rw [hpp] at hr' hp hpk ⊢
          obtain ⟨k', hk'⟩ : ∃ k', (if k < p then k else k + 1) = k' := ⟨_, rfl⟩
          have hkey : keyAt (keys.insertIdx p x.key) k' = keyAt keys k := by
            rw [key_ins hp, ← hk']
            by_cases c : k < p
            · rw [if_pos c, if_pos c]
            · rw [if_neg c, if_neg (by omega), if_neg (by omega), Nat.add_sub_cancel]
          have hkl' : k' < (keys.insertIdx p x.key).length := by rw [ins_len hp, ← hk']; split <;> omega
          obtain ⟨q1, q2⟩ := has_at hr' hkl' (key := y.key) (by rw [hkey]; exact a6)
          refine ⟨k', ?_, ?_⟩
          · show stepTo kind (keys.insertIdx p x.key) (kids.insertIdx p u).length y = _
            unfold stepTo
            rw [if_pos a1, if_pos ⟨a2, q1⟩, q2]
          · show kidT (kids.insertIdx p u) k' = kidT kids k
            rw [kid_ins hpk, ← hk']
            by_cases c : k < p
            · rw [if_pos c, if_pos c]
            · rw [if_neg c, if_neg (by omega), if_neg (by omega), Nat.add_sub_cancel]
        · omega
      · cases h'
    · rename_i hn
      split at h'
      · rename_i h5
        simp only [Option.some.injEq] at h'
        subst h'
        rcases step_says hg hy hk with ⟨a1, a2, a3, a4, a5, a6, hm, hr⟩ | ⟨a1, a2, a3, a4, a5⟩
        · have := h5.1; omega
        · refine ⟨k, ?_, ?_⟩
          · show stepTo kind keys (kids.insertIdx kids.length u).length y = _
            unfold stepTo
            rw [if_neg (by rw [a1]; simp), ins_len (Nat.le_refl _), if_pos ⟨a2, by omega⟩, a4]
            simp
          · show kidT (kids.insertIdx kids.length u) k = kidT kids k
            rw [kid_ins (Nat.le_refl _), if_pos a5]
      · cases h'
theorem others_tree : ∀ (ps qs : List PS) (f : Nat) (t u v : VT), goodT f t → (∀ x ∈ ps, stepB x = true) → (∀ x ∈ qs, stepB x = true) → updT (layG u) ps t = some v → (folT qs t).isSome = true → ps.take (min ps.length qs.length) ≠ qs.take (min ps.length qs.length) → folT qs v = folT qs t
  | [], _, _, _, _, _, _, _, _, h, _, _ => by cases h
  | _ :: _, [], _, _, _, _, _, _, _, _, _, hne => by simp at hne
  | [x], y :: qs, f, t, u, v, hg, hp, hq, h, hs, hne => by
    have hxy : x ≠ y := fun e => hne (by
      have e2 : min [x].length (y :: qs).length = 1 := by simp
      rw [e2, e]; simp)
    cases f with
    | zero => exact hg.elim
    | succ f =>
      have h' : layG u t x = some v := h
      rw [folT] at hs ⊢
      rw [folT]
      cases e : stepT t y with
      | none => rw [e] at hs; cases hs
      | some k =>
        obtain ⟨k', h1, h2⟩ := step_other hg (hp x (by simp)) (hq y (by simp)) hxy h' e
        rw [h1]
        dsimp only
        rw [h2]
  | x :: x2 :: ps, y :: qs, f, t, u, v, hg, hp, hq, h, hs, hne => by
    cases f with
    | zero => exact hg.elim
    | succ f =>
      rw [updT] at h
      cases ex : stepT t x with
      | none => rw [ex] at h; cases h
      | some j =>
        rw [ex] at h
        dsimp only at h
        have hj := stepT_lt hg (stepB_from (hp x (by simp))) ex
        cases eu : updT (layG u) (x2 :: ps) (kidT (kidsT t) j) with
        | none => rw [eu] at h; cases h
        | some z =>
          rw [eu] at h
          simp only [Option.some.injEq] at h
          subst h
          rw [folT] at hs ⊢
          rw [folT, step_put]
          cases ey : stepT t y with
          | none => simp [ey] at hs
          | some k =>
            rw [ey] at hs
            dsimp only at hs ⊢
            by_cases hxy : x = y
            · subst hxy
              rw [ex] at ey
              cases ey
              obtain ⟨kind, n, s, keys, kids⟩ := t
              have hj' : j < kids.length := hj
              have e1 : kidT (kidsT (putKid j z (.mk kind n s keys kids))) j = z := by
                show kidT (kids.set j z) j = z
                rw [kid_set hj', if_pos rfl]
              rw [e1]
              refine others_tree (x2 :: ps) qs f _ u z (good_kid hg hj) (fun a ha => hp a (by simp at ha ⊢; exact .inr ha)) (fun a ha => hq a (by simp [ha])) eu hs (fun e => hne ?_)
              have e2 : min (x :: x2 :: ps).length (x :: qs).length = min (x2 :: ps).length qs.length + 1 := by simp only [List.length_cons]; omega
              rw [e2, List.take_succ_cons, List.take_succ_cons, e]
            · obtain ⟨kind, n, s, keys, kids⟩ := t
              have hj' : j < kids.length := hj
              have e1 : kidT (kidsT (putKid j z (.mk kind n s keys kids))) k = kidT (kidsT (.mk kind n s keys kids)) k := by
                show kidT (kids.set j z) k = kidT kids k
                rw [kid_set hj', if_neg]
                rintro rfl
                exact hxy (step_inj hg (hp x (by simp)) (hq y (by simp)) ex ey)
              rw [e1]
theorem others_say {vs : List VN} {ps : List PS} {ws : List VN} {q : List PS} (h : laidB vs ps ws = true) (hq : gotB vs q = true) (hne : ps.take (min ps.length q.length) ≠ q.take (min ps.length q.length)) : gotB (laidNs vs ps ws) q = true ∧ gotNs (laidNs vs ps ws) q = gotNs vs q := by
  obtain ⟨V, hlt, hns, hokV, hgV, ok1, ok2, ok3⟩ := laid_ok h
  obtain ⟨⟨_, hqp⟩, _⟩ : (okB vs = true ∧ pathB q = true) ∧ _ := by
    have h' := hq
    unfold gotB at h'
    simpa using h'
  have hg := treeV_good ok1
  have hwl : layT vs.length (treeV vs) 0 = vs := whole_lay ok1
  obtain ⟨a1, a2⟩ := got_lay hg (by rw [hwl]; exact ok1) hqp
  rw [hwl, hq] at a1
  rw [hwl] at a2
  obtain ⟨s, hs⟩ : ∃ s, folT q (treeV vs) = some s := Option.isSome_iff_exists.1 a1.symm
  obtain ⟨fa, hga, hoka, ea⟩ := a2 s hs
  have hup : updT (layG (treeV ws)) ps (treeV vs) = some V := by
    have hlt' := hlt
    unfold laidT at hlt'
    rw [if_pos (by rw [ok1, ok2, ok3]; rfl)] at hlt'
    rw [if_neg] at hlt'
    · exact hlt'
    · intro e
      apply hne
      rw [e]; simp
  have hfv : folT q V = some s := by
    rw [others_tree ps q _ _ _ V hg (steps_all ok2) (steps_all hqp) hup (by rw [hs]; rfl) hne]
    exact hs
  obtain ⟨b1, b2⟩ := got_lay hgV hokV hqp
  obtain ⟨fb, hgb, hokb, eb⟩ := b2 s hfv
  rw [← hns] at b1 eb
  rw [hfv] at b1
  exact ⟨b1, by rw [eb, ea]; exact lay_same hgb.full hga.full⟩
end Go.Proofs.Ytpakfgonemiebaa
