/-
  Plain: what is laid is got there; laid again nothing changes; what was got, laid back, changes nothing.
-/
import Derived.Test.YtpakfgonemiebaaILay
import Derived.Test.YtpakfgonemiebaaTakQ
import Derived.Test.YtpakfgonemiebaaUCel
import Derived.Test.YtpakfgonemiebaaMarkN
import Derived.Test.YtpakfgonemiebaaProg
import Derived.BigQuiet
namespace Go.Proofs.Ytpakfgonemiebaa
open Go.RowKit
set_option linter.unusedSimpArgs false
set_option linter.unusedVariables false

theorem treeOf_more {vs : List VN} (hok : okB vs = true) : ∀ (f g i : Nat), i < vs.length → i < f → f ≤ g → treeOf vs g i = treeOf vs f i := by
  intro f
  induction f with
  | zero => intro g i _ h; omega
  | succ f ih =>
    intro g i hi hf hg
    obtain ⟨g, rfl⟩ : ∃ g', g = g' + 1 := ⟨g - 1, by omega⟩
    obtain ⟨_, p2, _, _⟩ := okB_parts hok
    rw [treeOf, treeOf]
    have e : ((nodeAt vs i).kids.map fun k => treeOf vs g k.toNat) = (nodeAt vs i).kids.map fun k => treeOf vs f k.toNat := by
      refine List.map_congr_left (fun k hk => ?_)
      obtain ⟨j, hj, e⟩ := List.getElem_of_mem hk
      have hki := kidsIn_get (p2 i hi).2 hj
      have e2 : intAt (nodeAt vs i).kids j = k := by
        unfold intAt
        rw [List.getD_eq_getElem?_getD, List.getElem?_eq_getElem hj, e]; rfl
      rw [e2] at hki
      exact ih g k.toNat (by omega) (by omega) (by omega)
    rw [e]
theorem treeV_lay {f : Nat} {t : VT} (hg : goodT f t) (hok : okB (layT f t 0) = true) : treeV (layT f t 0) = t := by
  obtain ⟨vs, hvs⟩ : ∃ vs, layT f t 0 = vs := ⟨_, rfl⟩
  have htb := tree_back hg.full vs 0 (f + vs.length + 1) (by omega) (fun i hi => by rw [Nat.zero_add, hvs])
  rw [hvs, Nat.zero_add] at htb
  rw [hvs] at hok ⊢
  have p1 := (okB_parts hok).1
  unfold treeV
  rw [← treeOf_more hok vs.length (f + vs.length + 1) (vs.length - 1) (by omega) (by omega) (by omega)]
  exact htb
theorem fol_good : ∀ (ps : List PS) (f : Nat) (t s : VT), goodT f t → (∀ x ∈ ps, x.named = true ∨ 0 ≤ x.pl) → folT ps t = some s → ∃ f', goodT f' s := by
  intro ps
  induction ps with
  | nil => intro f t s hg _ h; rw [folT, Option.some.injEq] at h; subst h; exact ⟨f, hg⟩
  | cons y ps ih =>
    intro f t s hg h0 h
    cases f with
    | zero => exact hg.elim
    | succ f =>
      rw [folT] at h
      cases e : stepT t y with
      | none => rw [e] at h; cases h
      | some k =>
        rw [e] at h
        exact ih f _ s (good_kid hg (stepT_lt hg (h0 y (by simp)) e)) (fun x hx => h0 x (by simp [hx])) h
theorem put_same {t : VT} {k : Nat} (hk : k < (kidsT t).length) : putKid k (kidT (kidsT t) k) t = t := by
  obtain ⟨kind, n, s, keys, kids⟩ := t
  have hk' : k < kids.length := hk
  show VT.mk kind n s keys (kids.set k (kidT kids k)) = _
  have : kids.set k (kidT kids k) = kids := by
    unfold kidT
    rw [List.getD_eq_getElem?_getD, List.getElem?_eq_getElem hk']
    simp
  rw [this]
theorem plug_same : ∀ (ps : List PS) (f : Nat) (t s : VT), goodT f t → (∀ x ∈ ps, x.named = true ∨ 0 ≤ x.pl) → folT ps t = some s → plugT ps t s = t := by
  intro ps
  induction ps with
  | nil => intro f t s _ _ h; rw [folT, Option.some.injEq] at h; subst h; rfl
  | cons y ps ih =>
    intro f t s hg h0 h
    cases f with
    | zero => exact hg.elim
    | succ f =>
      rw [folT] at h
      show (match stepT t y with | none => t | some j => putKid j (plugT ps (kidT (kidsT t) j) s) t) = t
      cases e : stepT t y with
      | none => rfl
      | some k =>
        rw [e] at h
        have hk := stepT_lt hg (h0 y (by simp)) e
        dsimp only
        rw [ih f _ s (good_kid hg hk) (fun x hx => h0 x (by simp [hx])) h]
        exact put_same hk
theorem pos_ins {keys : List ByteArray} {key : ByteArray} : posK (keys.insertIdx (posK keys key) key) key = posK keys key := by
  obtain ⟨p1, p2, p3⟩ := posK_spec (l := keys) key
  obtain ⟨p, hp⟩ : ∃ p, posK keys key = p := ⟨_, rfl⟩
  rw [hp] at p1 p2 p3 ⊢
  obtain ⟨q1, q2, q3⟩ := posK_spec (l := keys.insertIdx p key) key
  obtain ⟨q, hq⟩ : ∃ q, posK (keys.insertIdx p key) key = q := ⟨_, rfl⟩
  rw [hq] at q1 q2 q3 ⊢
  rw [ins_len p1] at q1 q3
  rcases Nat.lt_trichotomy q p with h | h | h
  · have h1 := q3 (by omega)
    rw [key_ins p1, if_pos h, p2 q h] at h1
    cases h1
  · exact h
  · have h1 := q2 p h
    rw [key_ins p1, if_neg (by omega), if_pos rfl, less_irr] at h1
    cases h1
/-- What is laid by a step is there. -/
theorem lay_hit {f : Nat} {t u v : VT} {x : PS} (hg : goodT (f + 1) t) (hx : stepB x = true) (h : layG u t x = some v) : ∃ k, stepT v x = some k ∧ k < (kidsT v).length ∧ kidT (kidsT v) k = u := by
  obtain ⟨kind, n, s, keys, kids⟩ := t
  unfold layG at h
  cases e : stepT (.mk kind n s keys kids) x with
  | some k =>
    rw [e] at h
    simp only [Option.some.injEq] at h
    subst h
    have hk : k < kids.length := stepT_lt hg (stepB_from hx) e
    refine ⟨k, by rw [step_put]; exact e, ?_, ?_⟩
    · show k < (kids.set k u).length
      rw [List.length_set]; exact hk
    · show kidT (kids.set k u) k = u
      rw [kid_set hk, if_pos rfl]
  | none =>
    rw [e] at h
    have hs' : stepTo kind keys kids.length x = none := e
    unfold stepTo at hs'
    have h' : insT u x (.mk kind n s keys kids) = some v := h
    rw [insT] at h'
    split at h'
    · rename_i hn
      split at h'
      · rename_i h6
        simp only [Option.some.injEq] at h'
        subst h'
        rcases nodeT_says hg.1 with ⟨e2, _⟩ | ⟨e2, _⟩ | ⟨e2, _⟩ | ⟨e2, _⟩ | ⟨e2, _⟩ | ⟨_, a1, a2, hm, hr⟩
        · omega
        · omega
        · omega
        · omega
        · omega
        · have hp := (posK_spec (l := keys) x.key).1
          have hpk : posK keys x.key ≤ kids.length := by omega
          refine ⟨posK keys x.key, ?_, ?_, ?_⟩
          · show stepTo kind (keys.insertIdx (posK keys x.key) x.key) (kids.insertIdx (posK keys x.key) u).length x = _
            unfold stepTo
            have hh : hasK (keys.insertIdx (posK keys x.key) x.key) x.key = true := by
              unfold hasK
              rw [pos_ins, ins_len hp, key_ins hp, if_neg (by omega), if_pos rfl]
              simp; omega
            rw [if_pos hn, if_pos ⟨h6, hh⟩, pos_ins]
          · show posK keys x.key < (kids.insertIdx (posK keys x.key) u).length
            rw [ins_len hpk]; omega
          · show kidT (kids.insertIdx (posK keys x.key) u) (posK keys x.key) = u
            rw [kid_ins hpk, if_neg (by omega), if_pos rfl]
      · cases h'
    · rename_i hn
      split at h'
      · rename_i h5
        simp only [Option.some.injEq] at h'
        subst h'
        refine ⟨kids.length, ?_, ?_, ?_⟩
        · show stepTo kind keys (kids.insertIdx kids.length u).length x = _
          unfold stepTo
          rw [if_neg hn, ins_len (Nat.le_refl _), if_pos ⟨h5.1, by have := h5.2; omega⟩, h5.2]
          simp
        · show kids.length < (kids.insertIdx kids.length u).length
          rw [ins_len (Nat.le_refl _)]; omega
        · show kidT (kids.insertIdx kids.length u) kids.length = u
          rw [kid_ins (Nat.le_refl _), if_neg (by omega), if_pos rfl]
      · cases h'
theorem lay_again {t u : VT} {x : PS} {k : Nat} (h : stepT t x = some k) (hk : k < (kidsT t).length) (hu : kidT (kidsT t) k = u) : layG u t x = some t := by
  unfold layG
  rw [h]
  dsimp only
  rw [← hu, put_same hk]
/-- The tree that is laid, followed along the path. -/
theorem laid_fol {f : Nat} {t u v : VT} {ps : List PS} (hg : goodT f t) (hps : ∀ x ∈ ps, stepB x = true) (hne : ps ≠ []) (h : updT (layG u) ps t = some v) : folT ps v = some u ∧ (∀ f', goodT f' v → updT (layG u) ps v = some v) := by
  rcases List.eq_nil_or_concat ps with rfl | ⟨qs, x, rfl⟩
  · exact absurd rfl hne
  rw [List.concat_eq_append] at *
  have hx := hps x (by simp)
  have hq0 : ∀ z ∈ qs, z.named = true ∨ 0 ≤ z.pl := fun z hz => stepB_from (hps z (by simp [hz]))
  rw [updT_snoc] at h
  cases e1 : folT qs t with
  | none => rw [e1] at h; cases h
  | some s =>
    rw [e1] at h
    dsimp only at h
    cases e2 : layG u s x with
    | none => rw [e2] at h; cases h
    | some s' =>
      rw [e2] at h
      simp only [Option.some.injEq] at h
      subst h
      obtain ⟨fs, hgs⟩ := fol_good qs f t s hg hq0 e1
      cases fs with
      | zero => exact hgs.elim
      | succ fs =>
      obtain ⟨k, h1, h2, h3⟩ := lay_hit hgs hx e2
      have hf := fol_plug qs f t s s' hg hq0 e1
      refine ⟨?_, fun f' hg' => ?_⟩
      · rw [folT_snoc, hf]
        dsimp only
        rw [h1]
        dsimp only
        rw [h3]
      · rw [updT_snoc, hf]
        dsimp only
        rw [lay_again h1 h2 h3]
        dsimp only
        rw [plug_same qs f' _ s' hg' hq0 hf]
theorem laid_ok {vs : List VN} {ps : List PS} {ws : List VN} (h : laidB vs ps ws = true) : ∃ V, laidT vs ps ws = some V ∧ laidNs vs ps ws = layT (fuelL vs ws) V 0 ∧ okB (layT (fuelL vs ws) V 0) = true ∧ goodT (fuelL vs ws) V ∧ okB vs = true ∧ pathB ps = true ∧ okB ws = true := by
  cases e : laidT vs ps ws with
  | none => rw [(laid_no e).1] at h; cases h
  | some V =>
    obtain ⟨e1, e2⟩ := laid_yes e
    rw [e1] at h
    refine ⟨V, rfl, ?_, h, (laid_facts e).1, ?_⟩
    · rw [e2]; unfold rightNs; rw [h]; rfl
    · unfold laidT at e
      split at e
      · rename_i hok
        obtain ⟨⟨ok1, ok2⟩, ok3⟩ : (okB vs = true ∧ pathB ps = true) ∧ okB ws = true := by simpa using hok
        exact ⟨ok1, ok2, ok3⟩
      · cases e
theorem laid_mk {vs : List VN} {ps : List PS} {ws : List VN} {V : VT} {f : Nat} (h : laidT vs ps ws = some V) (hg : goodT f V) (hok : okB (layT f V 0) = true) : laidB vs ps ws = true ∧ laidNs vs ps ws = layT f V 0 := by
  obtain ⟨e1, e2⟩ := laid_yes h
  have e3 : layT (fuelL vs ws) V 0 = layT f V 0 := lay_same (laid_facts h).1.full hg.full
  rw [e3] at e1 e2
  refine ⟨by rw [e1]; exact hok, ?_⟩
  rw [e2]; unfold rightNs; rw [hok]; rfl
/-- What was got, laid back, changes nothing. -/
theorem got_laid {vs : List VN} {ps : List PS} (h : gotB vs ps = true) : laidB vs ps (gotNs vs ps) = true ∧ laidNs vs ps (gotNs vs ps) = vs := by
  obtain ⟨⟨hok, hps⟩, _⟩ : (okB vs = true ∧ pathB ps = true) ∧ _ := by
    have h' := h
    unfold gotB at h'
    simpa using h'
  have hg := treeV_good hok
  have hwl : layT vs.length (treeV vs) 0 = vs := whole_lay hok
  obtain ⟨a1, a2⟩ := got_lay hg (by rw [hwl]; exact hok) hps
  rw [hwl] at a1 a2
  rw [h] at a1
  obtain ⟨s, hs⟩ : ∃ s, folT ps (treeV vs) = some s := Option.isSome_iff_exists.1 a1.symm
  obtain ⟨f', hg', hok', e⟩ := a2 s hs
  have hts : treeV (gotNs vs ps) = s := by rw [e]; exact treeV_lay hg' hok'
  have hlt : laidT vs ps (gotNs vs ps) = some (treeV vs) := by
    unfold laidT
    rw [if_pos (by rw [hok, hps, e, hok']; rfl), hts]
    have h0 := steps_mem hps
    rcases List.eq_nil_or_concat ps with rfl | ⟨qs, x, rfl⟩
    · show some s = some (treeV vs)
      exact hs.symm
    · rw [List.concat_eq_append] at *
      rw [if_neg (by simp), updT_snoc]
      rw [folT_snoc] at hs
      cases e1 : folT qs (treeV vs) with
      | none => rw [e1] at hs; cases hs
      | some s0 =>
        rw [e1] at hs
        dsimp only at hs ⊢
        have hq0 : ∀ z ∈ qs, z.named = true ∨ 0 ≤ z.pl := fun z hz => h0 z (by simp [hz])
        obtain ⟨fs, hgs⟩ := fol_good qs _ _ s0 hg hq0 e1
        cases e2 : stepT s0 x with
        | none => rw [e2] at hs; cases hs
        | some k =>
          rw [e2] at hs
          simp only [Option.some.injEq] at hs
          rw [lay_again e2 (stepT_lt hgs (h0 x (by simp)) e2) hs]
          dsimp only
          rw [plug_same qs _ _ s0 hg hq0 e1]
  have := laid_mk hlt hg (by rw [hwl]; exact hok)
  rw [hwl] at this
  exact this
/-- What is laid is got there, and laid again nothing changes. -/
theorem laid_got {vs : List VN} {ps : List PS} {ws : List VN} (h : laidB vs ps ws = true) : gotB (laidNs vs ps ws) ps = true ∧ gotNs (laidNs vs ps ws) ps = ws ∧ laidB (laidNs vs ps ws) ps ws = true ∧ laidNs (laidNs vs ps ws) ps ws = laidNs vs ps ws ∧ okB (laidNs vs ps ws) = true := by
  obtain ⟨V, hlt, hns, hokV, hgV, ok1, ok2, ok3⟩ := laid_ok h
  have hfol : folT ps V = some (treeV ws) ∧ laidT (laidNs vs ps ws) ps ws = some V := by
    have hlt' := hlt
    unfold laidT at hlt' ⊢
    rw [if_pos (by rw [ok1, ok2, ok3]; rfl)] at hlt'
    rw [hns, if_pos (by rw [hokV, ok2, ok3]; rfl), treeV_lay hgV hokV]
    by_cases e : ps.length = 0
    · rw [if_pos e] at hlt' ⊢
      obtain rfl := List.eq_nil_of_length_eq_zero e
      refine ⟨?_, hlt'⟩
      rw [folT]; exact hlt'.symm
    · rw [if_neg e] at hlt' ⊢
      obtain ⟨g1, g2⟩ := laid_fol (treeV_good ok1) (steps_all ok2) (fun h => e (by rw [h]; rfl)) hlt'
      exact ⟨g1, g2 _ hgV⟩
  obtain ⟨a1, a2⟩ := got_lay hgV hokV ok2
  obtain ⟨f', hg', hok', e⟩ := a2 _ hfol.1
  rw [← hns] at a1 e
  rw [hfol.1] at a1
  refine ⟨a1, ?_, ?_⟩
  · rw [e, lay_same hg'.full (treeV_good ok3).full]
    exact whole_lay ok3
  · have := laid_mk hfol.2 hgV hokV
    rw [← hns] at this
    exact ⟨this.1, this.2, by rw [hns]; exact hokV⟩
end Go.Proofs.Ytpakfgonemiebaa

/-
  The reader of codes from which values are drawn: what each draw may answer, and that it turns nothing but its own place.
-/
namespace Go.Proofs.Ytpakfgonemiebaa
open Go.RowKit
set_option linter.unusedSimpArgs false
set_option linter.unusedVariables false

/-- A reader in block rb, of n bytes, at place p. -/
structure RdAt (w : World) (rb n p : Nat) : Prop where
  lt : rb < w.heap.size
  src : ∃ a cap, w.cell? ⟨rb, 0, none⟩ = some (.slice a n cap) ∧ (0 < n → ∃ b o, a = some ⟨b, o, none⟩ ∧ b < rb ∧ ∀ i, i < n → ∃ x : Nat, x < 256 ∧ w.cell? ⟨b, o + i, none⟩ = some (.int .u8 x))
  place : w.cell? ⟨rb, 1, none⟩ = some (.int .i64 p)
  le : p ≤ n
  few : n ≤ 1048576
  free : w.frozen? ⟨rb, 1, none⟩ = false

/-- What a draw leaves: the reader at some place, nothing else turned. -/
structure Drawn (rb n : Nat) (w w' : World) : Prop where
  rd : ∃ p, RdAt w' rb n p
  only : Only (fun c => c = rb) w w'
  below : Below rb w w'

theorem frozen_same {w w' : World} {b o : Nat} (h : w'.heap[b]? = w.heap[b]?) : w'.frozen? ⟨b, o, none⟩ = w.frozen? ⟨b, o, none⟩ := by
  unfold World.frozen?
  rw [show w'.heap[(⟨b, o, none⟩ : Addr).block]? = w.heap[(⟨b, o, none⟩ : Addr).block]? from h]

theorem RdAt.below {w w' : World} {rb n p : Nat} (h : RdAt w rb n p) (hb : Below w.heap.size w w') : RdAt w' rb n p := by
  have hl := h.lt
  refine ⟨by have := hb.size; omega, ?_, (below_cell hb hl).trans h.place, h.le, h.few, (frozen_same (hb.block rb hl)).trans h.free⟩
  obtain ⟨a, cap, h1, h2⟩ := h.src
  refine ⟨a, cap, (below_cell hb hl).trans h1, fun hp => ?_⟩
  obtain ⟨b, o, e, hlt, hx⟩ := h2 hp
  exact ⟨b, o, e, hlt, fun i hi => by obtain ⟨x, h3, h4⟩ := hx i hi; exact ⟨x, h3, (below_cell hb (by omega)).trans h4⟩⟩

theorem RdAt.step {w : World} {rb n p : Nat} (h : RdAt w rb n p) (hp : p < n) : RdAt (w.setCell ⟨rb, 1, none⟩ (.int .i64 ((p + 1 : Nat) : Int))) rb n (p + 1) := by
  refine ⟨by simpa using h.lt, ?_, World.cell?_setCell_same _ _ _ h.place, by omega, h.few, by rw [World.frozen?_setCell]; exact h.free⟩
  obtain ⟨a, cap, h1, h2⟩ := h.src
  refine ⟨a, cap, by rw [World.cell?_setCell_other (h := by simp)]; exact h1, fun hp => ?_⟩
  obtain ⟨b, o, e, hlt, hx⟩ := h2 hp
  refine ⟨b, o, e, hlt, fun i hi => ?_⟩
  obtain ⟨x, h3, h4⟩ := hx i hi
  exact ⟨x, h3, by rw [World.cell?_setCell_other (h := by intro e2; injection e2 with e3; omega)]; exact h4⟩

theorem Drawn.refl {rb n p : Nat} {w : World} (h : RdAt w rb n p) : Drawn rb n w w := ⟨⟨p, h⟩, Only.refl _ _, Below.refl _ _⟩
theorem Drawn.trans {rb n : Nat} {a b c : World} (h : Drawn rb n a b) (k : Drawn rb n b c) : Drawn rb n a c := ⟨k.rd, h.only.trans k.only, h.below.trans k.below⟩
theorem Drawn.next {rb n : Nat} {a b c : World} (h : Drawn rb n a b) (k : Below b.heap.size b c) : Drawn rb n a c := by
  obtain ⟨p, hp⟩ := h.rd
  exact ⟨⟨p, hp.below k⟩, h.only.trans (Only.of_below k), h.below.trans (k.mono (Nat.le_of_lt hp.lt))⟩

set_option maxRecDepth 100000 in
set_option maxHeartbeats 1600000 in
theorem rdNext_any (rb n p : Nat) (w : World) (h : RdAt w rb n p) :
    Calls Try.prog 103 #[.pointer (some ⟨rb, 0, none⟩)] w fun e w' => (∃ x : Nat, x < 256 ∧ e = .returned (.int .i64 x)) ∧ Drawn rb n w w' := by
  have H := hideIt h
  obtain ⟨a, cap, h1, h2⟩ := h.src
  have h3 := h.place
  have h4 := h.le
  have h5 := h.few
  have h6 := h.lt
  have HS := hideIt h2
  clear h h2
  by_cases hp : p < n
  · obtain ⟨b, o, rfl, hlt, hx⟩ := HS.out (by omega)
    obtain ⟨x, hx1, hx2⟩ := hx p hp
    have hfz := H.out.free
    clear hx
    go_enter Try.func103, Try.ntmps103
    go_wp2_with fail
    go_quiet (fail)
    have hd1 := below_drewN (Below.refl w.heap.size w) nq
    have HR1 := hideIt (H.out.below hd1)
    have k1 : (w.drewN nq).cell? ⟨rb, 1, none⟩ = some (.int .i64 p) := HR1.out.place
    have k2 : (w.drewN nq).frozen? ⟨rb, 1, none⟩ = false := HR1.out.free
    have k3 := (below_cell hd1 (by omega)).trans h1
    have k4 := (below_cell hd1 (by omega)).trans hx2
    have HD1 := hideIt hd1
    generalize w.drewN nq = W1 at hd1 HR1 HD1 k1 k2 k3 k4 ⊢
    clear nq h3 h1 hx2 hfz hd1
    have z1 := HD1.out.size
    go_wp2_with fail
    have HR2 := hideIt (HR1.out.step hp)
    have l1 : (W1.setCell ⟨rb, 1, none⟩ (.int .i64 ((p : Int) + 1))).cell? ⟨rb, 1, none⟩ = some (.int .i64 ((p : Int) + 1)) := World.cell?_setCell_same _ _ _ k1
    have l3 : (W1.setCell ⟨rb, 1, none⟩ (.int .i64 ((p : Int) + 1))).cell? ⟨rb, 0, none⟩ = some (.slice (some ⟨b, o, none⟩) n cap) := by rw [World.cell?_setCell_other (h := by simp)]; exact k3
    have l4 : (W1.setCell ⟨rb, 1, none⟩ (.int .i64 ((p : Int) + 1))).cell? ⟨b, o + p, none⟩ = some (.int .u8 x) := by rw [World.cell?_setCell_other (h := by intro e2; injection e2 with e3; omega)]; exact k4
    have HDR : Hid (Drawn rb n w (W1.setCell ⟨rb, 1, none⟩ (.int .i64 ((p : Int) + 1)))) := by
      refine ⟨⟨p + 1, HR2.out⟩, (Only.of_below HD1.out).trans (Only.set (P := fun c => c = rb) _ rfl _), (HD1.out.mono (Nat.le_of_lt h6)).setCell (Nat.le_refl _) _⟩
    have p1 : (p : Int) + 1 - 1 = (p : Int) := by omega
    clear HR2
    generalize W1.setCell ⟨rb, 1, none⟩ (.int .i64 ((p : Int) + 1)) = W2 at l1 l3 l4 HDR ⊢
    clear k1 k2 k3 k4 HD1 HR1
    go_quiet (fail)
    go_wp2_with fail
    go_ret
    exact ⟨⟨x, hx1, by simp⟩, HDR.out.next (below_drewN (Below.refl _ _) nq)⟩
  · have hnp : ¬ ((p : Int) < (n : Int)) := by omega
    go_enter Try.func103, Try.ntmps103
    go_wp2_with fail
    go_quiet (fail)
    go_wp2_with fail
    go_ret
    exact ⟨⟨0, by omega, rfl⟩, (Drawn.refl H.out).next (below_drewN (Below.refl _ _) nq)⟩

/-! ### Draws of numbers below a bound, and of yes or no -/
set_option maxRecDepth 100000 in
set_option maxHeartbeats 1600000 in
theorem rdBelow_any (rb n m : Nat) (w : World) (h : ∃ p, RdAt w rb n p) (hm : 1 ≤ m) (hM : m ≤ 1048577) :
    Calls Try.prog 66 #[.pointer (some ⟨rb, 0, none⟩), .int .i64 m] w fun e w' => (∃ x : Nat, x < m ∧ e = .returned (.int .i64 x)) ∧ Drawn rb n w w' := by
  obtain ⟨p, h⟩ := h
  have H := hideIt h
  clear h
  by_cases h1 : m ≤ 1
  · have h1' : (m : Int) ≤ 1 := by omega
    go_enter Try.func66, Try.ntmps66
    go_wp2_with fail
    go_ret
    exact ⟨⟨0, by omega, rfl⟩, Drawn.refl H.out⟩
  · have h1' : ¬ (m : Int) ≤ 1 := by omega
    have hm0 : ¬ (m : Int) = 0 := by omega
    have hmb : ((m : Int) == 0) = false := by simp; omega
    by_cases h2 : m ≤ 256
    · have h2' : (m : Int) ≤ 256 := by omega
      go_enter Try.func66, Try.ntmps66
      go_wp2_with fail
      refine (rdNext_any rb n p w H.out).mono ?_
      rintro e w1 ⟨⟨x, hx, rfl⟩, hd⟩
      have HD := hideIt hd
      clear hd
      go_wp2_with fail
      go_ret
      exact ⟨⟨x % m, Nat.mod_lt _ (by omega), by simp⟩, HD.out⟩
    · have h2' : ¬ (m : Int) ≤ 256 := by omega
      go_enter Try.func66, Try.ntmps66
      go_wp2_with fail
      refine (rdNext_any rb n p w H.out).mono ?_
      rintro e w1 ⟨⟨x, hx, rfl⟩, hd⟩
      have HD := hideIt hd
      obtain ⟨p2, hp2⟩ := hd.rd
      have H2 := hideIt hp2
      clear hd hp2
      go_wp2_with fail
      refine (rdNext_any rb n p2 w1 H2.out).mono ?_
      rintro e w2 ⟨⟨y, hy, rfl⟩, hd2⟩
      have HD2 := hideIt (HD.out.trans hd2)
      clear hd2
      go_wp2_with fail
      go_ret
      exact ⟨⟨(x * 256 + y) % m, Nat.mod_lt _ (by omega), by simp⟩, HD2.out⟩

set_option maxRecDepth 100000 in
set_option maxHeartbeats 1600000 in
theorem rdOnce_any (rb n m : Nat) (w : World) (h : ∃ p, RdAt w rb n p) (hm : 1 ≤ m) (hM : m ≤ 1048577) :
    Calls Try.prog 65 #[.pointer (some ⟨rb, 0, none⟩), .int .i64 m] w fun e w' => (∃ x : Bool, e = .returned (.bool x)) ∧ Drawn rb n w w' := by
  have H := hideIt h
  clear h
  go_enter Try.func65, Try.ntmps65
  go_wp2_with fail
  refine (rdBelow_any rb n m w H.out hm hM).mono ?_
  rintro e w1 ⟨⟨x, hx, rfl⟩, hd⟩
  have HD := hideIt hd
  clear hd
  go_wp2_with fail
  go_ret
  exact ⟨⟨_, rfl⟩, HD.out⟩
end Go.Proofs.Ytpakfgonemiebaa
