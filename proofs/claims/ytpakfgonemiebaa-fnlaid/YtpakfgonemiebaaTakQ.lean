/-
  The specification's Laid.
-/
import Derived.Test.YtpakfgonemiebaaSLay
import Derived.Test.YtpakfgonemiebaaWthP
import Derived.Test.YtpakfgonemiebaaUFol
namespace Go.Proofs.Ytpakfgonemiebaa
open Go.RowKit
set_option linter.unusedSimpArgs false
set_option linter.unusedVariables false

set_option maxHeartbeats 800000 in
theorem l1Copy_ok (B : Nat) (v : Value) (vs : List VN) (w : World) (h : NodesAt B w v vs) (hok : okB vs = true) (hB : B ≤ w.heap.size) :
    Calls Try.prog 45 #[v] w fun e w' => ∃ r KV IV, e = .returned r ∧ Nest w.heap.size w' r vs KV IV ∧ Below w.heap.size w w' := by
  have H := hideIt h
  have HNR := hideIt ((near_of (L := fun _ => vs) (m := 1) (fun _ _ => hok)) 0 (by omega)).2
  obtain ⟨_, a, cap, rfl, _⟩ := h
  have hl : vs.length ≤ 80 := (okB_parts hok).1.2
  go_enter Try.func45, Try.ntmps45
  go_wp2_with fail
  refine (l1Add_any w.heap.size w.heap.size (.slice none 0 0) _ [] vs (fun _ => undef) (fun _ => undef) w (Nest.nil _ _ _ _) (NodesAt.wide H.out hB) (Nat.le_refl _) (Nat.le_refl _) (by simp; omega) HNR.out).mono ?_
  rintro e w2 ⟨r, KV, IV, rfl, hl2⟩
  have hb : Below w.heap.size w w2 := (Below.refl _ _).grown hl2.2.1 (Nat.le_refl _) (fun k hk => by simp [Value.ownBlock] at hk)
  have hn := hl2.1
  rw [List.nil_append] at hn
  have e0 : vs.map (shiftN (([] : List VN).length : Int)) = vs := by
    have : (fun x => shiftN (([] : List VN).length : Int) x) = id := by funext x; exact shift_zero x
    show vs.map (fun x => shiftN (([] : List VN).length : Int) x) = vs
    rw [this]; simp
  rw [e0] at hn
  have HN := hideIt hn
  have HB := hideIt hb
  obtain ⟨ar, cr, er⟩ := own_slice hn.row
  obtain ⟨M, hM⟩ : ∃ M, vs.length = M := ⟨_, rfl⟩
  rw [hM] at er
  subst er
  clear hl2 hn hb hM e0
  go_wp2_with fail
  go_ret
  exact ⟨_, KV, IV, rfl, HN.out, HB.out⟩

set_option maxRecDepth 100000 in
set_option maxHeartbeats 3200000 in
theorem specLaid_any (B : Nat) (v u z : Value) (vs : List VN) (ps : List PS) (ws : List VN) (w : World) (h : NodesAt B w v vs) (hu : StepsAt B w u ps) (hcu : ∀ a n c, u = .slice a n c → n ≤ c) (hz : NodesAt B w z ws) (hB : B ≤ w.heap.size) :
    Calls Try.prog 11 #[v, u, z] w fun e w' => ∃ r base KV IV, e = .returned (.tuple #[r, .bool (laidB vs ps ws)]) ∧ w.heap.size ≤ base ∧ Nest base w' r (laidNs vs ps ws) KV IV ∧ Below w.heap.size w w' := by
  have HV := hideIt h
  have HU := hideIt hu
  have HZ := hideIt hz
  obtain ⟨_, a, cap, rfl, _⟩ := h
  obtain ⟨_, _, au, cu, rfl, _⟩ := hu
  obtain ⟨_, az, cz, rfl, _⟩ := hz
  have hcap : ps.length ≤ cu := hcu _ _ _ rfl
  clear hcu
  have HNO : Hid ((okB vs && pathB ps && okB ws) = false → laidB vs ps ws = false ∧ laidNs vs ps ws = []) := fun e => laid_no (by unfold laidT; rw [e]; rfl)
  have HYES : Hid ((okB vs && pathB ps && okB ws) = true → laidT vs ps ws = (if ps.length = 0 then some (treeV ws) else updT (layG (treeV ws)) ps (treeV vs))) := fun e => by unfold laidT; rw [if_pos e]
  have HTN : Hid (laidT vs ps ws = none → laidB vs ps ws = false ∧ laidNs vs ps ws = []) := laid_no
  have HTY : Hid (∀ u, laidT vs ps ws = some u → (laidB vs ps ws = okB (layT (fuelL vs ws) u 0) ∧ laidNs vs ps ws = rightNs (layT (fuelL vs ws) u 0)) ∧ goodT (fuelL vs ws) u ∧ (layT (fuelL vs ws) u 0).length ≤ 160) := fun u hu => ⟨laid_yes hu, laid_facts hu⟩
  obtain ⟨LB, hLB⟩ : ∃ LB, laidB vs ps ws = LB := ⟨_, rfl⟩
  obtain ⟨LN, hLN⟩ : ∃ LN, laidNs vs ps ws = LN := ⟨_, rfl⟩
  obtain ⟨LT, hLT⟩ : ∃ LT, laidT vs ps ws = LT := ⟨_, rfl⟩
  rw [hLB, hLN] at HNO
  rw [hLB, hLN, hLT] at HTN HTY
  rw [hLT] at HYES
  rw [hLB, hLN]
  clear hLB hLN hLT
  go_enter Try.func11, Try.ntmps11
  go_wp2_with fail
  refine (specOk_any B _ vs _ HV.out hB).mono ?_
  rintro e w1 ⟨rfl, hb1⟩
  have z1 := hb1.size
  cases ok1 : okB vs
  · obtain ⟨n1, n2⟩ := HNO.out (by rw [ok1]; rfl)
    have HN1 := hideIt n1
    have HN2 := hideIt n2
    clear n1 n2
    go_wp2_with fail
    go_ret2
    exact ⟨.slice none 0 0, w.heap.size, fun _ => undef, fun _ => undef, by rw [HN1.out]; rfl, Nat.le_refl _, by rw [HN2.out]; exact Nest.nil _ _ _ _, hb1⟩
  go_wp2_with fail
  refine (specPathOk_any B _ ps _ (HU.out.below (hb1.mono hB)) (by omega)).mono ?_
  rintro e w2 ⟨rfl, hb2⟩
  have z2 := hb2.size
  have HB2 := hideIt (hb1.trans (hb2.mono z1))
  clear hb1 hb2
  cases ok2 : pathB ps
  · obtain ⟨n1, n2⟩ := HNO.out (by rw [ok1, ok2]; rfl)
    have HN1 := hideIt n1
    have HN2 := hideIt n2
    clear n1 n2
    go_wp2_with fail
    go_ret2
    exact ⟨.slice none 0 0, w.heap.size, fun _ => undef, fun _ => undef, by rw [HN1.out]; rfl, Nat.le_refl _, by rw [HN2.out]; exact Nest.nil _ _ _ _, HB2.out⟩
  go_wp2_with fail
  refine (specOk_any B _ ws _ (HZ.out.below (HB2.out.mono hB)) (by omega)).mono ?_
  rintro e w3 ⟨rfl, hb3⟩
  have z3 := hb3.size
  have HB3 := hideIt (HB2.out.trans (hb3.mono (by omega)))
  clear hb3
  cases ok3 : okB ws
  · obtain ⟨n1, n2⟩ := HNO.out (by rw [ok1, ok2, ok3]; rfl)
    have HN1 := hideIt n1
    have HN2 := hideIt n2
    clear n1 n2
    go_wp2_with fail
    go_ret2
    exact ⟨.slice none 0 0, w.heap.size, fun _ => undef, fun _ => undef, by rw [HN1.out]; rfl, Nat.le_refl _, by rw [HN2.out]; exact Nest.nil _ _ _ _, HB3.out⟩
  have HLT := hideIt (HYES.out (by rw [ok1, ok2, ok3]; rfl))
  have hul2 := path_10 ok2
  have HZ3 := hideIt (HZ.out.below (HB3.out.mono hB))
  have hFV : vs.length ≤ fuelL vs ws := by unfold fuelL; omega
  have hFW : ws.length + 10 ≤ fuelL vs ws := by unfold fuelL; omega
  have HLAYV : Hid (layT (fuelL vs ws) (treeV vs) 0 = vs) := by rw [Hid, layT_more (treeV_good ok1).full hFV 0]; exact whole_lay ok1
  have HLAYW : Hid (layT (fuelL vs ws) (treeV ws) 0 = ws) := by rw [Hid, layT_more (treeV_good ok3).full (by omega) 0]; exact whole_lay ok3
  have HWITH := hideIt (fun (hne : ps ≠ []) => l6With_lay (treeV ws) ws.length ws (treeV_good ok3) (whole_lay ok3) ok3 ps (fuelL vs ws) (treeV vs) B (.slice a vs.length cap) (.slice az ws.length cz) au cu w3 hne (goodT_more (treeV_good ok1) hFV) (by rw [HLAYV.out]; exact ok1) (by rw [HLAYV.out]; exact HV.out.below (HB3.out.mono hB)) HZ3.out (HU.out.below (HB3.out.mono hB)) hcap (steps_all ok2) hul2 (by omega) (by omega))
  have HOKW := hideIt ok3
  have hw80 := (okB_parts ok3).1
  obtain ⟨FF, hFF⟩ : ∃ FF, fuelL vs ws = FF := ⟨_, rfl⟩
  rw [hFF] at HTY HLAYW HWITH
  obtain ⟨N, hN⟩ : ∃ N, ps.length = N := ⟨_, rfl⟩
  have HNPS := hideIt hN
  rw [hN] at HWITH HLT ⊢
  obtain ⟨NZ, hNZ⟩ : ∃ NZ, ws.length = NZ := ⟨_, rfl⟩
  rw [hNZ] at HWITH HZ3 hw80 ⊢
  clear hN hcap hul2 ok1 ok2 ok3 HU HYES HNO HLAYV hFV hFW hFF hNZ HZ
  by_cases hN0 : N = 0
  · subst hN0
    have HT : Hid (LT = some (treeV ws)) := by rw [Hid, HLT.out, if_pos rfl]
    obtain ⟨⟨n1, n2⟩, _⟩ := HTY.out _ HT.out
    rw [HLAYW.out, HOKW.out] at n1
    have n3 : LN = ws := by rw [n2, HLAYW.out]; unfold rightNs; rw [HOKW.out]; rfl
    have HN1 := hideIt n1
    have HN3 := hideIt n3
    have HNIL := hideIt (l6With_nil (.slice a vs.length cap) (.slice az NZ cz) (.bool false) au cu az NZ cz rfl w3)
    clear n1 n2 n3
    go_wp2_with fail
    refine HNIL.out.mono ?_
    rintro e w4 ⟨rfl, rfl⟩
    go_wp2_with fail
    refine (specOk_any B _ ws _ HZ3.out (by omega)).mono ?_
    rintro e w4 ⟨rfl, hb4⟩
    rw [HOKW.out]
    have z4 := hb4.size
    have HB4 := hideIt (HB3.out.trans (hb4.mono (by omega)))
    have HC := hideIt (l1Copy_ok B (.slice az NZ cz) ws w4 (HZ3.out.below (hb4.mono (by omega))) HOKW.out (by omega))
    clear hb4
    go_wp2_with fail
    refine HC.out.mono ?_
    rintro e w5 ⟨r, KV, IV, rfl, hn5, hb5⟩
    rw [← HN3.out] at hn5
    have HN5 := hideIt hn5
    obtain ⟨ar, cr, er⟩ := own_slice hn5.row
    obtain ⟨NN, hNN⟩ : ∃ N, LN.length = N := ⟨_, rfl⟩
    rw [hNN] at er
    subst er
    have HB5 := hideIt (HB4.out.trans (hb5.mono (by omega)))
    clear hn5 hNN hb5
    go_wp2_with fail
    go_ret2
    exact ⟨_, w4.heap.size, KV, IV, by rw [HN1.out]; rfl, by omega, HN5.out, HB5.out⟩
  · have HW := hideIt (HWITH.out (fun e => hN0 (by rw [← HNPS.out, e]; rfl)))
    have HT : Hid (LT = updT (layG (treeV ws)) ps (treeV vs)) := by rw [Hid, HLT.out, if_neg hN0]
    rw [← HT.out] at HW
    clear HWITH
    go_wp2_with fail
    refine HW.out.mono ?_
    rintro e w4 ⟨r, KV, IV, rfl, hn4, hb4⟩
    have z4 := hb4.size
    have HB4 := hideIt (HB3.out.trans (hb4.mono (by omega)))
    have HN4 := hideIt hn4
    obtain ⟨ar, cr, er⟩ := own_slice hn4.row
    obtain ⟨NN, hNN⟩ : ∃ N, (upN FF LT).length = N := ⟨_, rfl⟩
    rw [hNN] at er
    subst er
    clear hn4 hNN hb4
    cases hc : LT with
    | none =>
      obtain ⟨n1, n2⟩ := HTN.out hc
      have HN1 := hideIt n1
      have HN2 := hideIt n2
      have e2 : (none : Option VT).isSome = false := rfl
      rw [e2]
      clear n1 n2 hc e2
      go_wp2_with fail
      go_ret2
      exact ⟨.slice none 0 0, w.heap.size, fun _ => undef, fun _ => undef, by rw [HN1.out]; rfl, Nat.le_refl _, by rw [HN2.out]; exact Nest.nil _ _ _ _, HB4.out⟩
    | some t' =>
      obtain ⟨⟨n1, n2⟩, g1, g2⟩ := HTY.out _ hc
      have HN1 := hideIt n1
      have HN2 := hideIt n2
      have HND : Hid (NodesAt w4.heap.size w4 (.slice ar NN cr) (layT FF t' 0)) := by
        have h1 := HN4.out
        rw [hc] at h1
        exact h1.nodes (show (layT FF t' 0).length ≤ _ by omega) (good_fits g1 (by omega))
      have e2 : (some t' : Option VT).isSome = true := rfl
      rw [e2]
      clear n1 n2 hc e2 g1 g2 HN4
      go_wp2_with fail
      refine (specOk_any w4.heap.size _ (layT FF t' 0) _ HND.out (Nat.le_refl _)).mono ?_
      rintro e w5 ⟨rfl, hb5⟩
      have z5 := hb5.size
      have HB5 := hideIt (HB4.out.trans (hb5.mono (by omega)))
      have HND5 := hideIt (HND.out.below hb5)
      clear hb5
      cases okr : okB (layT FF t' 0)
      · have HL : Hid (LN = []) := by rw [Hid, HN2.out]; unfold rightNs; rw [okr]; rfl
        have HL1 : Hid (LB = false) := by rw [Hid, HN1.out, okr]
        clear okr
        go_wp2_with fail
        go_ret2
        exact ⟨.slice none 0 0, w.heap.size, fun _ => undef, fun _ => undef, by rw [HL1.out]; rfl, Nat.le_refl _, by rw [HL.out]; exact Nest.nil _ _ _ _, HB5.out⟩
      · have HL : Hid (LN = layT FF t' 0) := by rw [Hid, HN2.out]; unfold rightNs; rw [okr]; rfl
        have HL1 : Hid (LB = true) := by rw [Hid, HN1.out, okr]
        have HC := hideIt (l1Copy_ok w4.heap.size (.slice ar NN cr) _ w5 HND5.out okr z5)
        clear okr
        go_wp2_with fail
        refine HC.out.mono ?_
        rintro e w6 ⟨r6, KV6, IV6, rfl, hn6, hb6⟩
        rw [← HL.out] at hn6
        have HN6 := hideIt hn6
        obtain ⟨a6, c6, e6⟩ := own_slice hn6.row
        obtain ⟨N6, hN6⟩ : ∃ N, LN.length = N := ⟨_, rfl⟩
        rw [hN6] at e6
        subst e6
        have HB6 := hideIt (HB5.out.trans (hb6.mono (by omega)))
        clear hn6 hN6 hb6
        go_wp2_with fail
        go_ret2
        exact ⟨_, w5.heap.size, KV6, IV6, by rw [HL1.out]; rfl, by omega, HN6.out, HB6.out⟩
theorem laid_few (vs : List VN) (ps : List PS) (ws : List VN) : Few (laidNs vs ps ws) ∧ ∀ i, i < (laidNs vs ps ws).length → Fits (nodeAt (laidNs vs ps ws) i) := by
  unfold laidNs rightNs
  split
  · rename_i h; exact ok_fits h
  · exact ⟨⟨by simp, fun i hi => absurd hi (by simp)⟩, fun i hi => absurd hi (by simp)⟩
end Go.Proofs.Ytpakfgonemiebaa

/-
  Plain: what stands at a path, of trees; and what FnTaken asks of what is taken.
-/
namespace Go.Proofs.Ytpakfgonemiebaa
open Go.RowKit
set_option linter.unusedSimpArgs false
set_option linter.unusedVariables false

theorem fol_got {vs : List VN} (hok : okB vs = true) : ∀ (ps : List PS) (f n : Nat), n < f → n < vs.length → (∀ x ∈ ps, x.named = true ∨ 0 ≤ x.pl) →
    (gotN vs n ps = none → folT ps (treeOf vs f n) = none) ∧ ∀ m, gotN vs n ps = some m → m < vs.length ∧ ∃ f', m < f' ∧ folT ps (treeOf vs f n) = some (treeOf vs f' m) := by
  intro ps
  induction ps with
  | nil =>
    intro f n hf hn _
    refine ⟨fun h => (by cases h), fun m h => ?_⟩
    simp only [gotN, Option.some.injEq] at h
    subst h
    exact ⟨hn, f, hf, rfl⟩
  | cons x ps ih =>
    intro f n hf hn h0
    cases f with
    | zero => omega
    | succ f =>
    have es : stepT (treeOf vs (f + 1) n) x = stepN (nodeAt vs n) x := by
      show stepTo _ _ (List.map _ _).length x = _
      rw [List.length_map]; rfl
    rw [gotN, folT, es]
    cases e : stepN (nodeAt vs n) x with
    | none => exact ⟨fun _ => rfl, fun m h => (by cases h)⟩
    | some k =>
      obtain ⟨_, p2, _, _⟩ := okB_parts hok
      have hk : k < (nodeAt vs n).kids.length := stepN_lt (h0 x (by simp)) (fun h6 => by
        have hnode := (p2 n hn).1
        rw [nodeT_eq] at hnode
        rcases nodeT_says hnode with ⟨e2, _⟩ | ⟨e2, _⟩ | ⟨e2, _⟩ | ⟨e2, _⟩ | ⟨e2, _⟩ | ⟨_, _, _, hm, _⟩
        · omega
        · omega
        · omega
        · omega
        · omega
        · exact hm) e
      have hin := kidsIn_get (p2 n hn).2 hk
      have hkid : kidT (kidsT (treeOf vs (f + 1) n)) k = treeOf vs f (intAt (nodeAt vs n).kids k).toNat := by
        show kidT (List.map _ _) k = _
        rw [kidT_map hk]
      dsimp only
      rw [hkid]
      exact ih f _ (by omega) (by omega) (fun z hz => h0 z (by simp [hz]))

theorem lay_same {f g : Nat} {t : VT} (h1 : FullT f t) (h2 : FullT g t) : layT f t 0 = layT g t 0 := by
  rcases Nat.le_total f g with h | h
  · exact (layT_more h1 h 0).symm
  · exact layT_more h2 h 0

/-- What stands at a path of a tree that was laid. -/
theorem got_lay {f : Nat} {t : VT} {ps : List PS} (hg : goodT f t) (hok : okB (layT f t 0) = true) (hps : pathB ps = true) :
    gotB (layT f t 0) ps = (folT ps t).isSome ∧ ∀ s, folT ps t = some s → ∃ f', goodT f' s ∧ okB (layT f' s 0) = true ∧ gotNs (layT f t 0) ps = layT f' s 0 := by
  obtain ⟨vs, hvs⟩ : ∃ vs, layT f t 0 = vs := ⟨_, rfl⟩
  have htb := tree_back hg.full vs 0 (f + vs.length + 1) (by omega) (fun i hi => by rw [Nat.zero_add, hvs])
  rw [hvs, Nat.zero_add] at htb
  rw [hvs] at hok ⊢
  have p1 := (okB_parts hok).1
  obtain ⟨g1, g2⟩ := fol_got hok ps (f + vs.length + 1) (vs.length - 1) (by omega) (by omega) (steps_mem hps)
  rw [htb] at g1 g2
  cases e : gotN vs (vs.length - 1) ps with
  | none =>
    rw [g1 e]
    refine ⟨?_, fun s h => (by cases h)⟩
    unfold gotB
    rw [hok, hps, e]; rfl
  | some m =>
    obtain ⟨hm, f', hf', hs⟩ := g2 m e
    rw [hs]
    refine ⟨by unfold gotB; rw [hok, hps, e]; rfl, fun s h => ?_⟩
    simp only [Option.some.injEq] at h
    subst h
    have hp := (lay_part hok hf' hm).1
    refine ⟨f', good_tree hok f' m hm hf', by rw [hp]; exact part_okB hok hm, ?_⟩
    unfold gotNs
    rw [hok, hps, e, hp]
    rfl

theorem step_put {k : Nat} {u t : VT} {x : PS} : stepT (putKid k u t) x = stepT t x := by
  obtain ⟨kind, n, s, keys, kids⟩ := t
  show stepTo kind keys (kids.set k u).length x = stepTo kind keys kids.length x
  rw [List.length_set]
theorem fol_plug : ∀ (ps : List PS) (f : Nat) (t s u : VT), goodT f t → (∀ x ∈ ps, x.named = true ∨ 0 ≤ x.pl) → folT ps t = some s → folT ps (plugT ps t u) = some u := by
  intro ps
  induction ps with
  | nil => intro f t s u _ _ _; rfl
  | cons x ps ih =>
    intro f t s u hg h0 h
    rw [folT] at h
    rw [plugT]
    cases e : stepT t x with
    | none => rw [e] at h; cases h
    | some k =>
      rw [e] at h
      dsimp only at h ⊢
      have hk := stepT_lt hg (h0 x (by simp)) e
      cases f with
      | zero => exact hg.elim
      | succ f =>
      rw [folT, step_put, e]
      dsimp only
      have hkid : kidT (kidsT (putKid k (plugT ps (kidT (kidsT t) k) u) t)) k = plugT ps (kidT (kidsT t) k) u := by
        obtain ⟨kind, n, sx, keys, kids⟩ := t
        show kidT (kids.set k _) k = _
        rw [kid_set (show k < kids.length from hk), if_pos rfl]
      rw [hkid]
      exact ih f _ s u (good_kid hg hk) (fun z hz => h0 z (by simp [hz])) h
/-- A key that was taken is not there any more. -/
theorem take_gone {f : Nat} {t : VT} {x : PS} {k : Nat} (hg : goodT f t) (hn : x.named = true) (h : stepT t x = some k) : stepT (takeKid k t) x = none := by
  cases f with
  | zero => exact hg.elim
  | succ f =>
  obtain ⟨kind, n, s, keys, kids⟩ := t
  have h2 : stepTo kind keys kids.length x = some k := h
  show stepTo kind (keys.eraseIdx k) (kids.eraseIdx k).length x = none
  unfold stepTo at h2 ⊢
  rw [if_pos hn] at h2 ⊢
  split at h2
  · rename_i h6
    simp only [Option.some.injEq] at h2
    have hr : riseB keys = true := by
      rcases nodeT_says hg.1 with ⟨e2, _⟩ | ⟨e2, _⟩ | ⟨e2, _⟩ | ⟨e2, _⟩ | ⟨e2, _⟩ | ⟨_, _, _, _, hr⟩
      · have := h6.1; omega
      · have := h6.1; omega
      · have := h6.1; omega
      · have := h6.1; omega
      · have := h6.1; omega
      · exact hr
    have hh := h6.2
    unfold hasK at hh
    rw [h2] at hh
    simp only [Bool.and_eq_true, decide_eq_true_eq] at hh
    obtain ⟨hk, hkey⟩ := hh
    have hno : hasK (keys.eraseIdx k) x.key = false := hasK_none (fun j hj e => by
      have hl : (keys.eraseIdx k).length = keys.length - 1 := by rw [List.length_eraseIdx, if_pos hk]
      rw [hl] at hj
      rw [key_erase, ← hkey] at e
      have hR := riseB_rise hr
      by_cases c : j < k
      · rw [if_pos c] at e
        exact less_ne (hR j k c hk) e
      · rw [if_neg c] at e
        exact less_ne (hR k (j + 1) (by omega) (by omega)) e.symm)
    rw [if_neg (fun c => by rw [hno] at c; cases c.2)]
  · cases h2

/-- All that FnTaken asks. -/
theorem taken_there {vs : List VN} {ps : List PS} : (takenT vs ps).isSome = (gotB vs ps && decide (0 < ps.length)) := by
  by_cases hok : okB vs = true
  · by_cases hps : pathB ps = true
    · have hp1 := (okB_parts hok).1
      have hg := good_tree hok vs.length (vs.length - 1) (by omega) (by omega)
      have h1 := (got_lay hg (by rw [whole_lay hok]; exact hok) hps).1
      rw [whole_lay hok] at h1
      rw [h1]
      unfold takenT
      rw [hok, hps]
      show (updT takeG ps (treeV vs)).isSome = _
      rcases List.eq_nil_or_concat ps with rfl | ⟨qs, x, rfl⟩
      · rfl
      · rw [List.concat_eq_append] at *
        rw [updT_snoc, folT_snoc]
        show _ = ((match folT qs (treeV vs) with | none => none | some s => match stepT s x with | none => none | some k => some (kidT (kidsT s) k)).isSome && _)
        cases folT qs (treeV vs) with
        | none => rfl
        | some s =>
          dsimp only
          unfold takeG
          cases stepT s x with
          | none => rfl
          | some k => simp
    · unfold takenT gotB
      simp only [Bool.not_eq_true] at hps
      rw [hps]; simp
  · unfold takenT gotB
    simp only [Bool.not_eq_true] at hok
    rw [hok]; simp

theorem taken_says {vs : List VN} {ps : List PS} {U : VT} (h : takenT vs ps = some U) : ∃ (m k P : Nat), ps.length = m + 1 ∧ okB (takenNs vs ps) = true ∧ gotB vs (ps.take m) = true ∧ gotB (takenNs vs ps) (ps.take m) = true ∧ okB (gotNs vs (ps.take m)) = true ∧ okB (gotNs (takenNs vs ps) (ps.take m)) = true ∧
    partsN (gotNs vs (ps.take m)) = P ∧ partsN (gotNs (takenNs vs ps) (ps.take m)) = P - 1 ∧ k < P ∧ (∀ i, i < P - 1 → PL (gotNs (takenNs vs ps) (ps.take m)) i = PL (gotNs vs (ps.take m)) (if i < k then i else i + 1)) ∧ ((stepAt ps m).named = true → gotB (takenNs vs ps) ps = false) ∧ ((stepAt ps m).named = false → (stepAt ps m).pl = (k : Int)) := by
  have hns : takenNs vs ps = layT vs.length U 0 := by unfold takenNs; rw [h]
  rw [hns]
  unfold takenT at h
  split at h
  case isFalse => cases h
  rename_i hc
  obtain ⟨hok, hps⟩ : okB vs = true ∧ pathB ps = true := by simpa using hc
  obtain ⟨hgU, hokU⟩ := taken_ok hok hps h
  have hp1 := (okB_parts hok).1
  have hg : goodT vs.length (treeV vs) := good_tree hok vs.length (vs.length - 1) (by omega) (by omega)
  have hwl : layT vs.length (treeV vs) 0 = vs := whole_lay hok
  rcases List.eq_nil_or_concat ps with rfl | ⟨qs, x, rfl⟩
  · cases h
  rw [List.concat_eq_append] at *
  have hmem := steps_mem hps
  have hx0 := hmem x (by simp)
  have hq0 : ∀ z ∈ qs, z.named = true ∨ 0 ≤ z.pl := fun z hz => hmem z (by simp [hz])
  have hpl : (qs ++ [x]).length = qs.length + 1 := by simp
  have htk : (qs ++ [x]).take qs.length = qs := by simp
  have hst : stepAt (qs ++ [x]) qs.length = x := by unfold stepAt; simp
  have hqs : pathB qs = true := by
    unfold pathB at hps ⊢
    simp only [Bool.and_eq_true, decide_eq_true_eq, List.all_eq_true, List.mem_range] at hps ⊢
    refine ⟨by have := hps.1; rw [hpl] at this; omega, fun i hi => ?_⟩
    have := hps.2 i (by rw [hpl]; omega)
    unfold stepAt at this ⊢
    rw [List.getD_eq_getElem?_getD, List.getElem?_append_left hi] at this
    rw [List.getD_eq_getElem?_getD]; exact this
  rw [updT_snoc] at h
  cases e1 : folT qs (treeV vs) with
  | none => rw [e1] at h; cases h
  | some s =>
  rw [e1] at h
  dsimp only at h
  unfold takeG at h
  cases e2 : stepT s x with
  | none => rw [e2] at h; cases h
  | some k =>
  rw [e2] at h
  dsimp only at h
  simp only [Option.some.injEq] at h
  subst h
  have hfU := fol_plug qs vs.length (treeV vs) s (takeKid k s) hg hq0 e1
  obtain ⟨a1, a2⟩ := got_lay hg (by rw [hwl]; exact hok) hqs
  rw [hwl] at a1 a2
  obtain ⟨fa, hga, hoka, hea⟩ := a2 s e1
  obtain ⟨b1, b2⟩ := got_lay hgU hokU hqs
  obtain ⟨fb, hgb, hokb, heb⟩ := b2 _ hfU
  have hkl := stepT_lt hga hx0 e2
  have hgone := fun hn => take_gone hga hn e2
  have hlast : (x.named = true → folT (qs ++ [x]) (plugT qs (treeV vs) (takeKid k s)) = none) := fun hn => by rw [folT_snoc, hfU]; dsimp only; rw [hgone hn]
  have hpx := (got_lay hgU hokU hps).1
  refine ⟨qs.length, k, (kidsT s).length, hpl, hokU, ?_⟩
  rw [htk, hst, hea, heb]
  refine ⟨by rw [a1, e1]; rfl, by rw [b1, hfU]; rfl, hoka, hokb, ?_⟩
  obtain ⟨kind, n, sx, keys, kids⟩ := s
  cases fa with
  | zero => exact hga.elim
  | succ fa =>
  cases fb with
  | zero => exact hgb.elim
  | succ fb =>
  have hkl' : k < kids.length := hkl
  have hel : (kids.eraseIdx k).length = kids.length - 1 := by rw [List.length_eraseIdx, if_pos hkl']
  refine ⟨?_, ?_, hkl, fun i hi => ?_, fun hn => by rw [hpx, hlast hn]; rfl, fun hn => ?_⟩
  · unfold partsN; rw [if_pos hoka, lay_kidsW]; rfl
  · unfold partsN
    rw [if_pos hokb]
    show (rootKids (layT (fb + 1) (.mk kind n sx (keys.eraseIdx k) (kids.eraseIdx k)) 0)).length = kids.length - 1
    rw [lay_kidsW, hel]
  · have hi' : i < kids.length - 1 := hi
    obtain ⟨q, eq⟩ : ∃ q, (if i < k then i else i + 1) = q := ⟨_, rfl⟩
    have hq : q < kids.length := by rw [← eq]; split <;> omega
    rw [eq, lay_PL hga.full hoka hq]
    show PL (layT (fb + 1) (.mk kind n sx (keys.eraseIdx k) (kids.eraseIdx k)) 0) i = _
    have h3 := lay_PL (f := fb) (kind := kind) (n := n) (s := sx) (keys := keys.eraseIdx k) (kids := kids.eraseIdx k) hgb.full hokb (j := i) (by rw [hel]; exact hi')
    rw [h3, kid_erase, eq]
    have h4 := good_kid hgb (k := i) (show i < (kids.eraseIdx k).length by rw [hel]; exact hi')
    have h5 : goodT fb (kidT (kids.eraseIdx k) i) := h4
    rw [kid_erase, eq] at h5
    exact lay_same h5.full (good_kid hga (k := q) hq).full
  · have h2 : stepTo kind keys kids.length x = some k := e2
    unfold stepTo at h2
    rw [if_neg (by rw [hn]; simp)] at h2
    split at h2
    · simp only [Option.some.injEq] at h2
      rcases hx0 with c | c
      · rw [hn] at c; cases c
      · omega
    · cases h2
end Go.Proofs.Ytpakfgonemiebaa
