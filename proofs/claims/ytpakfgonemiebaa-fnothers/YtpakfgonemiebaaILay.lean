/-
  The program's Laid.
-/
import Derived.Test.YtpakfgonemiebaaULay
import Derived.Test.YtpakfgonemiebaaSortP
import Derived.Test.YtpakfgonemiebaaUHol
import Derived.Test.YtpakfgonemiebaaWthP
import Derived.Test.YtpakfgonemiebaaIGot
import Derived.Test.YtpakfgonemiebaaPhase
namespace Go.Proofs.Ytpakfgonemiebaa
open Go.RowKit
set_option linter.unusedSimpArgs false
set_option linter.unusedVariables false

def fuelL (vs ws : List VN) : Nat := vs.length + 10 + ws.length
def laidT (vs : List VN) (ps : List PS) (ws : List VN) : Option VT := if (okB vs && pathB ps && okB ws) = true then (if ps.length = 0 then some (treeV ws) else updT (layG (treeV ws)) ps (treeV vs)) else none
def laidRaw (vs : List VN) (ps : List PS) (ws : List VN) : List VN := match laidT vs ps ws with
  | none => []
  | some u => layT (fuelL vs ws) u 0
def laidB (vs : List VN) (ps : List PS) (ws : List VN) : Bool := okB (laidRaw vs ps ws)
def laidNs (vs : List VN) (ps : List PS) (ws : List VN) : List VN := rightNs (laidRaw vs ps ws)
theorem laid_no {vs : List VN} {ps : List PS} {ws : List VN} (h : laidT vs ps ws = none) : laidB vs ps ws = false ∧ laidNs vs ps ws = [] := by
  have e : laidRaw vs ps ws = [] := by unfold laidRaw; rw [h]
  unfold laidB laidNs
  rw [e]
  exact ⟨rfl, rfl⟩
theorem path_10 {ps : List PS} (h : pathB ps = true) : ps.length ≤ 10 := by unfold pathB at h; simp only [Bool.and_eq_true, decide_eq_true_eq] at h; first | exact h.1 | exact h.2
theorem treeV_good {vs : List VN} (h : okB vs = true) : goodT vs.length (treeV vs) := good_tree h vs.length (vs.length - 1) (by have := (okB_parts h).1; omega) (by have := (okB_parts h).1; omega)
theorem steps_all {ps : List PS} (h : pathB ps = true) : ∀ x ∈ ps, stepB x = true := by
  intro x hx
  obtain ⟨i, hi, e⟩ := List.getElem_of_mem hx
  have h1 := pathB_steps h i hi
  have e2 : stepAt ps i = x := by
    unfold stepAt
    rw [List.getD_eq_getElem?_getD, List.getElem?_eq_getElem hi, e]; rfl
  rw [e2] at h1
  exact h1
theorem laid_facts {vs : List VN} {ps : List PS} {ws : List VN} {u : VT} (h : laidT vs ps ws = some u) : goodT (fuelL vs ws) u ∧ (layT (fuelL vs ws) u 0).length ≤ 160 := by
  unfold laidT at h
  split at h
  · rename_i hok
    obtain ⟨⟨ok1, ok2⟩, ok3⟩ : (okB vs = true ∧ pathB ps = true) ∧ okB ws = true := by simpa using hok
    have g1 := treeV_good ok1
    have g3 := treeV_good ok3
    have l1 : (layT vs.length (treeV vs) 0).length = vs.length := whole_len ok1
    have l3 : (layT ws.length (treeV ws) 0).length = ws.length := whole_len ok3
    have n1 := (okB_parts ok1).1
    have n3 := (okB_parts ok3).1
    split at h
    · simp only [Option.some.injEq] at h
      subst h
      refine ⟨goodT_more g3 (by unfold fuelL; omega), ?_⟩
      rw [layT_more g3.full (show ws.length ≤ fuelL vs ws by unfold fuelL; omega) 0, l3]
      omega
    · have g1' : goodT (fuelL vs ws) (treeV vs) := goodT_more g1 (by unfold fuelL; omega)
      refine ⟨laid_good ps (vs.length + 10) ws.length _ _ _ g1' g3 (by have := path_10 ok2; omega) (steps_all ok2) h, ?_⟩
      have h2 := laid_len ps (vs.length + 10) ws.length _ _ _ g3 (by have := path_10 ok2; omega) h
      rw [l3, layT_more g1.full (show vs.length ≤ vs.length + 10 + ws.length by omega) 0, l1] at h2
      unfold fuelL
      omega
  · cases h
theorem laid_yes {vs : List VN} {ps : List PS} {ws : List VN} {u : VT} (h : laidT vs ps ws = some u) : laidB vs ps ws = okB (layT (fuelL vs ws) u 0) ∧ laidNs vs ps ws = rightNs (layT (fuelL vs ws) u 0) := by
  have e : laidRaw vs ps ws = layT (fuelL vs ws) u 0 := by unfold laidRaw; rw [h]
  unfold laidB laidNs
  rw [e]
  exact ⟨rfl, rfl⟩
/-- A part has no more parts than the whole has nodes. -/
theorem fol_few : ∀ (ps : List PS) (f : Nat) (t s : VT), goodT f t → (∀ x ∈ ps, x.named = true ∨ 0 ≤ x.pl) → folT ps t = some s → (kidsT s).length ≤ (layT f t 0).length := by
  intro ps
  induction ps with
  | nil =>
    intro f t s hg _ h
    cases f with
    | zero => exact hg.elim
    | succ f =>
      rw [folT, Option.some.injEq] at h
      subst h
      obtain ⟨kind, n, sx, keys, kids⟩ := t
      rw [lay_sum]
      have := (sum_ge (F := fun t => (layT f t 0).length) (l := kids) (fun j hj => layT_len (hg.2 j hj).full 0)).1
      show kids.length ≤ _
      omega
  | cons y ps ih =>
    intro f t s hg h0 h
    cases f with
    | zero => exact hg.elim
    | succ f =>
      rw [folT] at h
      cases e : stepT t y with
      | none => rw [e] at h; cases h
      | some k =>
        rw [e] at h
        have hk := stepT_lt hg (h0 y (by simp)) e
        have h1 := ih f _ s (good_kid hg hk) (fun x hx => h0 x (by simp [hx])) h
        obtain ⟨kind, n, sx, keys, kids⟩ := t
        rw [lay_sum]
        have := (sum_ge (F := fun t => (layT f t 0).length) (l := kids) (fun j hj => layT_len (hg.2 j hj).full 0)).2 k hk
        have e2 : kidT (kidsT (.mk kind n sx keys kids)) k = kidT kids k := rfl
        rw [e2] at h1
        omega
theorem call_lay (a b c : Value) : ∀ w, (callFunc 39 #[a, b, c]).run Try.prog w = .ok (.enter 39 #[a, b, c]) w := fun w => by kernel_rfl
/-- What lay does, all cases in one. -/
theorem lay_any (B B2 : Nat) {f : Nat} {t : VT} {lo hi p q lo2 hi2 : Nat} (u : VT) (x : PS) (w : World) (h : PT B w (f + 1) t lo hi (.pointer (some ⟨p, 0, none⟩))) (hg : goodT (f + 1) t) (hBl : B ≤ lo) (hh : hi ≤ w.heap.size) (hBw : B ≤ w.heap.size) (hx : -9223372036854775808 ≤ x.pl ∧ x.pl ≤ 9223372036854775807) (hsx : stepB x = true) (hkx : x.key.size ≤ 140737488355328)
    (hq : PT B2 w f u lo2 hi2 (.pointer (some ⟨q, 0, none⟩))) (hl2 : hi ≤ lo2) (hh2 : hi2 ≤ w.heap.size) (h99 : (kidsT t).length ≤ 99999) :
    Calls Try.prog 39 #[.pointer (some ⟨p, 0, none⟩), .agg #[.bool x.named, .string x.key, .int .i64 x.pl], .pointer (some ⟨q, 0, none⟩)] w fun e w' => e = .returned (.bool (layG u t x).isSome) ∧ (∀ v, layG u t x = some v → PR w'.heap.size w' (f + 1) v (.pointer (some ⟨p, 0, none⟩))) ∧ Out lo hi w w' := by
  have h0x := stepB_from hsx
  obtain ⟨kind, n, s, keys, kids⟩ := t
  cases hst : stepT (.mk kind n s keys kids) x with
  | some k =>
    have hl : layG u (.mk kind n s keys kids) x = some (putKid k u (.mk kind n s keys kids)) := by unfold layG; rw [hst]
    rw [hl]
    refine (lay_there B B2 u x w h hg hBl hh hx h0x hq hl2 hh2 k hst).mono ?_
    rintro e w' ⟨rfl, h1, h2⟩
    exact ⟨rfl, fun v hv => by cases hv; exact h1, h2⟩
  | none =>
    have hl : layG u (.mk kind n s keys kids) x = insT u x (.mk kind n s keys kids) := by unfold layG; rw [hst]
    rw [hl]
    cases hin : insT u x (.mk kind n s keys kids) with
    | none =>
      refine (lay_none B u _ x w h hg hBw hh hx hst hin).mono ?_
      rintro e w' ⟨rfl, h2⟩
      exact ⟨rfl, fun v hv => (by cases hv), Out.of_below h2⟩
    | some v =>
      obtain ⟨k, keys', hk, hfr, hv, hcase⟩ := findR_ins hg hst hin
      subst hv
      refine (lay_ins B B2 u x w h hg hBl hh hx h0x hq hl2 hh2 k keys' hk hfr hkx hcase h99).mono ?_
      rintro e w' ⟨rfl, h1, h2⟩
      exact ⟨rfl, fun v hv => by cases hv; exact h1, h2⟩

set_option maxRecDepth 100000 in
set_option maxHeartbeats 3200000 in
theorem implLaid_no (B : Nat) (v u z : Value) (vs : List VN) (ps : List PS) (ws : List VN) (w : World) (h : NodesAt B w v vs) (hu : StepsAt B w u ps) (hz : NodesAt B w z ws) (hB : B ≤ w.heap.size) (hno : (okB vs && pathB ps && okB ws) = false) :
    Calls Try.prog 10 #[v, u, z] w fun e w' => e = .returned (.tuple #[.slice none 0 0, .bool false]) ∧ Below w.heap.size w w' := by
  have HV := hideIt h
  have HU := hideIt hu
  have HW := hideIt hz
  obtain ⟨_, a, cap, rfl, _⟩ := h
  obtain ⟨_, _, au, cu, rfl, _⟩ := hu
  obtain ⟨_, az, cz, rfl, _⟩ := hz
  cases ok12 : (okB vs && pathB ps)
  · go_enter Try.func10, Try.ntmps10
    go_wp2_with fail
    refine (treeFor_no B _ _ vs ps _ HV.out HU.out hB ok12).mono ?_
    rintro e w1 ⟨rfl, hb1⟩
    have z1 := hb1.size
    cases ok3 : okB ws
    · go_wp2_with fail
      refine (valueOf_no B _ ws _ (HW.out.below (hb1.mono hB)) (by omega) ok3).mono ?_
      rintro e w2 ⟨rfl, hb2⟩
      have HB2 := hideIt (hb1.trans (hb2.mono z1))
      clear hb1 hb2
      go_wp2_with fail
      go_ret2
      exact ⟨rfl, HB2.out⟩
    · go_wp2_with fail
      refine (valueOf_yes B _ ws _ (HW.out.below (hb1.mono hB)) (by omega) ok3).mono ?_
      rintro e w2 ⟨lo1, t, x, rfl, hl1, hl2, hv1, hb2⟩
      have HB2 := hideIt (hb1.trans (hb2.mono z1))
      clear hb1 hb2 hv1 hl1 hl2
      go_wp2_with fail
      go_ret2
      exact ⟨rfl, HB2.out⟩
  · obtain ⟨ok1, ok2⟩ : okB vs = true ∧ pathB ps = true := by simpa using ok12
    have ok3 : okB ws = false := by rw [ok12] at hno; simpa using hno
    go_enter Try.func10, Try.ntmps10
    go_wp2_with fail
    refine (treeFor_yes B _ _ vs ps _ HV.out HU.out hB ok1 ok2).mono ?_
    rintro e w1 ⟨p, B', lo, rfl, hB', hlo, hlo', hpt, hb1⟩
    have z1 := hb1.size
    clear hpt
    go_wp2_with fail
    refine (valueOf_no B _ ws _ (HW.out.below (hb1.mono hB)) (by omega) ok3).mono ?_
    rintro e w2 ⟨rfl, hb2⟩
    have HB2 := hideIt (hb1.trans (hb2.mono z1))
    clear hb1 hb2
    go_wp2_with fail
    go_ret2
    exact ⟨rfl, HB2.out⟩

set_option maxRecDepth 100000 in
set_option maxHeartbeats 6400000 in
theorem implLaid_any (B : Nat) (v u z : Value) (vs : List VN) (ps : List PS) (ws : List VN) (w : World) (h : NodesAt B w v vs) (hu : StepsAt B w u ps) (hcu : ∀ a n c, u = .slice a n c → n ≤ c) (hz : NodesAt B w z ws) (hB : B ≤ w.heap.size) :
    Calls Try.prog 10 #[v, u, z] w fun e w' => ∃ r base KV IV, e = .returned (.tuple #[r, .bool (laidB vs ps ws)]) ∧ w.heap.size ≤ base ∧ base ≤ w'.heap.size ∧ Nest base w' r (laidNs vs ps ws) KV IV ∧ Below w.heap.size w w' := by
  cases ok : (okB vs && pathB ps && okB ws)
  · obtain ⟨e1, e2⟩ := laid_no (show laidT vs ps ws = none by unfold laidT; rw [ok]; rfl)
    rw [e1, e2]
    refine (implLaid_no B v u z vs ps ws w h hu hz hB ok).mono ?_
    rintro e w' ⟨rfl, hb⟩
    exact ⟨.slice none 0 0, w.heap.size, fun _ => undef, fun _ => undef, rfl, Nat.le_refl _, hb.size, Nest.nil _ _ _ _, hb⟩
  have HV := hideIt h
  have HU := hideIt hu
  have HW := hideIt hz
  obtain ⟨_, a, cap, rfl, _⟩ := h
  obtain ⟨hul, hfits, au, cu, rfl, hsteps⟩ := hu
  obtain ⟨_, az, cz, rfl, _⟩ := hz
  obtain ⟨⟨ok1, ok2⟩, ok3⟩ : (okB vs = true ∧ pathB ps = true) ∧ okB ws = true := by simpa using ok
  have HTT : Hid (laidT vs ps ws = if ps.length = 0 then some (treeV ws) else updT (layG (treeV ws)) ps (treeV vs)) := by rw [Hid]; unfold laidT; rw [if_pos ok]
  have HNO : Hid (laidT vs ps ws = none → laidB vs ps ws = false ∧ laidNs vs ps ws = []) := laid_no
  have HYES : Hid (∀ u, laidT vs ps ws = some u → (laidB vs ps ws = okB (layT (fuelL vs ws) u 0) ∧ laidNs vs ps ws = rightNs (layT (fuelL vs ws) u 0)) ∧ goodT (fuelL vs ws) u ∧ (layT (fuelL vs ws) u 0).length ≤ 160) := fun u hu => ⟨laid_yes hu, laid_facts hu⟩
  have HGV := hideIt (treeV_good ok1)
  have HGW := hideIt (treeV_good ok3)
  have HLW : Hid (layT ws.length (treeV ws) 0 = ws) := whole_lay ok3
  have hul2 := path_10 ok2
  have hcapu : ps.length ≤ cu := hcu _ _ _ rfl
  have HST := hideIt (pathB_steps ok2)
  have HFT := hideIt hfits
  have hv80 := (okB_parts ok1).1
  have hw80 := (okB_parts ok3).1
  obtain ⟨pw1, pw2, _, pw4⟩ := okB_parts ok3
  have HVT : Hid (∀ lo1 B (W : World) x, lo1 ≤ B → ValIs lo1 B W ws ws.length (ws.length - 1) x → TreeAt B W ws.length (treeV ws) x) := fun lo1 B W x hl hv1 => ValIs.tree hl pw2 pw4 pw1.2 (by omega) hv1
  clear hcu pw1 pw2 pw4
  obtain ⟨FF, hFF⟩ : ∃ FF, fuelL vs ws = FF := ⟨_, rfl⟩
  have HFF : Hid (FF = vs.length + 10 + ws.length) := by rw [Hid, ← hFF]; rfl
  rw [hFF] at HYES
  obtain ⟨LB, hLB⟩ : ∃ LB, laidB vs ps ws = LB := ⟨_, rfl⟩
  obtain ⟨LN, hLN⟩ : ∃ LN, laidNs vs ps ws = LN := ⟨_, rfl⟩
  obtain ⟨LT, hLT⟩ : ∃ LT, laidT vs ps ws = LT := ⟨_, rfl⟩
  rw [hLB, hLN, hLT] at HYES HNO
  rw [hLT] at HTT
  rw [hLB, hLN]
  have HK99 : Hid (∀ m s, folT (ps.take m) (treeV vs) = some s → (kidsT s).length ≤ 80) := fun m s hs => by
    have h1 := fol_few (ps.take m) vs.length (treeV vs) s (treeV_good ok1) (fun y hy => steps_mem ok2 y (List.mem_of_mem_take hy)) hs
    have h2 : (layT vs.length (treeV vs) 0).length = vs.length := whole_len ok1
    omega
  obtain ⟨N, hN⟩ : ∃ N, ps.length = N := ⟨_, rfl⟩
  have HNN := hideIt hN
  have HTF := hideIt (treeFor_yes B _ _ vs ps _ HV.out HU.out hB ok1 ok2)
  have HVO := hideIt (fun (W : World) (hb : Below w.heap.size w W) => valueOf_yes B _ ws W (HW.out.below (hb.mono hB)) (Nat.le_trans hB hb.size) ok3)
  have HUW : Hid (∀ w', Below w.heap.size w w' → StepsAt w'.heap.size w' (.slice au N cu) ps) := fun w' hb => by
    have := (HU.out.below (hb.mono hB)).wide (B' := w'.heap.size) (by have := hb.size; omega)
    rw [hN] at this
    exact this
  rw [hN] at HTF hul2 hcapu HTT ⊢
  clear hN hsteps hfits ok ok1 ok2 ok3 HV HU HW hFF hLB hLN hLT
  by_cases hN0 : N = 0
  · subst hN0
    have HTT2 : Hid (LT = some (treeV ws)) := by rw [Hid, HTT.out, if_pos rfl]
    obtain ⟨⟨hB1, hB2⟩, hG1, hG2⟩ := HYES.out _ HTT2.out
    have hlw : layT FF (treeV ws) 0 = ws := by rw [layT_more HGW.out.full (by have := HFF.out; omega) 0]; exact HLW.out
    rw [hlw] at hB1 hB2
    have HB1 := hideIt hB1
    have HB2 := hideIt hB2
    have HGF : Hid (ws.length ≤ 100000 ∧ ∀ i, i < ws.length → Fits (nodeAt ws i)) := by
      have := good_fits HGW.out (by rw [HLW.out]; omega)
      rw [HLW.out] at this
      exact ⟨by omega, this⟩
    clear hB1 hB2 hG1 hG2 hlw HYES HNO
    go_enter Try.func10, Try.ntmps10
    go_wp2_with fail
    refine HTF.out.mono ?_
    rintro e w1 ⟨p, B', lo, rfl, hB', hlo, hlo', hpt, hb1⟩
    have H1 := hideIt hb1
    have z1 := hb1.size
    have HV1 := hideIt (HVO.out w1 hb1)
    clear hpt hb1 HVO
    go_wp2_with fail
    refine HV1.out.mono ?_
    rintro e w2 ⟨lo1, ty, x, rfl, hl1, hl2, hv1, hb2⟩
    have HT := hideIt (HVT.out lo1 w2.heap.size w2 _ (by omega) hv1)
    have H2 := hideIt (H1.out.trans (hb2.mono z1))
    have z2 := hb2.size
    clear hv1 hb2
    go_wp2_with fail
    refine (rightNodes_any ws.length (treeV ws) _ ws w2 HT.out HLW.out HGF.out.1 HGF.out.2).mono ?_
    rintro e w3 ⟨r, base, KV, IV, rfl, hbs, hbs2, hn3, hb3⟩
    rw [← HB1.out]
    have hn3' := hn3
    rw [← HB2.out] at hn3'
    have HN3 := hideIt hn3'
    obtain ⟨ar, cr, er⟩ := own_slice hn3'.row
    obtain ⟨NN, hNN2⟩ : ∃ N, LN.length = N := ⟨_, rfl⟩
    rw [hNN2] at er
    subst er
    have H3 := hideIt (H2.out.trans (hb3.mono (by omega)))
    clear hn3 hn3' hNN2 hb3
    go_wp2_with fail
    go_ret2
    exact ⟨.slice ar NN cr, base, KV, IV, rfl, by omega, hbs2, HN3.out, H3.out⟩
  obtain ⟨m, hNm⟩ : ∃ m, N = m + 1 := ⟨N - 1, by omega⟩
  have hm10 : m < N := by omega
  have HPS : Hid (ps = ps.take m ++ [stepAt ps m]) := by
    have h1 := take_step (ps := ps) (k := m) (by rw [HNN.out]; exact hm10)
    rw [Hid, ← h1, ← hNm, ← HNN.out, List.take_length]
  have HUP : Hid (LT = match folT (ps.take m) (treeV vs) with | none => none | some s => match layG (treeV ws) s (stepAt ps m) with | none => none | some u => some (plugT (ps.take m) (treeV vs) u)) := by
    rw [Hid, HTT.out, if_neg hN0]
    conv => lhs; rw [HPS.out]
    exact updT_snoc _ _ _ _
  have HGE : Hid (goodT FF (treeV vs)) := goodT_more HGV.out (by have := HFF.out; omega)
  have hfx := HFT.out m (by rw [HNN.out]; exact hm10)
  have hsx := HST.out m (by rw [HNN.out]; exact hm10)
  have HHO := hideIt (fun B' lo p (w1 w2 : World) (hb : Below w.heap.size w w2) (h12 : Below w1.heap.size w1 w2) (h : PT B' w1 vs.length (treeV vs) lo w1.heap.size (.pointer (some ⟨p, 0, none⟩))) (h1 : B' ≤ lo) (h2 : lo ≤ w1.heap.size) => holder_some B' w1.heap.size FF (treeV vs) lo w1.heap.size p au cu N m hNm ps w2 (PT.more (by have := HFF.out; omega) (h.below h12 (by omega) (Nat.le_refl _))) HGE.out h1 (Nat.le_refl _) h12.size h12.size (by have := h12.size; omega) HNN.out (HUW.out w2 hb) HST.out hcapu (by omega))
  have HK80 := hideIt (HK99.out m)
  obtain ⟨F, hF⟩ : ∃ F, folT (ps.take m) (treeV vs) = F := ⟨_, rfl⟩
  obtain ⟨PL, hPL⟩ : ∃ PL, plugT (ps.take m) (treeV vs) = PL := ⟨_, rfl⟩
  simp only [hF, hPL] at HHO HUP HK80
  obtain ⟨x, hxx⟩ : ∃ x, stepAt ps m = x := ⟨_, rfl⟩
  simp only [hxx] at HHO HUP hfx hsx
  have HSX := hideIt hsx
  clear hF hPL hxx HPS HST HFT HUW HTT hsx HK99
  obtain ⟨TW, hTW⟩ : ∃ TW, treeV ws = TW := ⟨_, rfl⟩
  rw [hTW] at HUP HVT HGW HLW
  have hm9 : m ≤ 9 := by omega
  have HNM := hideIt hNm
  clear hTW hNm HGV
  go_enter Try.func10, Try.ntmps10
  go_wp2_with fail
  refine HTF.out.mono ?_
  rintro e w1 ⟨p, B', lo, rfl, hB', hlo, hlo', hpt, hb1⟩
  have HB1 := hideIt hb1
  have HPT := hideIt hpt
  have z1 := hb1.size
  have HV1 := hideIt (HVO.out w1 hb1)
  clear hpt hb1 HVO
  go_wp2_with fail
  refine HV1.out.mono ?_
  rintro e w2 ⟨lo1, ty, y, rfl, hl1, hl2, hv1, hb2⟩
  have HT := hideIt (HVT.out lo1 w2.heap.size w2 _ (by omega) hv1)
  have H12 := hideIt hb2
  have HB2 := hideIt (HB1.out.trans (hb2.mono z1))
  have z2 := hb2.size
  have HH := hideIt (HHO.out B' lo p w1 w2 HB2.out hb2 HPT.out hlo hlo')
  clear hv1 hb2 HHO HV1 HTF
  have hN0' : ((N : Int) == 0) = false := by simp; omega
  have hN0'' : ¬ (N : Int) = 0 := by omega
  go_wp2_with fail
  refine HH.out.mono ?_
  rintro e w3 ⟨q, rfl, hctx, hb3⟩
  have HX := hideIt hctx
  have H23 := hideIt hb3
  have HB3 := hideIt (HB2.out.trans (hb3.mono (by omega)))
  have z3 := hb3.size
  have HB4 : Hid (Below w.heap.size w (w3.alloc (.cells #[.bool x.named, .string x.key, .int .i64 x.pl] 39))) := HB3.out.alloc HB3.out.size _
  have H34 : Hid (Below w3.heap.size w3 (w3.alloc (.cells #[.bool x.named, .string x.key, .int .i64 x.pl] 39))) := (Below.refl _ _).alloc (Nat.le_refl _) _
  have z4 := HB4.out.size
  clear hb3 hctx HH
  cases hF : F with
  | none =>
    rw [hF] at HUP
    obtain ⟨hn1, hn2⟩ := HNO.out HUP.out
    have HN1 := hideIt hn1
    have HN2 := hideIt hn2
    have e1 : folPtrT none q = .pointer none := rfl
    have e2 : (none : Option VT).isSome = false := rfl
    rw [e1, e2]
    clear hF e1 e2 HUP hn1 hn2 HNO HYES
    go_wp2_with fail
    go_quiet (fail)
    have HB5 : Hid (Below w.heap.size w ((w3.alloc (.cells #[.bool x.named, .string x.key, .int .i64 x.pl] 39)).drewN nq)) := ⟨HB4.out.os, HB4.out.tape, HB4.out.output, HB4.out.size, HB4.out.block⟩
    go_wp2_with fail
    go_ret2
    exact ⟨.slice none 0 0, w.heap.size, fun _ => undef, fun _ => undef, by rw [HN1.out]; rfl, Nat.le_refl _, HB5.out.size, by rw [HN2.out]; exact Nest.nil _ _ _ _, HB5.out⟩
  | some s =>
    obtain ⟨f, lo2, hi2, ⟨hff, hgs⟩, hll1, hll2, hpt2, hct⟩ := HX.out s hF
    obtain ⟨f, rfl⟩ : ∃ f', f = f' + 1 := ⟨f - 1, by have := HFF.out; omega⟩
    have hfw : ws.length ≤ f := by have := HFF.out; omega
    have h80 := HK80.out s hF
    rw [hF] at HUP
    dsimp only at HUP
    have e1 : folPtrT (some s) q = .pointer (some ⟨q, 0, none⟩) := rfl
    have e2 : (some s : Option VT).isSome = true := rfl
    rw [e1, e2]
    have HGS := hideIt hgs
    have HP2 := hideIt hpt2
    have HCT := hideIt hct
    clear hF e1 e2 hpt2 hct HX hgs HK80
    obtain ⟨W4, hW4⟩ : ∃ W4, w3.alloc (.cells #[.bool x.named, .string x.key, .int .i64 x.pl] 39) = W4 := ⟨_, rfl⟩
    have s4 : W4.heap.size = w3.heap.size + 1 := by rw [← hW4]; simp
    have v0 : W4.cell? ⟨w3.heap.size, 0, none⟩ = some (.bool x.named) := by rw [← hW4]; simp
    have v1 : W4.cell? ⟨w3.heap.size, 1, none⟩ = some (.string x.key) := by rw [← hW4]; simp
    have v2 : W4.cell? ⟨w3.heap.size, 2, none⟩ = some (.int .i64 x.pl) := by rw [← hW4]; simp
    rw [hW4] at HB4 H34 z4
    have HDR : Hid (Below W4.heap.size W4 W4.drew) := (Below.refl _ _).drew
    have HTO : Hid (∀ W, Below W4.heap.size W4 W → Calls Try.prog 40 #[.iface ty y] W fun e w' => ∃ p, e = .returned (.pointer (some ⟨p, 0, none⟩)) ∧ PT w2.heap.size w' ws.length TW W.heap.size w'.heap.size (.pointer (some ⟨p, 0, none⟩)) ∧ Below W.heap.size W w') := fun W hb =>
      treeOf_any w2.heap.size ws.length TW _ W (TreeAt.keep (fun c hc => ((hb.block c (by omega)).trans (H34.out.block c (by omega))).trans (H23.out.block c hc)) (Nat.le_refl _) HT.out) (by have := hb.size; omega)
    have HLAY : Hid (∀ (W w5 : World) r, Below W4.heap.size W4 W → Below W.heap.size W w5 → PT w2.heap.size w5 ws.length TW W.heap.size w5.heap.size (.pointer (some ⟨r, 0, none⟩)) → Calls Try.prog 39 #[.pointer (some ⟨q, 0, none⟩), .agg #[.bool x.named, .string x.key, .int .i64 x.pl], .pointer (some ⟨r, 0, none⟩)] w5 fun e w' => e = .returned (.bool (layG TW s x).isSome) ∧ (∀ v, layG TW s x = some v → PR w'.heap.size w' FF (PL v) (.pointer (some ⟨p, 0, none⟩))) ∧ Below w.heap.size w w') := fun W w5 r hb hb5 hpt => by
      have b35 : Below w3.heap.size w3 w5 := (H34.out.trans (hb.mono (by omega))).trans (hb5.mono (by have := hb.size; omega))
      have zb := hb.size
      have z5 := hb5.size
      have hps : PT B' w5 (f + 1) s lo2 hi2 (.pointer (some ⟨q, 0, none⟩)) := HP2.out.below b35 (by omega) (by omega)
      refine (lay_any B' w2.heap.size TW x w5 hps HGS.out (by omega) (by omega) (by omega) hfx.2 HSX.out (by omega) (PT.more hfw hpt) (by omega) (Nat.le_refl _) (by omega)).mono ?_
      rintro e w6 ⟨rfl, h1, h2⟩
      refine ⟨rfl, fun v hv => ?_, ?_⟩
      · refine HCT.out w6 v w6.heap.size (by have := h2.size; omega) (fun c hc ho => ?_) (h1 v hv)
        rw [h2.block c (by omega) ho]
        exact b35.block c (by omega)
      · have hB5 : Below w.heap.size w w5 := HB3.out.trans (b35.mono (by omega))
        exact ⟨h2.os.trans hB5.os, h2.tape.trans hB5.tape, h2.output.trans hB5.output, Nat.le_trans hB5.size h2.size, fun c hc => (h2.block c (by omega) (by omega)).trans (hB5.block c hc)⟩
    have HHT := hideIt hW4
    clear HP2 HCT HGS HT
    go_wp2_with fail
    refine wp_region_any (by kernel_rfl) ?_
    change wpAny _ _ _ _ _ _ _ (World.drew _)
    refine wpAny_take (i := 0) (v := .bool true) rfl (by kernel_rfl) (by kernel_rfl) (by kernel_rfl) (fun _ _ _ h => h) (Or.inl ⟨by kernel_rfl, fun w => ?_⟩) ?_
    · go_simp
    refine wpAny_take (i := 1) (v := .bool false) rfl (by kernel_rfl) (by kernel_rfl) (by kernel_rfl) (fun _ _ _ h => h) (Or.inl ⟨by kernel_rfl, fun w => ?_⟩) ?_
    · go_simp
    refine wpAny_take (i := 2) (v := .bool false) rfl (by kernel_rfl) (by kernel_rfl) (by kernel_rfl) (fun _ _ _ h => h) (Or.inl ⟨by kernel_rfl, fun w => ?_⟩) ?_
    · go_simp
    refine wpAny_take (i := 3) (v := .pointer (some ⟨q, 0, none⟩)) rfl (by kernel_rfl) (by kernel_rfl) (by kernel_rfl) (fun _ _ _ h => h) (Or.inl ⟨by kernel_rfl, fun w => ?_⟩) ?_
    · go_simp
    refine wpAny_take (i := 5) (v := .iface ty y) rfl (by kernel_rfl) (by kernel_rfl) (by kernel_rfl) (fun _ _ _ h => h) (Or.inl ⟨by kernel_rfl, fun w => ?_⟩) ?_
    · go_simp
    go_simp
    refine wpAny_ready (rs := [4, 6]) (by kernel_rfl) (by simp) ?_
    refine AllReady.cons rfl (fun K hK => ?_) (AllReady.cons rfl (fun K hK => ?_) AllReady.nil)
    · go_simp
      refine hK _ _ ?_
      clear hK K
      refine wpAny_ready (rs := [6]) (by kernel_rfl) (by simp) ?_
      refine AllReady.cons rfl (fun K hK => ?_) AllReady.nil
      refine step_call1g (by kernel_rfl) 40 (.tmp 50) 62 (by kernel_rfl) (.iface ty y) (by kernel_rfl) (call_treeOf _) (HTO.out W4.drew HDR.out) ?_
      rintro e w5 ⟨r, rfl, hpt5, hb5⟩
      have HL5 := hideIt (HLAY.out W4.drew w5 r HDR.out hb5 hpt5)
      have hz5 : W4.heap.size ≤ w5.heap.size := hb5.size
      have u0 := (below_cell (b := w3.heap.size) (o := 0) hb5 (by show w3.heap.size < W4.heap.size; omega)).trans v0
      have u1 := (below_cell (b := w3.heap.size) (o := 1) hb5 (by show w3.heap.size < W4.heap.size; omega)).trans v1
      have u2 := (below_cell (b := w3.heap.size) (o := 2) hb5 (by show w3.heap.size < W4.heap.size; omega)).trans v2
      refine ⟨_, rfl, ?_⟩
      refine hK _ _ ?_
      clear hK K hpt5 hb5
      refine wpAny_ready (rs := [7]) (by kernel_rfl) (by simp) ?_
      refine AllReady.cons rfl (fun K hK => ?_) AllReady.nil
      refine step_call3 (by kernel_rfl) 39 (.tmp 48) (.tmp 49) (.tmp 51) 58 39 58 (by kernel_rfl) (.pointer (some ⟨q, 0, none⟩)) (.agg #[.bool x.named, .string x.key, .int .i64 x.pl]) (.pointer (some ⟨r, 0, none⟩)) (by kernel_rfl) (by kernel_rfl) (by kernel_rfl) (call_lay _ _ _) HL5.out ?_
      rintro e w6 ⟨rfl, hpr, hb6⟩
      have HPR := hideIt hpr
      have HB6 := hideIt hb6
      refine ⟨_, rfl, ?_⟩
      refine hK _ _ ?_
      clear hK K hpr hb6
      obtain ⟨LS, hLS⟩ : ∃ LS, layG TW s x = LS := ⟨_, rfl⟩
      rw [hLS] at HPR HUP ⊢
      obtain ⟨BS, hBS⟩ : ∃ BS, LS.isSome = BS := ⟨_, rfl⟩
      rw [hBS]
      refine wpAny_take (i := 8) (v := .bool (!BS)) rfl (by kernel_rfl) (by kernel_rfl) (by kernel_rfl) (fun _ _ _ h => h) (Or.inl ⟨by kernel_rfl, fun w => ?_⟩) ?_
      · go_simp
      refine wpAny_take (i := 9) (v := .bool (!BS)) rfl (by kernel_rfl) (by kernel_rfl) (by kernel_rfl) (fun _ _ _ h => h) (Or.inl ⟨by kernel_rfl, fun w => ?_⟩) ?_
      · go_simp
      go_simp
      refine wpAny_done (by kernel_rfl) ?_ _
      have z6 := HB6.out.size
      cases LS with
      | none =>
        have hB0 : BS = false := hBS.symm
        subst hB0
        obtain ⟨hn1, hn2⟩ := HNO.out HUP.out
        have HN1 := hideIt hn1
        have HN2 := hideIt hn2
        clear hn1 hn2 HNO HYES hBS hLS
        go_wp2_with fail
        go_ret2
        exact ⟨.slice none 0 0, by rw [HN1.out]; rfl, w.heap.size, Nat.le_refl _, HB6.out.size, ⟨fun _ => undef, fun _ => undef, by rw [HN2.out]; exact Nest.nil _ _ _ _⟩, HB6.out⟩
      | some t' =>
        have hB0 : BS = true := hBS.symm
        subst hB0
        have HYU := hideIt (HYES.out _ HUP.out)
        have HPV := hideIt (HPR.out t' rfl)
        obtain ⟨U, hU⟩ : ∃ U, PL t' = U := ⟨_, rfl⟩
        rw [hU] at HYU HPV
        clear HNO HYES hBS hLS hU HUP HPR
        go_wp2_with fail
        refine (rvalue_any w6.heap.size FF U _ w6 HPV.out (Nat.le_refl _)).mono ?_
        rintro e w7 ⟨ty7, y7, rfl, htk, hb7⟩
        have z7 := hb7.size
        have HT7 := hideIt (htk.tree (X := w7.heap.size) (by omega) (Nat.le_refl _))
        have HB7 := hideIt (HB6.out.trans (hb7.mono (by omega)))
        clear htk hb7
        go_wp2_with fail
        refine (rightNodes_any FF U _ (layT FF U 0) _ HT7.out rfl (by have := HYU.out.2.2; omega) (good_fits HYU.out.2.1 (by have := HYU.out.2.2; omega))).mono ?_
        rintro e w8 ⟨rr, base, KV, IV, rfl, hbs, hbs2, hn8, hb8⟩
        rw [← HYU.out.1.1]
        rw [← HYU.out.1.2] at hn8
        have HN8 := hideIt hn8
        obtain ⟨ar, cr, er⟩ := own_slice hn8.row
        obtain ⟨NN, hNN2⟩ : ∃ N, LN.length = N := ⟨_, rfl⟩
        rw [hNN2] at er
        subst er
        have HB8 := hideIt (HB7.out.trans (hb8.mono (by omega)))
        clear hn8 hNN2 hb8
        go_wp2_with fail
        go_ret2
        exact ⟨.slice ar NN cr, base, KV, IV, rfl, by omega, hbs2, HN8.out, HB8.out⟩
    · refine step_call1g (by kernel_rfl) 40 (.tmp 50) 62 (by kernel_rfl) (.iface ty y) (by kernel_rfl) (call_treeOf _) (HTO.out W4.drew HDR.out) ?_
      rintro e w5 ⟨r, rfl, hpt5, hb5⟩
      have HL5 := hideIt (HLAY.out W4.drew w5 r HDR.out hb5 hpt5)
      have hz5 : W4.heap.size ≤ w5.heap.size := hb5.size
      have u0 := (below_cell (b := w3.heap.size) (o := 0) hb5 (by show w3.heap.size < W4.heap.size; omega)).trans v0
      have u1 := (below_cell (b := w3.heap.size) (o := 1) hb5 (by show w3.heap.size < W4.heap.size; omega)).trans v1
      have u2 := (below_cell (b := w3.heap.size) (o := 2) hb5 (by show w3.heap.size < W4.heap.size; omega)).trans v2
      refine ⟨_, rfl, ?_⟩
      refine hK _ _ ?_
      clear hK K hpt5 hb5
      refine wpAny_ready (rs := [4]) (by kernel_rfl) (by simp) ?_
      refine AllReady.cons rfl (fun K hK => ?_) AllReady.nil
      go_simp
      refine hK _ _ ?_
      clear hK K
      refine wpAny_ready (rs := [7]) (by kernel_rfl) (by simp) ?_
      refine AllReady.cons rfl (fun K hK => ?_) AllReady.nil
      refine step_call3 (by kernel_rfl) 39 (.tmp 48) (.tmp 49) (.tmp 51) 58 39 58 (by kernel_rfl) (.pointer (some ⟨q, 0, none⟩)) (.agg #[.bool x.named, .string x.key, .int .i64 x.pl]) (.pointer (some ⟨r, 0, none⟩)) (by kernel_rfl) (by kernel_rfl) (by kernel_rfl) (call_lay _ _ _) HL5.out ?_
      rintro e w6 ⟨rfl, hpr, hb6⟩
      have HPR := hideIt hpr
      have HB6 := hideIt hb6
      refine ⟨_, rfl, ?_⟩
      refine hK _ _ ?_
      clear hK K hpr hb6
      obtain ⟨LS, hLS⟩ : ∃ LS, layG TW s x = LS := ⟨_, rfl⟩
      rw [hLS] at HPR HUP ⊢
      obtain ⟨BS, hBS⟩ : ∃ BS, LS.isSome = BS := ⟨_, rfl⟩
      rw [hBS]
      refine wpAny_take (i := 8) (v := .bool (!BS)) rfl (by kernel_rfl) (by kernel_rfl) (by kernel_rfl) (fun _ _ _ h => h) (Or.inl ⟨by kernel_rfl, fun w => ?_⟩) ?_
      · go_simp
      refine wpAny_take (i := 9) (v := .bool (!BS)) rfl (by kernel_rfl) (by kernel_rfl) (by kernel_rfl) (fun _ _ _ h => h) (Or.inl ⟨by kernel_rfl, fun w => ?_⟩) ?_
      · go_simp
      go_simp
      refine wpAny_done (by kernel_rfl) ?_ _
      have z6 := HB6.out.size
      cases LS with
      | none =>
        have hB0 : BS = false := hBS.symm
        subst hB0
        obtain ⟨hn1, hn2⟩ := HNO.out HUP.out
        have HN1 := hideIt hn1
        have HN2 := hideIt hn2
        clear hn1 hn2 HNO HYES hBS hLS
        go_wp2_with fail
        go_ret2
        exact ⟨.slice none 0 0, by rw [HN1.out]; rfl, w.heap.size, Nat.le_refl _, HB6.out.size, ⟨fun _ => undef, fun _ => undef, by rw [HN2.out]; exact Nest.nil _ _ _ _⟩, HB6.out⟩
      | some t' =>
        have hB0 : BS = true := hBS.symm
        subst hB0
        have HYU := hideIt (HYES.out _ HUP.out)
        have HPV := hideIt (HPR.out t' rfl)
        obtain ⟨U, hU⟩ : ∃ U, PL t' = U := ⟨_, rfl⟩
        rw [hU] at HYU HPV
        clear HNO HYES hBS hLS hU HUP HPR
        go_wp2_with fail
        refine (rvalue_any w6.heap.size FF U _ w6 HPV.out (Nat.le_refl _)).mono ?_
        rintro e w7 ⟨ty7, y7, rfl, htk, hb7⟩
        have z7 := hb7.size
        have HT7 := hideIt (htk.tree (X := w7.heap.size) (by omega) (Nat.le_refl _))
        have HB7 := hideIt (HB6.out.trans (hb7.mono (by omega)))
        clear htk hb7
        go_wp2_with fail
        refine (rightNodes_any FF U _ (layT FF U 0) _ HT7.out rfl (by have := HYU.out.2.2; omega) (good_fits HYU.out.2.1 (by have := HYU.out.2.2; omega))).mono ?_
        rintro e w8 ⟨rr, base, KV, IV, rfl, hbs, hbs2, hn8, hb8⟩
        rw [← HYU.out.1.1]
        rw [← HYU.out.1.2] at hn8
        have HN8 := hideIt hn8
        obtain ⟨ar, cr, er⟩ := own_slice hn8.row
        obtain ⟨NN, hNN2⟩ : ∃ N, LN.length = N := ⟨_, rfl⟩
        rw [hNN2] at er
        subst er
        have HB8 := hideIt (HB7.out.trans (hb8.mono (by omega)))
        clear hn8 hNN2 hb8
        go_wp2_with fail
        go_ret2
        exact ⟨.slice ar NN cr, base, KV, IV, rfl, by omega, hbs2, HN8.out, HB8.out⟩
end Go.Proofs.Ytpakfgonemiebaa
