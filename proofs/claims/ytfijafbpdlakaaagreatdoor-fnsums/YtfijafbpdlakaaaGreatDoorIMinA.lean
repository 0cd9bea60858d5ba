/-
  impl.plus at two texts.
-/
import Derived.Test.YtfijafbpdlakaaaGreatDoorIPls0
import Derived.Laws.Concat
import Derived.Test.YtfijafbpdlakaaaGreatDoorStepN
import Derived.Test.YtfijafbpdlakaaaGreatDoorVAt
import Derived.Test.YtfijafbpdlakaaaGreatDoorVal
namespace Go.Proofs.YtfijafbpdlakaaaGreatDoor
open Go.RowKit
set_option linter.unusedSimpArgs false
set_option linter.unusedVariables false

theorem tree_text (B : Nat) (w : World) (s : ByteArray) : TreeAt B w 1 (.mk 4 0 s [] []) (.iface 89 (.agg #[.string s])) := Or.inr (Or.inr (Or.inr (Or.inl ⟨rfl, rfl, rfl, rfl, rfl⟩)))
theorem lay_text (s : ByteArray) : layT 1 (.mk 4 0 s [] []) 0 = leafN 4 0 s := rfl
theorem tp_text_int (x : Value) (w : World) : (Instr.typeAssert (.iface 89 x) 54 86 true).run Tryz.prog w = .ok (.tuple #[.agg #[.int .i64 0], .bool false]) w := by kernel_rfl
theorem text_few (s : ByteArray) (h : s.size ≤ 140737488355328) : ∀ i, i < (leafN 4 0 s).length → Fits (nodeAt (leafN 4 0 s) i) := by
  intro i hi
  obtain rfl : i = 0 := by simp [leafN] at hi; omega
  refine ⟨by simp [leafN, nodeAt], fun i hi => absurd hi (by simp [leafN, nodeAt]), by simp [leafN, nodeAt], fun i hi => absurd hi (by simp [leafN, nodeAt]), by simpa [leafN, nodeAt] using h, by simp [leafN, nodeAt], by simp [leafN, nodeAt], by simp [leafN, nodeAt], by simp [leafN, nodeAt]⟩
theorem root_s {us : List VN} (hok : okB us = true) (hk : (rootN us).kind = 4) : (rootN us).s.size ≤ 60 := by
  rcases root_says hok with k | k | ⟨k, a, b⟩ | ⟨k, a⟩ | ⟨k, a⟩ | ⟨k, a⟩
  · omega
  · omega
  · omega
  · exact a
  · omega
  · omega

set_option maxRecDepth 100000 in
set_option maxHeartbeats 3200000 in
theorem plus_text (us vs : List VN) (h1 : okB us = true) (h2 : okB vs = true) (lo B lo' B' : Nat) (hlo : lo ≤ B) (hlo' : lo' ≤ B') (x y : Value) (w : World) (hx : ValIs lo B w us us.length (us.length - 1) x) (hy : ValIs lo' B' w vs vs.length (vs.length - 1) y) (hB : B ≤ w.heap.size) (hB' : B' ≤ w.heap.size) (hE : Errs2 w) (hk4 : (rootN us).kind = 4) (hk4' : (rootN vs).kind = 4) :
    Calls Tryz.prog 25 #[x, y] w fun e w' => MergeAns (plusC us vs) (plusNs us vs) e w' ∧ Below w.heap.size w w' := by
  obtain ⟨tx, vx, Fx, rfl, kx⟩ := kindIs hx
  obtain ⟨ty, vy, Fy, rfl, ky⟩ := kindIs hy
  have HKX := hideIt kx
  have HKY := hideIt ky
  have HE := hideIt hE
  have m1 := kx.meth
  have e1 := kx.enter
  have m2 := ky.meth
  have e2 := ky.enter
  clear kx ky hE
  have heq : ((nodeAt us (us.length - 1)).kind != (nodeAt vs (vs.length - 1)).kind) = false := by
    have : (nodeAt us (us.length - 1)).kind = (nodeAt vs (vs.length - 1)).kind := hk4.trans hk4'.symm
    simpa using this
  have ti0 := tp_text_int
  have ti1 := ta_text_text
  have tbi := tb_text
  have fli := fld_text
  obtain ⟨p1, _, _, _⟩ := okB_parts h1
  obtain ⟨p2, _, _, _⟩ := okB_parts h2
  obtain ⟨f, hf⟩ : ∃ f, us.length = f + 1 := ⟨us.length - 1, by omega⟩
  obtain ⟨f', hf'⟩ : ∃ f', vs.length = f' + 1 := ⟨vs.length - 1, by omega⟩
  have n1 := root_s h1 hk4
  have n2 := root_s h2 hk4'
  have HM := hideIt (plus_raw h1 h2 (by omega) (by omega) (by omega))
  rw [raw_text hk4] at HM
  have hz1 : ((nodeAt us (us.length - 1)).kind == 1) = false := by
    have : ¬ (nodeAt us (us.length - 1)).kind = 1 := by have : (nodeAt us (us.length - 1)).kind = 4 := hk4
                                                        omega
    simpa using this
  have hz2 : ((nodeAt vs (vs.length - 1)).kind == 1) = false := by
    have : ¬ (nodeAt vs (vs.length - 1)).kind = 1 := by have : (nodeAt vs (vs.length - 1)).kind = 4 := hk4'
                                                        omega
    simpa using this
  have HDN : Hid (textNs us vs = leafN 4 0 ((rootN us).s ++ (rootN vs).s)) := rfl
  obtain ⟨nx, hnx⟩ : ∃ nx, (rootN us).s = nx := ⟨_, rfl⟩
  obtain ⟨ny, hny⟩ : ∃ ny, (rootN vs).s = ny := ⟨_, rfl⟩
  rw [hnx] at n1 HDN
  rw [hny] at n2 HDN
  have ex : vx = .agg #[.string nx] ∧ tx = 89 := by
    have hx2 := hx
    rw [hf, show f + 1 - 1 = f by omega] at hx2
    have hr : nodeAt us f = rootN us := by unfold rootN; rw [hf]; rfl
    unfold ValIs at hx2
    rw [hr, hnx] at hx2
    rcases hx2 with ⟨k, e⟩ | ⟨k, e⟩ | ⟨k, e⟩ | ⟨k, e⟩ | ⟨k, it, e, hi⟩ | ⟨k, ks, it, e, hs, hi⟩
    case inr.inr.inr.inl => cases e; exact ⟨rfl, rfl⟩
    all_goals exact absurd k (by omega)
  have ey : vy = .agg #[.string ny] ∧ ty = 89 := by
    have hy2 := hy
    rw [hf', show f' + 1 - 1 = f' by omega] at hy2
    have hr : nodeAt vs f' = rootN vs := by unfold rootN; rw [hf']; rfl
    unfold ValIs at hy2
    rw [hr, hny] at hy2
    rcases hy2 with ⟨k, e⟩ | ⟨k, e⟩ | ⟨k, e⟩ | ⟨k, e⟩ | ⟨k, it, e, hi⟩ | ⟨k, ks, it, e, hs, hi⟩
    case inr.inr.inr.inl => cases e; exact ⟨rfl, rfl⟩
    all_goals exact absurd k (by omega)
  obtain ⟨rfl, rfl⟩ := ex
  obtain ⟨rfl, rfl⟩ := ey
  have HLF := hideIt (text_few (nx ++ ny) (by rw [ByteArray.size_append]; omega))
  have hcat : ∀ w, (Op.stringOp .add nx ny).run Tryz.prog w = .ok (.string (nx ++ ny)) w := fun w => run_string_add_sum w nx ny (by omega)
  have hsum : ¬ (nx.size + ny.size > 9223372036854775807) := by omega
  clear hx hy hnx hny p1 p2 hf hf'
  go_enter Tryz.func25, Tryz.ntmps25
  go_wp2_with fail
  refine (HKX.out.says _).mono ?_
  rintro e w1 ⟨rfl, hb1⟩
  have HB1 := hideIt hb1
  clear hb1
  go_wp2_with fail
  refine (HKY.out.says _).mono ?_
  rintro e wa ⟨rfl, hba⟩
  have HBa := hideIt (HB1.out.trans (hba.mono HB1.out.size))
  clear hba
  go_wp2_with fail
  refine (HKX.out.says _).mono ?_
  rintro e wb ⟨rfl, hbb⟩
  have HBb := hideIt (HBa.out.trans (hbb.mono HBa.out.size))
  clear hbb
  go_wp2_with fail
  refine (HKY.out.says _).mono ?_
  rintro e w2 ⟨rfl, hb2⟩
  have HB2 := hideIt (HBb.out.trans (hb2.mono HBb.out.size))
  have HE2 := hideIt ((HE.out.below HB2.out).below ((Below.refl _ _).alloc (Nat.le_refl _) (.cells #[.string nx] 89)))
  clear hb2
  go_wp2_with fail
  obtain ⟨W, hW⟩ : ∃ W, w2.alloc (.cells #[.string nx] 89) = W := ⟨_, rfl⟩
  have c0 : W.cell? ⟨w2.heap.size, 0, none⟩ = some (.string nx) := by rw [← hW]; simp
  have HBW : Hid (Below w.heap.size w W) := by rw [Hid, ← hW]; exact HB2.out.alloc HB2.out.size _
  rw [hW] at HE2 ⊢
  have HED := hideIt (HE2.out.below (w' := W.drew) (bsame rfl rfl rfl rfl))
  have HBD : Hid (Below w.heap.size w W.drew) := HBW.out.drew
  clear hW
  have HDM := HDN
  have HLG := HLF
  cases ok : okB (leafN 4 0 (nx ++ ny))
  · go_region_law (refine step_call1 (by rfl) 53 _ _ (by rfl) (.iface 89 (.agg #[.string (nx ++ ny)])) (by rfl) (call_unless _) (unlessWrong_no 1 (.mk 4 0 (nx ++ ny) [] []) _ (leafN 4 0 (nx ++ ny)) _ (tree_text _ _ _) (lay_text _) (by simp [leafN]) HLG.out HED.out ok) ?_; rintro e w3 ⟨te, xe, rfl, hq⟩; refine ⟨_, rfl, ?_⟩)
    all_goals
      have HB3 := hideIt (HBD.out.trans (hq.mono HBD.out.size))
      clear hq
      go_wp2_with fail
      go_ret2
      exact ⟨Or.inr ⟨by rw [HM.out.2, HDM.out, ok]; rfl, _, rfl, by rw [HM.out.1, HDM.out, ok]; exact ⟨te, xe, rfl⟩⟩, HB3.out⟩
  · go_region_law (refine step_call1 (by rfl) 53 _ _ (by rfl) (.iface 89 (.agg #[.string (nx ++ ny)])) (by rfl) (call_unless _) (unlessWrong_yes 1 (.mk 4 0 (nx ++ ny) [] []) _ (leafN 4 0 (nx ++ ny)) _ (tree_text _ _ _) (lay_text _) (by simp [leafN]) HLG.out HED.out ok) ?_; rintro e w3 ⟨rfl, hq⟩; refine ⟨_, rfl, ?_⟩)
    all_goals
      have HB3 := hideIt (HBD.out.trans (hq.mono HBD.out.size))
      clear hq
      go_wp2_with fail
      go_ret2
      exact ⟨Or.inl ⟨by rw [HM.out.1, HDM.out, ok]; rfl, 1, _, _, _, rfl, tree_text _ _ _, by rw [HM.out.2, HDM.out, ok]; exact lay_text _⟩, HB3.out⟩
end Go.Proofs.YtfijafbpdlakaaaGreatDoor

/-
  impl.without: the items that are the same as none of others.
-/
namespace Go.Proofs.YtfijafbpdlakaaaGreatDoor
open Go.RowKit
set_option linter.unusedSimpArgs false
set_option linter.unusedVariables false

/-- A row of values. -/
def ValsAt (w : World) (it : Value) (m : Nat) (V : Nat → Value) : Prop :=
  ∃ a cap, it = .slice a m cap ∧ (0 < m → ∃ b, a = some ⟨b, 0, none⟩ ∧ b < w.heap.size ∧ ∀ j, j < m → w.cell? ⟨b, j, none⟩ = some (V j)) ∧ ∀ j, j < m → ∃ t x, V j = .iface t x

theorem ValsAt.below {w w' : World} {it : Value} {m : Nat} {V : Nat → Value} (h : ValsAt w it m V) (hb : Below w.heap.size w w') : ValsAt w' it m V := by
  obtain ⟨a, cap, e, hc, hi⟩ := h
  refine ⟨a, cap, e, fun hp => ?_, hi⟩
  obtain ⟨b, ea, hbl, hcc⟩ := hc hp
  exact ⟨b, ea, Nat.lt_of_lt_of_le hbl hb.size, fun j hj => (below_cell hb hbl).trans (hcc j hj)⟩

/-- What a closure says of the values of a row, from a world on. -/
def Says (w : World) (c : Value) (m : Nat) (V : Nat → Value) (h : Nat → Bool) : Prop :=
  ∀ w', Below w.heap.size w w' → ∀ k, k < m → Calls Tryz.prog 83 #[V k, c] w' fun e w'' => e = .returned (.bool (h k)) ∧ Below w'.heap.size w' w''

set_option maxRecDepth 100000 in
set_option maxHeartbeats 1600000 in
theorem indexFunc_any (it c : Value) (m : Nat) (V : Nat → Value) (h : Nat → Bool) (w : World) (hv : ValsAt w it m V) (hs : Says w c m V h) (hm : m ≤ 1000000) :
    Calls Tryz.prog 95 #[it, .func (.func 83) #[] #[c]] w fun e w' => (∃ r : Int, e = .returned (.int .i64 r) ∧ (decide (0 ≤ r)) = anyTo h m ∧ -1 ≤ r ∧ r ≤ 1000000) ∧ Below w.heap.size w w' := by
  have HS := hideIt hs
  have HV := hideIt hv
  obtain ⟨a, cap, rfl, _, _⟩ := hv
  clear hs
  go_enter Tryz.func95, Tryz.ntmps95
  go_wp2_with fail
  go_loopw [5, 8] (fun _ i wr => ∃ k : Nat, k ≤ m ∧ i = .int .i64 k ∧ Hid (anyTo h k = false) ∧ Below w.heap.size w wr) (fun _ i _ => m - (intOf i).toNat)
  case atStart => exact ⟨0, Nat.zero_le _, rfl, rfl, Below.refl _ _⟩
  case round =>
    obtain ⟨k, hk, rfl, HN, hbl⟩ := hrel
    by_cases hlt : k < m
    · obtain ⟨a', cap', e', hc, hi⟩ := HV.out
      cases e'
      obtain ⟨b, rfl, hbl2, hcc⟩ := hc (by omega)
      obtain ⟨t, x, hx⟩ := hi k hlt
      have hcell := (below_cell hbl hbl2).trans (hcc k hlt)
      rw [hx] at hcell
      have HC := hideIt (HS.out wr hbl k hlt)
      rw [hx] at HC
      clear hc hi hcc
      cases hh : h k
      · rw [hh] at HC
        have HN2 : Hid (anyTo h (k + 1) = false) := by rw [Hid, anyTo, HN.out, hh]; rfl
        go_wp2_with fail
        refine HC.out.mono ?_
        rintro e w1 ⟨rfl, hb1⟩
        have HB1 := hideIt (hbl.trans (hb1.mono hbl.size))
        clear hb1
        go_wp2_with fail
        go_roundw
        case rel => exact ⟨k + 1, by omega, by go_num, HN2, HB1.out⟩
        case measure => simp [intOf]; omega
      · rw [hh] at HC
        have HY := hideIt (anyTo_yes hlt hh)
        go_wp2_with fail
        refine HC.out.mono ?_
        rintro e w1 ⟨rfl, hb1⟩
        have HB1 := hideIt (hbl.trans (hb1.mono hbl.size))
        clear hb1
        go_wp2_with fail
        go_ret
        exact ⟨⟨k, rfl, by rw [HY.out]; simp, by omega, by omega⟩, HB1.out⟩
    · obtain rfl : k = m := by omega
      go_wp2_with fail
      go_ret
      exact ⟨⟨-1, rfl, by rw [HN.out]; rfl, by omega, by omega⟩, hbl⟩

set_option maxHeartbeats 800000 in
theorem containsFunc_any (it c : Value) (m : Nat) (V : Nat → Value) (h : Nat → Bool) (w : World) (hv : ValsAt w it m V) (hs : Says w c m V h) (hm : m ≤ 1000000) :
    Calls Tryz.prog 82 #[it, .func (.func 83) #[] #[c]] w fun e w' => e = .returned (.bool (anyTo h m)) ∧ Below w.heap.size w w' := by
  have HS := hideIt hs
  have HV := hideIt hv
  obtain ⟨a, cap, rfl, _, _⟩ := hv
  clear hs
  go_enter Tryz.func82, Tryz.ntmps82
  go_wp2_with fail
  refine (indexFunc_any _ c m V h w HV.out HS.out hm).mono ?_
  rintro e w1 ⟨⟨r, rfl, hr, h1, h2⟩, hb⟩
  have HR := hideIt hr
  clear hr
  go_wp2_with fail
  all_goals
    go_ret
    exact ⟨ret_bool (by rw [← HR.out]; try simp [*]), hb⟩

set_option maxRecDepth 100000 in
set_option maxHeartbeats 3200000 in
theorem without_any (it it' : Value) (m m' : Nat) (V V' : Nat → Value) (g : Nat → Nat → Bool) (w : World) (hv : ValsAt w it m V) (hv' : ValsAt w it' m' V') (hm : m ≤ 1000) (hm' : m' ≤ 1000)
    (hs : ∀ w1, Below w.heap.size w w1 → ∀ xb i, i < m → w1.cell? ⟨xb, 0, none⟩ = some (V i) → xb < w1.heap.size → Says w1 (.pointer (some ⟨xb, 0, none⟩)) m' V' (g i)) :
    Calls Tryz.prog 60 #[it, it'] w fun e w' => ∃ r, e = .returned r ∧ w'.ownsRow w.heap.size 54 1 r (pickIx (fun i => anyTo (g i) m') m).length ((pickIx (fun i => anyTo (g i) m') m).map V) ∧ Below w.heap.size w w' := by
  have HV := hideIt hv
  have HV' := hideIt hv'
  have HS := hideIt hs
  obtain ⟨i0, hi0, hz0, hs0, hy0⟩ := info_parts infoVal
  obtain ⟨a, cap, rfl, _, _⟩ := hv
  obtain ⟨a', cap', rfl, _, _⟩ := hv'
  clear hs
  go_enter Tryz.func60, Tryz.ntmps60
  go_wp2_with fail
  go_loopw [5, 7, 10] (fun o _ i wr => ∃ (k : Nat), k ≤ m ∧ i = .int .i64 k ∧ wr.ownsRow w.heap.size 54 1 o (pickIx (fun i => anyTo (g i) m') k).length ((pickIx (fun i => anyTo (g i) m') k).map V) ∧ Below w.heap.size w wr) (fun _ _ i _ => m - (intOf i).toNat)
  case atStart => exact ⟨0, Nat.zero_le _, rfl, World.ownsRow_nil _ _ _ _, Below.refl _ _⟩
  case round =>
    obtain ⟨k, hk, rfl, hrow, hbl⟩ := hrel
    have HROW := hideIt hrow
    have zs := hbl.size
    obtain ⟨ao, co, eo⟩ := own_slice hrow
    have HPL := hideIt (pickIx_lt (fun i => anyTo (g i) m') k)
    obtain ⟨ps, hps⟩ : ∃ ps, pickIx (fun i => anyTo (g i) m') k = ps := ⟨_, rfl⟩
    have HPS := hideIt hps
    rw [hps] at eo HROW HPL
    obtain ⟨N, hN⟩ : ∃ N, ps.length = N := ⟨_, rfl⟩
    have HN := hideIt hN
    rw [hN] at eo
    subst eo
    have hNk : N ≤ k := by rw [← hN]; exact HPL.out.1
    clear hrow hps hN
    by_cases hlt : k < m
    · obtain ⟨a2, cap2, e2, hc, hi⟩ := HV.out
      cases e2
      obtain ⟨b, rfl, hbb, hcc⟩ := hc (by omega)
      obtain ⟨t, x, hx⟩ := hi k hlt
      have hcell := (below_cell hbl hbb).trans (hcc k hlt)
      rw [hx] at hcell
      have HX := hideIt hx
      clear hc hi hcc hx
      obtain ⟨W1, hW1⟩ : ∃ W1, wr.alloc (.cells #[.iface t x] 54) = W1 := ⟨_, rfl⟩
      have hx1 : W1.cell? ⟨wr.heap.size, 0, none⟩ = some (.iface t x) := by rw [← hW1]; simp
      have hz1 : W1.heap.size = wr.heap.size + 1 := by rw [← hW1]; simp
      have HB1 : Hid (Below w.heap.size w W1) := by rw [Hid, ← hW1]; exact hbl.alloc zs _
      have HR1 : Hid (W1.ownsRow w.heap.size 54 1 (.slice ao N co) ps.length (ps.map V)) := by rw [Hid, ← hW1]; exact HROW.out.alloc _
      have HW1 := hideIt hW1
      have HSY := hideIt (HS.out W1 HB1.out wr.heap.size k hlt (by rw [HX.out]; exact hx1) (by omega))
      have hlt1 : wr.heap.size < W1.heap.size := by omega
      have HX1 := hideIt hx1
      clear hW1 hx1 hz1
      have HG : Hid (∃ q, anyTo (g k) m' = q) := ⟨_, rfl⟩
      go_wp2_with fail
      rw [HW1.out]
      refine (containsFunc_any _ _ m' V' (g k) W1 (HV'.out.below HB1.out) HSY.out (by omega)).mono ?_
      rintro e w2 ⟨rfl, hb2⟩
      have HB2 := hideIt (HB1.out.trans (hb2.mono HB1.out.size))
      have HR2 := hideIt (own_from HR1.out ((From.refl w.heap.size W1).below hb2))
      have hx2 := (below_cell hb2 hlt1).trans HX1.out
      have z2 := hb2.size
      clear hb2
      cases hq : anyTo (g k) m'
      · have HPK : Hid (pickIx (fun i => anyTo (g i) m') (k + 1) = ps ++ [k]) := by rw [Hid, pickIx]; simp only [hq]; rw [HPS.out]; rfl
        go_wp2_with (at_builtin; refine wpList_append_own_at _ rfl _ _ 57 rfl w.heap.size 54 i0 .nilIface 1 16 Tryz.underlying57 hi0 hz0 hs0 hy0 rfl (by decide) _ _ _ rfl (HR2.out.alloc _) ⟨w2.heap.size, 0, none⟩ 1 1 [.iface t x] rfl rfl ?c1 ?c2 ?c3 ?c4 ?c5 ?_)
        case c1 => exact cell_one_new _ _ _
        case c2 => intro u hu; simp at hu; subst hu; rfl
        case c3 => have := HN.out; unfold maxLen; omega
        case c4 => have := HN.out; omega
        case c5 => simp; omega
        intro v' w5 hown hgrow _ _
        have HR5 : Hid (w5.ownsRow w.heap.size 54 1 v' (pickIx (fun i => anyTo (g i) m') (k + 1)).length ((pickIx (fun i => anyTo (g i) m') (k + 1)).map V)) := by
          rw [Hid, HPK.out, List.map_append, List.length_append]
          simp only [List.map_cons, List.map_nil, List.length_singleton]
          rw [HX.out]
          exact hown
        have HB5 : Hid (Below w.heap.size w w5) := (HB2.out.alloc HB2.out.size _).grown hgrow (by have := HB2.out.size; simp; omega) (fun y hy => (HR2.out.lt y hy).1)
        clear hown hgrow
        go_wp2_with fail
        go_roundw
        case rel => exact ⟨k + 1, by omega, by go_num, HR5.out, HB5.out⟩
        case measure => simp [intOf]; omega
      · have HPK : Hid (pickIx (fun i => anyTo (g i) m') (k + 1) = ps) := by rw [Hid, pickIx]; simp only [hq]; rw [if_pos trivial]; exact HPS.out
        have HR5 : Hid (w2.ownsRow w.heap.size 54 1 (.slice ao N co) (pickIx (fun i => anyTo (g i) m') (k + 1)).length ((pickIx (fun i => anyTo (g i) m') (k + 1)).map V)) := by rw [Hid, HPK.out]; exact HR2.out
        go_wp2_with fail
        go_roundw
        case rel => exact ⟨k + 1, by omega, by go_num, HR5.out, HB2.out⟩
        case measure => simp [intOf]; omega
    · obtain rfl : k = m := by omega
      have HR5 : Hid (wr.ownsRow w.heap.size 54 1 (.slice ao N co) (pickIx (fun i => anyTo (g i) m') k).length ((pickIx (fun i => anyTo (g i) m') k).map V)) := by rw [Hid, HPS.out]; exact HROW.out
      go_wp2_with fail
      go_ret
      exact ⟨_, rfl, HR5.out, hbl⟩
end Go.Proofs.YtfijafbpdlakaaaGreatDoor
