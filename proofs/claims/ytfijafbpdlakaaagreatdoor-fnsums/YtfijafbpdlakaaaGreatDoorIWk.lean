/-
  impl.withKeysOf: a map of the keys of both; those that are in both are the second's.
-/
import Derived.Test.YtfijafbpdlakaaaGreatDoorBSrch
import Derived.Test.YtfijafbpdlakaaaGreatDoorStbN
import Derived.Test.YtfijafbpdlakaaaGreatDoorStepN
import Derived.Deep.RegionWith
namespace Go.Proofs.YtfijafbpdlakaaaGreatDoor
open Go.RowKit
set_option linter.unusedSimpArgs false
set_option linter.unusedVariables false

theorem call_cloneS (u : Value) : ∀ w, (callFunc 77 #[u]).run Tryz.prog w = .ok (.enter 77 #[u]) w := fun w => by kernel_rfl
theorem call_cloneV (u : Value) : ∀ w, (callFunc 78 #[u]).run Tryz.prog w = .ok (.enter 78 #[u]) w := fun w => by kernel_rfl

def wkIx (l l' : List ByteArray) (i : Nat) : List Nat := pickIx (fun i => hasK l' (keyAt l i)) i
def wkK (l l' : List ByteArray) : List ByteArray := l' ++ (wkIx l l' l.length).map (keyAt l)
def wkV (l l' : List ByteArray) (V V' : Nat → Value) (j : Nat) : Value := if j < l'.length then V' j else V ((wkIx l l' l.length).getD (j - l'.length) 0)

theorem wkV_row (l l' : List ByteArray) (V V' : Nat → Value) : (List.range l'.length).map V' ++ (wkIx l l' l.length).map V = (List.range (wkK l l').length).map (wkV l l' V V') := by
  apply List.ext_getElem
  · simp [wkK]
  · intro i h1 h2
    rw [List.getElem_append]
    split
    · rename_i h
      have : i < l'.length := by simpa using h
      simp [wkV, this]
    · rename_i h
      have : ¬ i < l'.length := by simpa using h
      have h3 : i - l'.length < (wkIx l l' l.length).length := by simp [wkK] at h2; omega
      simp [wkV, this, h3]

theorem wkK_row (l l' : List ByteArray) : l'.map Value.string ++ (wkIx l l' l.length).map (fun i => Value.string (keyAt l i)) = (wkK l l').map Value.string := by
  simp [wkK]

theorem wk_its {base : Nat} {wr : World} {v : Value} {n : Nat} {V : Nat → Value} (h : wr.ownsRow base 54 1 v n ((List.range n).map V)) (hi : ∀ j, j < n → ∃ t x, V j = .iface t x) : ItsAt wr v n V := by
  obtain ⟨a, c, e⟩ := own_slice h
  subst e
  refine ⟨a, c, rfl, fun hp => ?_⟩
  obtain ⟨g, cap, e, _, hlt⟩ := h.form hp
  cases e
  exact ⟨g, rfl, hlt, fun j hj => ⟨by rw [h.cellAt j (by omega)]; simp [hj], hi j hj⟩⟩

theorem wkIx_lt (l l' : List ByteArray) {j : Nat} (h : j < (wkIx l l' l.length).length) : (wkIx l l' l.length).getD j 0 < l.length := by
  refine (pickIx_lt (fun i => hasK l' (keyAt l i)) l.length).2 _ ?_
  rw [List.getD_eq_getElem?_getD, List.getElem?_eq_getElem h]
  exact List.getElem_mem _

theorem wkV_iface {l l' : List ByteArray} {V V' : Nat → Value} (hV : ∀ j, j < l.length → ∃ t x, V j = .iface t x) (hV' : ∀ j, j < l'.length → ∃ t x, V' j = .iface t x) : ∀ j, j < (wkK l l').length → ∃ t x, wkV l l' V V' j = .iface t x := by
  intro j hj
  unfold wkV
  split
  · rename_i h; exact hV' j h
  · rename_i h
    refine hV _ (wkIx_lt l l' ?_)
    simp [wkK] at hj
    omega

theorem wkK_size {l l' : List ByteArray} {n : Nat} (h1 : ∀ i, i < l.length → (keyAt l i).size ≤ n) (h2 : ∀ i, i < l'.length → (keyAt l' i).size ≤ n) : ∀ i, i < (wkK l l').length → (keyAt (wkK l l') i).size ≤ n := by
  intro i hi
  by_cases h : i < l'.length
  · have : keyAt (wkK l l') i = keyAt l' i := by unfold wkK keyAt; rw [List.getD_eq_getElem?_getD, List.getD_eq_getElem?_getD, List.getElem?_append_left h]
    rw [this]; exact h2 i h
  · have hl : i - l'.length < (wkIx l l' l.length).length := by simp [wkK] at hi; omega
    have : keyAt (wkK l l') i = keyAt l ((wkIx l l' l.length).getD (i - l'.length) 0) := by
      unfold wkK
      rw [keyAt, List.getD_eq_getElem?_getD, List.getElem?_append_right (by omega), List.getElem?_map, List.getElem?_eq_getElem hl, List.getD_eq_getElem?_getD, List.getElem?_eq_getElem hl]
      rfl
    rw [this]; exact h1 _ (wkIx_lt l l' hl)

theorem own_two {w : World} {b e s n b' e' s' n' : Nat} {v v' : Value} {xs xs' : List Value} (h1 : w.ownsRow b e s v n xs) (h2 : w.ownsRow b' e' s' v' n' xs') (hne : e ≠ e') : v'.ownBlock = none ∨ v'.ownBlock ≠ v.ownBlock := by
  rcases h2.2 with ⟨rfl, _⟩ | ⟨g, cap, cur, rfl, _, hg, _⟩
  · exact Or.inl rfl
  · refine Or.inr fun e2 => ?_
    rcases h1.2 with ⟨rfl, _⟩ | ⟨g', cap', cur', rfl, _, hg', _⟩
    · cases e2
    · simp [Value.ownBlock] at e2
      subst e2
      rw [hg] at hg'
      cases hg'
      exact hne rfl

set_option maxRecDepth 100000 in
set_option maxHeartbeats 8000000 in
theorem withKeysOf_any (B : Nat) (kv iv kv' iv' : Value) (l l' : List ByteArray) (V V' : Nat → Value) (w : World) (hk : StrsAt B w kv l) (hi : ValsAt w iv l.length V) (hk' : StrsAt B w kv' l') (hi' : ValsAt w iv' l'.length V') (hB : B ≤ w.heap.size) (hr : Rise l') (hn : l.length ≤ 80) (hn' : l'.length ≤ 80) :
    Calls Tryz.prog 55 #[.agg #[kv, iv], .agg #[kv', iv']] w fun e w' => ∃ f k2 i2, e = .returned (.agg #[k2, i2]) ∧ Blk (RK (wkK l l')) (fun p => (p : Int)) f 0 (wkK l l').length ∧ w'.ownsRow w.heap.size 9 1 k2 (wkK l l').length (keysTo (wkK l l') f (wkK l l').length) ∧ w'.ownsRow w.heap.size 54 1 i2 (wkK l l').length (itemsTo (wkV l l' V V') f (wkK l l').length) ∧ Below w.heap.size w w' := by
  have HK := hideIt hk
  have HI := hideIt hi
  have HK' := hideIt hk'
  have HI' := hideIt hi'
  have HRI := hideIt hr
  obtain ⟨_, _, ak, ck, rfl, _⟩ := hk
  obtain ⟨ai, ci, rfl, _, _⟩ := hi
  obtain ⟨_, _, ak', ck', rfl, _⟩ := hk'
  obtain ⟨ai', ci', rfl, _, _⟩ := hi'
  obtain ⟨N, hN⟩ : ∃ N, l.length = N := ⟨_, rfl⟩
  obtain ⟨N', hN'⟩ : ∃ N', l'.length = N' := ⟨_, rfl⟩
  have HN := hideIt hN
  have HN' := hideIt hN'
  rw [hN] at hn ⊢
  rw [hN'] at hn' ⊢
  rw [hN] at HK HI
  rw [hN'] at HK' HI'
  clear hN hN' hr
  obtain ⟨j0, hj0, hy0, hs0, hbb0⟩ := info_parts infoS1
  obtain ⟨j1, hj1, hy1, hs1, hb1'⟩ := info_parts infoV1
  obtain ⟨W3, hW3⟩ : ∃ W3, W3 = ((w.alloc (.cells #[.slice ak N ck, .slice ai N ci] 94)).alloc (.cells #[.slice ak' N' ck', .slice ai' N' ci'] 94)).alloc (.cells #[.slice none 0 0, .slice none 0 0] 94) := ⟨_, rfl⟩
  have z3 : W3.heap.size = w.heap.size + 1 + 1 + 1 := by rw [hW3]; simp
  have HB3 : Hid (Below w.heap.size w W3) := by
    rw [Hid, hW3]
    exact (((Below.refl _ _).alloc (Nat.le_refl _) _).alloc (by simp) _).alloc (by simp; omega) _
  have hra : W3.rowIs w.heap.size 94 2 (fun i => if i = 0 then .slice ak N ck else .slice ai N ci) := by
    rw [hW3]
    exact ((World.rowIs_alloc w #[.slice ak N ck, .slice ai N ci] 94 (fun i => if i = 0 then .slice ak N ck else .slice ai N ci) (fun i hi => by
      match i, hi with
      | 0, _ => rfl
      | 1, _ => rfl)).alloc _).alloc _
  have hrb : W3.rowIs (w.heap.size + 1) 94 2 (fun i => if i = 0 then .slice ak' N' ck' else .slice ai' N' ci') := by
    rw [hW3]
    have := ((World.rowIs_alloc (w.alloc (.cells #[.slice ak N ck, .slice ai N ci] 94)) #[.slice ak' N' ck', .slice ai' N' ci'] 94 (fun i => if i = 0 then .slice ak' N' ck' else .slice ai' N' ci') (fun i hi => by
      match i, hi with
      | 0, _ => rfl
      | 1, _ => rfl)).alloc (.cells #[.slice none 0 0, .slice none 0 0] 94))
    rw [World.size_alloc] at this
    exact this
  have hrc : W3.rowIs (w.heap.size + 1 + 1) 94 2 (fun _ => .slice none 0 0) := by
    rw [hW3]
    have := World.rowIs_alloc ((w.alloc (.cells #[.slice ak N ck, .slice ai N ci] 94)).alloc (.cells #[.slice ak' N' ck', .slice ai' N' ci'] 94)) #[.slice none 0 0, .slice none 0 0] 94 (fun _ => .slice none 0 0) (fun i hi => by
      match i, hi with
      | 0, _ => rfl
      | 1, _ => rfl)
    rw [World.size_alloc, World.size_alloc] at this
    exact this
  have HRA := hideIt hra
  have HRB := hideIt hrb
  have HRC := hideIt hrc
  have hb0 : W3.cell? ⟨w.heap.size + 1, 0, none⟩ = some (.slice ak' N' ck') := hrb.cell (i := 0) (by omega)
  have hb1 : W3.cell? ⟨w.heap.size + 1, 1, none⟩ = some (.slice ai' N' ci') := hrb.cell (i := 1) (by omega)
  have hb0d : W3.drew.cell? ⟨w.heap.size + 1, 0, none⟩ = some (.slice ak' N' ck') := hb0
  have hb1d : W3.drew.cell? ⟨w.heap.size + 1, 1, none⟩ = some (.slice ai' N' ci') := hb1
  have hltd : w.heap.size + 1 < W3.drew.heap.size := by show w.heap.size + 1 < W3.heap.size; omega
  have HBD : Hid (Below w.heap.size w W3.drew) := HB3.out.drew
  have HBW : Hid (Below W3.heap.size W3 W3.drew) := (Below.refl _ _).drew
  have HKD := hideIt (HK'.out.below (HBD.out.mono hB))
  have HID := hideIt (HI'.out.below HBD.out)
  have hBd : B ≤ W3.drew.heap.size := by show B ≤ W3.heap.size; omega
  have HW3 := hideIt hW3
  clear hW3 hra hrb hrc
  go_enter Tryz.func55, Tryz.ntmps55
  go_wp2_with fail
  rw [← HW3.out]
  go_region_law
    (first
      | (refine step_call1 (by rfl) 77 _ _ (by rfl) (.slice ak' N' ck') (by rfl) (call_cloneS _) (cloneStr_any B _ l' W3.drew HKD.out hBd) ?_; rintro e w4 ⟨r1, rfl, hr1, hb4⟩; have hS1 := (below_cell hb4 hltd).trans hb1d; refine ⟨_, rfl, ?_⟩)
      | (refine step_call1 (by rfl) 78 _ _ (by rfl) (.slice ai' N' ci') (by rfl) (call_cloneV _) (cloneVal_any _ N' V' w4 (HID.out.below hb4) (by omega)) ?_; rintro e w5 ⟨r2, rfl, hr2, hb5⟩; refine ⟨_, rfl, ?_⟩))
  all_goals
    have z4 := hb4.size
    have z5 := hb5.size
    have zd : W3.drew.heap.size = w.heap.size + 1 + 1 + 1 := z3
    have HB5 : Hid (Below W3.heap.size W3 w5) := (HBW.out.trans (hb4.mono (Nat.le_refl _))).trans (hb5.mono (by omega))
    have HR1 : Hid (w5.ownsRow W3.heap.size 9 1 r1 (N' + (wkIx l l' 0).length) (l'.map .string ++ (wkIx l l' 0).map (fun i => Value.string (keyAt l i)))) := by
      have := own_below hr1 hb5 (fun x hx => (hr1.lt x hx).2)
      rw [HN'.out] at this
      simpa [Hid, wkIx, pickIx] using this
    have HR2 : Hid (w5.ownsRow W3.heap.size 54 1 r2 (N' + (wkIx l l' 0).length) ((List.range N').map V' ++ (wkIx l l' 0).map V)) := by
      have := own_mono hr2 (show W3.heap.size ≤ w4.heap.size by omega)
      simpa [Hid, wkIx, pickIx] using this
    obtain ⟨a1, c1, er1⟩ := own_slice HR1.out
    obtain ⟨a2, c2, er2⟩ := own_slice HR2.out
    subst er1 er2
    have xa : w5.cell? ⟨w.heap.size, 0, none⟩ = some (.slice ak N ck) := (below_cell HB5.out (by first | omega | (simp; omega))).trans (HRA.out.cell (i := 0) (by omega))
    clear hr1 hr2 hb4 hb5 hS1 hb0 hb1 hb0d hb1d hltd HKD HID hBd
    go_wp2_with fail
    go_loopw [5, 6, 20] (fun ks is i wr => ∃ k : Nat, k ≤ N ∧ i = .int .i64 k ∧ Hid (wr.ownsRow W3.heap.size 9 1 ks (N' + (wkIx l l' k).length) (l'.map .string ++ (wkIx l l' k).map (fun i => Value.string (keyAt l i)))) ∧ Hid (wr.ownsRow W3.heap.size 54 1 is (N' + (wkIx l l' k).length) ((List.range N').map V' ++ (wkIx l l' k).map V)) ∧ Hid (Below W3.heap.size W3 wr)) (fun _ _ i _ => N - (intOf i).toNat)
    case atStart => exact ⟨0, Nat.zero_le _, rfl, HR1, HR2, HB5⟩
    case round =>
      obtain ⟨k, hk, rfl, HS, HT, HB⟩ := hrel
      clear HR1 HR2 HB5 xa
      have zr := HB.out.size
      have HBW' : Hid (Below w.heap.size w wr) := HB3.out.trans (HB.out.mono (by omega))
      obtain ⟨ax, cx, es⟩ := own_slice HS.out
      obtain ⟨ay, cy, et⟩ := own_slice HT.out
      have hpl := pickIx_lt (fun i => hasK l' (keyAt l i)) k
      have HPI := hideIt (show wkIx l l' (k + 1) = if hasK l' (keyAt l k) = true then wkIx l l' k else wkIx l l' k ++ [k] from rfl)
      obtain ⟨ix, hix⟩ : ∃ ix, wkIx l l' k = ix := ⟨_, rfl⟩
      change (wkIx l l' k).length ≤ k ∧ _ at hpl
      have HIX := hideIt hix
      rw [hix] at es et HS HT HPI hpl
      obtain ⟨M, hM⟩ : ∃ M, ix.length = M := ⟨_, rfl⟩
      have HMM := hideIt hM
      have hMk : M ≤ k := by rw [← hM]; exact hpl.1
      rw [hM] at es et HS HT
      subst es et
      clear hix hM hpl
      have y1 : wr.cell? ⟨w.heap.size + 1, 0, none⟩ = some (.slice ak' N' ck') := (below_cell HB.out (by first | omega | (simp; omega))).trans (HRB.out.cell (i := 0) (by omega))
      have y2 : wr.cell? ⟨w.heap.size, 1, none⟩ = some (.slice ai N ci) := (below_cell HB.out (by first | omega | (simp; omega))).trans (HRA.out.cell (i := 1) (by omega))
      by_cases hlt : k < N
      · obtain ⟨_, _, a0, c0, e0, hkc⟩ := HK.out
        injection e0 with e1 e2 e3
        obtain ⟨bK, oK, ea, hbK, hcK⟩ := hkc (by rw [HN.out]; omega)
        have eak := e1.trans ea
        have d1 : wr.cell? ⟨bK, oK + k, none⟩ = some (.string (keyAt l k)) := (below_cell HBW'.out (by first | omega | (simp; omega))).trans (hcK k (by rw [HN.out]; exact hlt))
        obtain ⟨a0', c0', e0', hvc, hvi⟩ := HI.out
        injection e0' with e1' e2' e3'
        obtain ⟨bI, ea', hbI, hcI⟩ := hvc (by omega)
        have eai := e1'.trans ea'
        obtain ⟨tI, xI, eI⟩ := hvi k hlt
        have d3 : wr.cell? ⟨bI, k, none⟩ = some (.iface tI xI) := ((below_cell HBW'.out hbI).trans (hcI k hlt)).trans (by rw [eI])
        have HSE := hideIt (search_any B _ l' (keyAt l k) wr (HK'.out.below (HBW'.out.mono hB)) HRI.out (by rw [HN'.out]; omega))
        have HEI := hideIt eI
        subst eak eai
        clear hkc hcK hvc hvi hcI e1 e2 e3 ea e1' e2' e3' ea' eI
        obtain ⟨s, hs⟩ : ∃ s, keyAt l k = s := ⟨_, rfl⟩
        have HSS := hideIt hs
        rw [hs] at d1 HSE HPI
        obtain ⟨ps, hps⟩ : ∃ ps : Nat, posK l' s = ps := ⟨_, rfl⟩
        rw [hps] at HSE
        clear hs hps
        cases hq : hasK l' s
        · rw [hq] at HSE
          have HPK : Hid (wkIx l l' (k + 1) = ix ++ [k]) := by rw [Hid, HPI.out, hq]; rfl
          go_wp2_with fail
          refine HSE.out.mono ?_
          rintro e w6 ⟨rfl, rfl⟩
          go_wp2_with (at_builtin; refine wpList_append_own_at _ rfl _ _ 31 rfl W3.heap.size 9 j0 (.string ByteArray.empty) 1 16 Tryz.underlying31 hj0 hy0 hs0 hbb0 rfl (by decide) _ _ _ rfl (HS.out.alloc _) ⟨w6.heap.size, 0, none⟩ 1 1 [.string s] rfl rfl ?c1 ?c2 ?c3 ?c4 ?c5 ?_)
          case c1 => exact cell_one_new _ _ _
          case c2 => intro u hu; simp at hu; subst hu; rfl
          case c3 => unfold maxLen; omega
          case c4 => omega
          case c5 => simp; omega
          intro v7 w7 hown hgrow _ _
          have HR7 : Hid (w7.ownsRow W3.heap.size 9 1 v7 (N' + (M + 1)) (l'.map .string ++ (wkIx l l' (k + 1)).map (fun i => Value.string (keyAt l i)))) := by
            rw [Hid, HPK.out, List.map_append]
            simp only [List.map_cons, List.map_nil]
            rw [HSS.out, z3]
            exact hown
          have HT7 := hideIt ((HT.out.alloc (.cells #[.string s] 9)).kept hgrow (own_two (HS.out.alloc (.cells #[.string s] 9)) (HT.out.alloc (.cells #[.string s] 9)) (by decide)))
          have HB7 : Hid (Below W3.heap.size W3 w7) := (HB.out.alloc zr _).grown hgrow (by simp; omega) (fun y hy => (HS.out.lt y hy).1)
          have z7 := HB7.out.size
          have y27 : w7.cell? ⟨w.heap.size, 1, none⟩ = some (.slice (some ⟨bI, 0, none⟩) N ci) := (below_cell HB7.out (by first | omega | (simp; omega))).trans (HRA.out.cell (i := 1) (by omega))
          have d37 : w7.cell? ⟨bI, k, none⟩ = some (.iface tI xI) := by
            have h1 := below_cell (b := bI) (o := k) HB7.out (by first | omega | (simp; omega))
            have h2 := below_cell (b := bI) (o := k) HB.out (by first | omega | (simp; omega))
            rw [h1, ← h2]; exact d3
          obtain ⟨av, cv, ev⟩ := own_slice HR7.out
          subst ev
          clear hown hgrow d1 d3 y1 y2 HSE
          go_wp2_with (at_builtin; refine wpList_append_own_at _ rfl _ _ 57 rfl W3.heap.size 54 j1 .nilIface 1 16 Tryz.underlying57 hj1 hy1 hs1 hb1' rfl (by decide) _ _ _ rfl (HT7.out.alloc _) ⟨w7.heap.size, 0, none⟩ 1 1 [.iface tI xI] rfl rfl ?c1 ?c2 ?c3 ?c4 ?c5 ?_)
          case c1 => exact cell_one_new _ _ _
          case c2 => intro u hu; simp at hu; subst hu; rfl
          case c3 => unfold maxLen; omega
          case c4 => omega
          case c5 => simp; omega
          intro v8 w8 hown hgrow _ _
          have HT8 : Hid (w8.ownsRow W3.heap.size 54 1 v8 (N' + (M + 1)) ((List.range N').map V' ++ (wkIx l l' (k + 1)).map V)) := by
            rw [Hid, HPK.out, List.map_append]
            simp only [List.map_cons, List.map_nil]
            rw [HEI.out, z3]
            exact hown
          have HR8 := hideIt ((HR7.out.alloc (.cells #[.iface tI xI] 54)).kept hgrow (own_two (HT7.out.alloc (.cells #[.iface tI xI] 54)) (HR7.out.alloc (.cells #[.iface tI xI] 54)) (by decide)))
          have HB8 : Hid (Below W3.heap.size W3 w8) := (HB7.out.alloc z7 _).grown hgrow (by simp; omega) (fun y hy => (HT7.out.lt y hy).1)
          have HL8 : Hid (N' + (M + 1) = N' + (wkIx l l' (k + 1)).length) := by rw [Hid, HPK.out, List.length_append, HMM.out]; rfl
          obtain ⟨aw, cw, ew⟩ := own_slice HT8.out
          subst ew
          clear hown hgrow
          go_wp2_with fail
          go_roundw
          case rel => exact ⟨k + 1, by omega, by go_num, by rw [← HL8.out]; exact HR8, by rw [← HL8.out]; exact HT8, HB8⟩
          case measure => simp [intOf]; omega
        · rw [hq] at HSE
          have HPK : Hid (wkIx l l' (k + 1) = ix) := by rw [Hid, HPI.out, hq]; rfl
          go_wp2_with fail
          refine HSE.out.mono ?_
          rintro e w6 ⟨rfl, rfl⟩
          go_wp2_with fail
          go_roundw
          case rel => exact ⟨k + 1, by omega, by go_num, by rw [HPK.out, HMM.out]; exact HS, by rw [HPK.out, HMM.out]; exact HT, HB⟩
          case measure => simp [intOf]; omega
      · obtain rfl : k = N := by omega
        have HIL : Hid (wkIx l l' l.length = ix) := by rw [Hid, HN.out]; exact HIX.out
        have HJL : Hid ((wkK l l').length = N' + M) := by rw [Hid, wkK, List.length_append, List.length_map, HIL.out, HMM.out, HN'.out]
        have hsk : StrsAt wr.heap.size wr (.slice ax (N' + M) cx) (wkK l l') := by
          have h1 := HS.out
          rw [← HIL.out, wkK_row, ← HJL.out] at h1
          have := own_strs h1 (by rw [HJL.out]; omega) (wkK_size HK.out.2.1 HK'.out.2.1)
          rw [HJL.out] at this
          exact this
        have hst : ItsAt wr (.slice ay (N' + M) cy) (wkK l l').length (wkV l l' V V') := by
          have h1 := HT.out
          have hrow := wkV_row l l' V V'
          rw [HN'.out] at hrow
          rw [← HIL.out, hrow, ← HJL.out] at h1
          have := wk_its h1 (wkV_iface (fun j hj => by obtain ⟨_, _, _, _, h⟩ := HI.out; exact h j (by rw [← HN.out]; exact hj)) (fun j hj => by obtain ⟨_, _, _, _, h⟩ := HI'.out; exact h j (by rw [← HN'.out]; exact hj)))
          rw [HJL.out] at this
          rw [HJL.out]
          exact this
        have HSM := hideIt (sortedMap_any wr.heap.size _ _ (wkK l l') (wkV l l' V V') wr hsk hst (Nat.le_refl _) (by rw [HJL.out]; omega))
        clear hsk hst y1 y2
        go_wp2_with fail
        refine HSM.out.mono ?_
        rintro e w9 ⟨f, k2, i2, rfl, hblk, hrk, hri, hb9⟩
        have HB9 : Hid (Below W3.heap.size W3 w9) := HB.out.trans (hb9.mono zr)
        have z9 := HB9.out.size
        have hr9 : w9.rowIs (w.heap.size + 1 + 1) 94 2 (fun _ => .slice none 0 0) := HRC.out.of_block (HB9.out.block _ (by omega))
        have y0 := hr9.cell (i := 0) (by omega)
        have y1 := hr9.cell (i := 1) (by omega)
        have fy := hr9.frozen
        obtain ⟨ap, cp, ep⟩ := own_slice hrk
        obtain ⟨aq, cq, eq'⟩ := own_slice hri
        have HBL := hideIt hblk
        have HRK := hideIt hrk
        have HRQ := hideIt hri
        have zb := hb9.size
        obtain ⟨J, hJ⟩ : ∃ J, (wkK l l').length = J := ⟨_, rfl⟩
        have HJ := hideIt hJ
        rw [hJ] at ep eq' HBL HRK HRQ
        subst ep eq'
        have HK2 := hideIt (own_mono (own_set (o := 1) (own_set (o := 0) HRK.out (b := w.heap.size + 1 + 1) (.slice ap J cp) (fun x hx => by have := (HRK.out.lt x hx).1; omega)) (b := w.heap.size + 1 + 1) (.slice aq J cq) (fun x hx => by have := (HRK.out.lt x hx).1; omega)) (show w.heap.size ≤ wr.heap.size by omega))
        have HI2 := hideIt (own_mono (own_set (o := 1) (own_set (o := 0) HRQ.out (b := w.heap.size + 1 + 1) (.slice ap J cp) (fun x hx => by have := (HRQ.out.lt x hx).1; omega)) (b := w.heap.size + 1 + 1) (.slice aq J cq) (fun x hx => by have := (HRQ.out.lt x hx).1; omega)) (show w.heap.size ≤ wr.heap.size by omega))
        have HBX : Hid (Below w.heap.size w w9) := HB3.out.trans (HB9.out.mono (by omega))
        clear hblk hrk hri hr9 hJ HSM
        go_wp2_with fail
        refine bodyPost_ret (v := .agg #[.slice ap J cp, .slice aq J cq]) (by simp [results, Tryz.results55, go_sem, y0, y1]) rfl ⟨f, _, _, rfl, by rw [HJ.out]; exact HBL.out, by rw [HJ.out]; exact HK2.out, by rw [HJ.out]; exact HI2.out, ?_⟩
        exact (HBX.out.setCell (p := ⟨w.heap.size + 1 + 1, 0, none⟩) (by simp; omega) _).setCell (p := ⟨w.heap.size + 1 + 1, 1, none⟩) (by simp; omega) _
end Go.Proofs.YtfijafbpdlakaaaGreatDoor
