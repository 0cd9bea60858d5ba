import Derived.Test.YtcidjhnogldgmaaGreatDoorEvS
import Derived.Test.YtcidjhnogldgmaaGreatDoorEvO
import Derived.Test.YtcidjhnogldgmaaGreatDoorTOk
import Derived.Laws.EntriesVeiled
import Derived.Deep.RegionHeld3
import Derived.Test.YtcidjhnogldgmaaGreatDoorIParts
import Derived.Test.YtcidjhnogldgmaaGreatDoorFImp2
namespace Go.Proofs.YtcidjhnogldgmaaGreatDoor
open Go.RowKit
set_option linter.unusedSimpArgs false
set_option linter.unusedVariables false
abbrev handV (H : FuncId) (caps : Array Value) : Value := .func (.func H) #[] caps
structure NodeBox (B : Nat) (w : World) (nb : Nat) (x : FN) (kc kn ki : Value) : Prop where
  c0 : w.cell? ⟨nb, 0, none⟩ = some (.int .i64 x.kind)
  c1 : w.cell? ⟨nb, 1, none⟩ = some (.string x.name)
  c2 : w.cell? ⟨nb, 2, none⟩ = some (.int .i64 x.place)
  c3 : w.cell? ⟨nb, 3, none⟩ = some kc
  c4 : w.cell? ⟨nb, 4, none⟩ = some kn
  c5 : w.cell? ⟨nb, 5, none⟩ = some ki
  inn : FNodeIn B w x kc kn ki
theorem handO_yes {r : Int × List VN} (h0 : r.1 = 0) (h : HandM) (st : EvSt) : handO r h st = h r.2 st := by unfold handO; rw [if_pos h0]
theorem handO_no {r : Int × List VN} (h0 : r.1 ≠ 0) (h : HandM) (st : EvSt) : handO r h st = (r.1, st) := by unfold handO; rw [if_neg h0]
theorem handOr_any {B Z E O D : Nat} {fv : Value} {fs : List FN} {H : FuncId} {caps : Array Value} {h : HandM} {w w1 : World} {st : EvSt} {r : Int × List VN} {u v : Value} (hh : HandOk B Z E O D fv fs w H caps h) (hst : St B Z E O fv fs st w) (hD : st.1 ≤ D) (hb : Below w.heap.size w w1)
    (hr : (r.1 = 0 ∧ v = .nilIface ∧ Rep w1 r.2 u) ∨ (r.1 ≠ 0 ∧ u = .nilIface ∧ Refuses w1 r.1 v)) :
    Calls Tryz.prog 93 #[u, v, handV H caps] w1 (fun e w' => (∃ v, e = .returned v ∧ ErrV w' (handO r h st).1 v) ∧ FrH Z E O w w' ∧ St B Z E O fv fs (handO r h st).2 w') := by
  have hf : FrH Z E O w w1 := .of_below hb hst.hZ
  rcases hr with ⟨h0, rfl, hrep⟩ | ⟨h0, rfl, hv⟩
  · rw [handO_yes h0]
    exact (handOr_yes (hh.on hf) (hst.below hb) hrep hD).mono fun e w' k => ⟨k.1, hf.trans k.2.1, k.2.2⟩
  · rw [handO_no h0]
    refine (handOr_no .nilIface v (handV H caps) w1 h0 (.inl rfl) hv).mono ?_
    rintro e w' ⟨rfl, rfl⟩
    exact ⟨⟨_, rfl, .inr ⟨h0, hv⟩⟩, hf, hst.below hb⟩
theorem ev_one {oc : OcM} {x : FN} {v : List VN} {h : HandM} {st : EvSt} (hk : x.kind = 1 ∨ x.kind = 2 ∨ x.kind = 3 ∨ x.kind = 5 ∨ x.kind = 11 ∨ x.kind = 12 ∨ x.kind = 13) : evM oc x v h st = handO (oneR x v) h st := by
  unfold evM
  rw [if_neg (by omega), if_neg (by omega), if_neg (by omega), if_neg (by omega), if_neg (by omega), if_neg (by omega), if_neg (by omega), if_neg (by omega), if_neg (by omega), if_neg (by omega), if_neg (by omega)]
theorem ev_each {oc : OcM} {x : FN} {v : List VN} {h : HandM} {st : EvSt} (hk : x.kind = 4) : evM oc x v h st = if (rootN v).kind = 5 ∨ (rootN v).kind = 6 then handAllM h (partsL v) st else (2, st) := by unfold evM; rw [if_neg (by omega), if_pos hk]
structure Bx3 (w W : World) (a n0 n1 n2 n3 n4 n5 f : Value) : Prop where
  below : Below w.heap.size w W
  ce : W.cell? ⟨w.heap.size, 0, none⟩ = some a
  cn0 : W.cell? ⟨w.heap.size + 1, 0, none⟩ = some n0
  cn1 : W.cell? ⟨w.heap.size + 1, 1, none⟩ = some n1
  cn2 : W.cell? ⟨w.heap.size + 1, 2, none⟩ = some n2
  cn3 : W.cell? ⟨w.heap.size + 1, 3, none⟩ = some n3
  cn4 : W.cell? ⟨w.heap.size + 1, 4, none⟩ = some n4
  cn5 : W.cell? ⟨w.heap.size + 1, 5, none⟩ = some n5
  ch : W.cell? ⟨w.heap.size + 2, 0, none⟩ = some f
  size : W.heap.size = w.heap.size + 3
theorem bx3 (w : World) (a n0 n1 n2 n3 n4 n5 f : Value) : Bx3 w (((w.alloc (.cells #[a] 127)).alloc (.cells #[n0, n1, n2, n3, n4, n5] 125)).alloc (.cells #[f] 159)) a n0 n1 n2 n3 n4 n5 f := by
  refine ⟨((Below.refl w.heap.size w).alloc (Nat.le_refl _) _).alloc (by simp) _ |>.alloc (by simp <;> omega) _, ?_, ?_, ?_, ?_, ?_, ?_, ?_, ?_, by simp⟩
  · rw [World.cell?_alloc_past _ _ _ (by simp <;> omega)]; rw [World.cell?_alloc_past _ _ _ (by simp <;> omega)]; rw [World.cell?_alloc_at _ _ _ _ (by simp)]; rfl
  · rw [World.cell?_alloc_past _ _ _ (by simp <;> omega)]; rw [World.cell?_alloc_at _ _ _ _ (by simp)]; rfl
  · rw [World.cell?_alloc_past _ _ _ (by simp <;> omega)]; rw [World.cell?_alloc_at _ _ _ _ (by simp)]; rfl
  · rw [World.cell?_alloc_past _ _ _ (by simp <;> omega)]; rw [World.cell?_alloc_at _ _ _ _ (by simp)]; rfl
  · rw [World.cell?_alloc_past _ _ _ (by simp <;> omega)]; rw [World.cell?_alloc_at _ _ _ _ (by simp)]; rfl
  · rw [World.cell?_alloc_past _ _ _ (by simp <;> omega)]; rw [World.cell?_alloc_at _ _ _ _ (by simp)]; rfl
  · rw [World.cell?_alloc_past _ _ _ (by simp <;> omega)]; rw [World.cell?_alloc_at _ _ _ _ (by simp)]; rfl
  · rw [World.cell?_alloc_at _ _ _ _ (by simp)]; rfl
set_option maxRecDepth 100000 in
set_option maxHeartbeats 6400000 in
theorem evalEach_any {B Z E O D : Nat} {fv : Value} {fs : List FN} {v : Value} {ns : List VN} {H : FuncId} {caps : Array Value} {h : HandM} {st : EvSt} {w : World} (hh : HandOk B Z E O D fv fs w H caps h) (hst : St B Z E O fv fs st w) (hv : Rep w ns v) (hD : st.1 ≤ D) :
    Calls Tryz.prog 82 #[v, handV H caps] w (HandAns B Z E O fv fs (if (rootN ns).kind = 5 ∨ (rootN ns).kind = 6 then handAllM h (partsL ns) st else (2, st)) w) := by
  have HH := hideIt hh
  have HST := hideIt hst
  have HE : Hid (∀ w', Below w.heap.size w w' → Errs w') := fun w' hb => (hst.ev.errs.now.two.errs).below hb
  have HD := hideIt hD
  have h80 : (partsL ns).length ≤ 1000 := by
    have p := okB_parts hv.1
    have := p.2.2.2 (ns.length - 1) (by omega)
    rw [parts_len]; unfold rootKids; omega
  rcases hv.cases with ⟨k, rfl⟩ | ⟨k, rfl⟩ | ⟨k, rfl⟩ | ⟨k, rfl⟩ | ⟨k, it, rfl, hi⟩ | ⟨k, ks, it, rfl, hs, hi⟩
  case inr.inr.inr.inr.inl =>
    rw [if_pos (.inl k)]
    have HI := hideIt hi
    obtain ⟨_, a, c, rfl, _⟩ := hi
    obtain ⟨R, hR⟩ : ∃ R, handAllM h (partsL ns) st = R := ⟨_, rfl⟩
    have HALL : Hid (∀ W, Below w.heap.size w W → Calls Tryz.prog 115 #[.slice a (partsL ns).length c, handV H caps] W (HandAns B Z E O fv fs R W)) := fun W hb => by
      rw [← hR]
      exact handAll_any (HH.out.on (.of_below hb HST.out.hZ)) (HST.out.below hb) (HI.out.reads (ButE.reads (.of_below (E := E) hb) HST.out.ev)) HD.out
    obtain ⟨M, hM⟩ : ∃ M, (partsL ns).length = M := ⟨_, rfl⟩
    rw [hM] at HALL ⊢
    rw [hR]
    clear hv hst hh k hR hM hD h80
    go_enter Tryz.func82, Tryz.ntmps82
    go_wp2_with fail
    refine (kind5_any _ _ _ _).mono ?_
    rintro e w1 ⟨rfl, hb1⟩
    have HB1 := hideIt hb1
    clear hb1
    go_wp2_with fail
    refine (parts5_any _ _ _ _).mono ?_
    rintro e w2 ⟨rfl, hb2⟩
    have HB2 := hideIt (HB1.out.trans (hb2.mono HB1.out.size))
    clear hb2
    go_wp2_with fail
    refine (HALL.out w2 HB2.out).mono ?_
    rintro e w3 ⟨⟨ev, rfl, hev⟩, hf3, hs3⟩
    have HEV := hideIt hev
    have HF3 : Hid (FrH Z E O w w3) := (FrH.of_below HB2.out HST.out.hZ).trans hf3
    have HS3 := hideIt hs3
    clear hev hf3 hs3
    go_wp2_with fail
    go_ret
    exact ⟨⟨_, rfl, HEV.out⟩, HF3.out, HS3.out⟩
  case inr.inr.inr.inr.inr =>
    rw [if_pos (.inr k)]
    have HI := hideIt hi
    obtain ⟨_, a, c, rfl, _⟩ := hi
    obtain ⟨_, _, a', c', rfl, _⟩ := hs
    obtain ⟨R, hR⟩ : ∃ R, handAllM h (partsL ns) st = R := ⟨_, rfl⟩
    have HALL : Hid (∀ W, Below w.heap.size w W → Calls Tryz.prog 115 #[.slice a (partsL ns).length c, handV H caps] W (HandAns B Z E O fv fs R W)) := fun W hb => by
      rw [← hR]
      exact handAll_any (HH.out.on (.of_below hb HST.out.hZ)) (HST.out.below hb) (HI.out.reads (ButE.reads (.of_below (E := E) hb) HST.out.ev)) HD.out
    obtain ⟨M, hM⟩ : ∃ M, (partsL ns).length = M := ⟨_, rfl⟩
    rw [hM] at HALL ⊢
    rw [hR]
    obtain ⟨LK, hLK⟩ : ∃ LK, (rootN ns).keys.length = LK := ⟨_, rfl⟩
    rw [hLK]
    clear hv hst hh k hR hM hD h80 hLK
    go_enter Tryz.func82, Tryz.ntmps82
    go_wp2_with fail
    refine (kind6_any _ _ _ _ _ _ _).mono ?_
    rintro e w1 ⟨rfl, hb1⟩
    have HB1 := hideIt hb1
    clear hb1
    go_wp2_with fail
    refine (kind6_any _ _ _ _ _ _ _).mono ?_
    rintro e w1' ⟨rfl, hb1⟩
    have HB1' := hideIt (HB1.out.trans (hb1.mono HB1.out.size))
    clear hb1
    go_wp2_with fail
    refine (parts6_any _ _ _ _ _ _ _).mono ?_
    rintro e w2 ⟨rfl, hb2⟩
    have HB2 := hideIt (HB1'.out.trans (hb2.mono HB1'.out.size))
    clear hb2
    go_wp2_with fail
    refine (HALL.out w2 HB2.out).mono ?_
    rintro e w3 ⟨⟨ev, rfl, hev⟩, hf3, hs3⟩
    have HEV := hideIt hev
    have HF3 : Hid (FrH Z E O w w3) := (FrH.of_below HB2.out HST.out.hZ).trans hf3
    have HS3 := hideIt hs3
    clear hev hf3 hs3
    go_wp2_with fail
    go_ret
    exact ⟨⟨_, rfl, HEV.out⟩, HF3.out, HS3.out⟩
  all_goals
    rw [if_neg (by omega)]
    clear hv hst hh k hD h80
    go_enter Tryz.func82, Tryz.ntmps82
    go_wp2_with fail
    first
      | refine (kind1_any _).mono ?_
      | refine (kind2_any _ _).mono ?_
      | refine (kind3_any _ _).mono ?_
      | refine (kind4_any _ _).mono ?_
    rintro e w1 ⟨rfl, hb1⟩
    have HB1 := hideIt hb1
    clear hb1
    go_wp2_with fail
    first
      | refine (kind1_any _).mono ?_
      | refine (kind2_any _ _).mono ?_
      | refine (kind3_any _ _).mono ?_
      | refine (kind4_any _ _).mono ?_
    rintro e w2 ⟨rfl, hb2⟩
    have HB2 := hideIt (HB1.out.trans (hb2.mono HB1.out.size))
    clear hb2
    go_wp2_with fail
    refine (wrongKind_any _ (HE.out _ HB2.out)).mono ?_
    rintro e w3 ⟨⟨u, rfl, te, xe, rfl, hrs⟩, rfl⟩
    have HRS := hideIt hrs
    clear hrs
    go_wp2_with fail
    go_ret
    exact ⟨⟨_, rfl, .inr ⟨(show (2 : Int) ≠ 0 by decide), te, xe, rfl, HRS.out⟩⟩, .of_below HB2.out HST.out.hZ, HST.out.below HB2.out⟩
set_option maxRecDepth 100000 in
set_option maxHeartbeats 6400000 in
theorem eval_each {B Z E O d : Nat} {fv : Value} {fs : List FN} (hok : okF fs = true) (ho : OcOk B E fv fs d) {x : FN} (hx : NodeOk fs x) (k : x.kind = 4) {kc kn ki v : Value} {ns : List VN} {H : FuncId} {caps : Array Value} {h : HandM} {st : EvSt} {w : World} (hin : FNodeIn B w x kc kn ki) (hh : HandOk B Z E O d fv fs w H caps h) (hst : St B Z E O fv fs st w) (hv : Rep w ns v) (hd : st.1 ≤ d) :
    Calls Tryz.prog 61 #[.pointer (some ⟨E, 0, none⟩), nodeV x kc kn ki, v, handV H caps] w (HandAns B Z E O fv fs (evM (ocsM fs d) x ns h st) w) := by
  obtain ⟨_, aC, cC, rfl, _⟩ := id hin.cst
  obtain ⟨_, _, aK, cK, rfl, _⟩ := id hin.names
  obtain ⟨_, _, aI, cI, rfl, _⟩ := id hin.kids
  obtain ⟨ty, y, rfl⟩ := hv.iface
  have hO := hst.hO
  have hZw := hst.hZ
  have hEZ := hst.hEZ
  have hBZ := hst.hBZ
  have hBE := hst.ev.hBE
  have hbx := bx3 w (.pointer (some ⟨E, 0, none⟩)) (.int .i64 x.kind) (.string x.name) (.int .i64 x.place) (.slice aC x.cst.length cC) (.slice aK x.names.length cK) (.slice aI x.kids.length cI) (handV H caps)
  obtain ⟨W3, hW3⟩ : ∃ W3, ((w.alloc (.cells #[.pointer (some ⟨E, 0, none⟩)] 127)).alloc (.cells #[.int .i64 x.kind, .string x.name, .int .i64 x.place, .slice aC x.cst.length cC, .slice aK x.names.length cK, .slice aI x.kids.length cI] 125)).alloc (.cells #[handV H caps] 159) = W3 := ⟨_, rfl⟩
  rw [hW3] at hbx
  obtain ⟨hb3, ce, cn0, cn1, cn2, cn3, cn4, cn5, ch, hz3⟩ := hbx
  have HB3 := hideIt hb3
  have HF3 : Hid (FrH Z E O w W3) := .of_below hb3 hst.hZ
  have HNB : Hid (NodeBox B W3 (w.heap.size + 1) x (.slice aC x.cst.length cC) (.slice aK x.names.length cK) (.slice aI x.kids.length cI)) := ⟨cn0, cn1, cn2, cn3, cn4, cn5, hin.below (hb3.mono (by omega))⟩
  have HS3 : Hid (St B Z E O fv fs st W3) := hst.below hb3
  have HV3 := hideIt (hv.below hb3)
  have HH3 := hideIt (hh.on HF3.out)
  clear hb3
  obtain ⟨R, hR⟩ : ∃ R, evM (ocsM fs d) x ns h st = R := ⟨_, rfl⟩
  have HC : Hid (∀ W, Below W3.heap.size W3 W → Calls Tryz.prog 82 #[.iface ty y, handV H caps] W fun e w' => (∃ v, e = .returned v ∧ ErrV w' R.1 v) ∧ FrH Z E O W3 w' ∧ St B Z E O fv fs R.2 w') := fun W hb => by
    have hf : FrH Z E O W3 W := .of_below hb HS3.out.hZ
    rw [← hR, ev_each k]
    exact (evalEach_any (HH3.out.on hf) (HS3.out.below hb) (HV3.out.below hb) hd).mono fun e w' k => ⟨k.1, hf.trans k.2.1, k.2.2⟩
  rw [hR]
  unfold nodeV
  obtain ⟨KK, hKK⟩ : ∃ KK, x.kind = KK := ⟨_, rfl⟩
  rw [hKK] at cn0 hW3 ⊢
  have HSX : Hid (∀ Y, FrH Z E O W3 Y → (Y.cell? ⟨w.heap.size, 0, none⟩ = some (.pointer (some ⟨E, 0, none⟩)) ∧ Y.cell? ⟨w.heap.size + 1, 0, none⟩ = some (.int .i64 KK) ∧ Y.cell? ⟨w.heap.size + 1, 1, none⟩ = some (.string x.name) ∧ Y.cell? ⟨w.heap.size + 1, 2, none⟩ = some (.int .i64 x.place) ∧ Y.cell? ⟨w.heap.size + 1, 3, none⟩ = some (.slice aC x.cst.length cC) ∧ Y.cell? ⟨w.heap.size + 1, 4, none⟩ = some (.slice aK x.names.length cK) ∧ Y.cell? ⟨w.heap.size + 1, 5, none⟩ = some (.slice aI x.kids.length cI) ∧ Y.cell? ⟨w.heap.size + 2, 0, none⟩ = some (.func (.func H) #[] caps))) := fun Y hY => ⟨hY.cell _ _ _ (by omega) (by omega) (by intro e; cases e) ce, hY.cell _ _ _ (by omega) (by omega) (by intro e; cases e) cn0, hY.cell _ _ _ (by omega) (by omega) (by intro e; cases e) cn1, hY.cell _ _ _ (by omega) (by omega) (by intro e; cases e) cn2, hY.cell _ _ _ (by omega) (by omega) (by intro e; cases e) cn3, hY.cell _ _ _ (by omega) (by omega) (by intro e; cases e) cn4, hY.cell _ _ _ (by omega) (by omega) (by intro e; cases e) cn5, hY.cell _ _ _ (by omega) (by omega) (by intro e; cases e) ch⟩
  have HFD : Hid (FrH Z E O W3 W3.drew) := .of_below (Below.refl _ _).drew HS3.out.hZ
  have HBD : Hid (Below W3.heap.size W3 W3.drew) := (Below.refl _ _).drew
  obtain rfl : KK = 4 := by omega
  clear hin hh hst hv hx hok ho hR hKK HNB k
  go_enter Tryz.func61, Tryz.ntmps61
  go_wp2_with fail
  try rw [hW3]
  have HW3 := hideIt hW3
  clear hW3
  refine (HC.out _ (by first | exact Below.refl _ _ | exact HBD.out)).mono ?_
  rintro e w4 ⟨⟨ev, rfl, hev⟩, hf3, hs3⟩
  have HF := hideIt (HF3.out.trans hf3)
  have HS := hideIt hs3
  have HEV := hideIt hev
  clear hf3 hs3 hev
  go_wp2_with fail
  go_ret
  exact ⟨⟨_, rfl, HEV.out⟩, HF.out, HS.out⟩
set_option maxRecDepth 100000 in
set_option maxHeartbeats 6400000 in
theorem eval_one {B Z E O d : Nat} {fv : Value} {fs : List FN} (hok : okF fs = true) (ho : OcOk B E fv fs d) {x : FN} (hx : NodeOk fs x) (hk : x.kind = 1 ∨ x.kind = 2 ∨ x.kind = 3 ∨ x.kind = 5 ∨ x.kind = 11 ∨ x.kind = 12 ∨ x.kind = 13) {kc kn ki v : Value} {ns : List VN} {H : FuncId} {caps : Array Value} {h : HandM} {st : EvSt} {w : World} (hin : FNodeIn B w x kc kn ki) (hh : HandOk B Z E O d fv fs w H caps h) (hst : St B Z E O fv fs st w) (hv : Rep w ns v) (hd : st.1 ≤ d) :
    Calls Tryz.prog 61 #[.pointer (some ⟨E, 0, none⟩), nodeV x kc kn ki, v, handV H caps] w (HandAns B Z E O fv fs (evM (ocsM fs d) x ns h st) w) := by
  obtain ⟨_, aC, cC, rfl, _⟩ := id hin.cst
  obtain ⟨_, _, aK, cK, rfl, _⟩ := id hin.names
  obtain ⟨_, _, aI, cI, rfl, _⟩ := id hin.kids
  obtain ⟨ty, y, rfl⟩ := hv.iface
  have hO := hst.hO
  have hZw := hst.hZ
  have hEZ := hst.hEZ
  have hBZ := hst.hBZ
  have hBE := hst.ev.hBE
  have hbx := bx3 w (.pointer (some ⟨E, 0, none⟩)) (.int .i64 x.kind) (.string x.name) (.int .i64 x.place) (.slice aC x.cst.length cC) (.slice aK x.names.length cK) (.slice aI x.kids.length cI) (handV H caps)
  obtain ⟨W3, hW3⟩ : ∃ W3, ((w.alloc (.cells #[.pointer (some ⟨E, 0, none⟩)] 127)).alloc (.cells #[.int .i64 x.kind, .string x.name, .int .i64 x.place, .slice aC x.cst.length cC, .slice aK x.names.length cK, .slice aI x.kids.length cI] 125)).alloc (.cells #[handV H caps] 159) = W3 := ⟨_, rfl⟩
  rw [hW3] at hbx
  obtain ⟨hb3, ce, cn0, cn1, cn2, cn3, cn4, cn5, ch, hz3⟩ := hbx
  have HB3 := hideIt hb3
  have HF3 : Hid (FrH Z E O w W3) := .of_below hb3 hst.hZ
  have HNB : Hid (NodeBox B W3 (w.heap.size + 1) x (.slice aC x.cst.length cC) (.slice aK x.names.length cK) (.slice aI x.kids.length cI)) := ⟨cn0, cn1, cn2, cn3, cn4, cn5, hin.below (hb3.mono (by omega))⟩
  have HS3 : Hid (St B Z E O fv fs st W3) := hst.below hb3
  have HV3 := hideIt (hv.below hb3)
  have HH3 := hideIt (hh.on HF3.out)
  clear hb3
  obtain ⟨R, hR⟩ : ∃ R, evM (ocsM fs d) x ns h st = R := ⟨_, rfl⟩
  obtain ⟨r, hr⟩ : ∃ r, oneR x ns = r := ⟨_, rfl⟩
  have HRO : Hid (R = handO r h st) := by rw [Hid, ← hR, ev_one hk, hr]
  have HC : Hid (Calls Tryz.prog 92 #[.agg #[.int .i64 x.kind, .string x.name, .int .i64 x.place, .slice aC x.cst.length cC, .slice aK x.names.length cK, .slice aI x.kids.length cI], .iface ty y] W3 (OneAns r W3)) := by
    rw [← hr]
    exact only_any hx B _ _ _ _ ns W3 HNB.out.inn (by omega) HV3.out HS3.out.ev.errs.now.two hk
  have HCH : Hid (∀ w1 u v, Below W3.heap.size W3 w1 → ((r.1 = 0 ∧ v = .nilIface ∧ Rep w1 r.2 u) ∨ (r.1 ≠ 0 ∧ u = .nilIface ∧ Refuses w1 r.1 v)) → Calls Tryz.prog 93 #[u, v, handV H caps] w1 (fun e w' => (∃ v, e = .returned v ∧ ErrV w' R.1 v) ∧ FrH Z E O W3 w' ∧ St B Z E O fv fs R.2 w')) := fun w1 u v hb hrr => by
    rw [HRO.out]
    exact handOr_any HH3.out HS3.out hd hb hrr
  rw [hR]
  unfold nodeV
  obtain ⟨KK, hKK⟩ : ∃ KK, x.kind = KK := ⟨_, rfl⟩
  rw [hKK] at HC cn0 hW3 ⊢
  have hk7 : KK = 1 ∨ KK = 2 ∨ KK = 3 ∨ KK = 5 ∨ KK = 11 ∨ KK = 12 ∨ KK = 13 := by rw [← hKK]; exact hk
  have lch : w.heap.size + 2 < W3.heap.size := by omega
  clear hin hh hst hv hx hok ho hR hKK HNB hr hk
  rcases hk7 with rfl | rfl | rfl | rfl | rfl | rfl | rfl
  all_goals
    go_enter Tryz.func61, Tryz.ntmps61
    go_wp2_with fail
    (try rw [hW3])
    refine HC.out.mono ?_
    rintro e w4 ⟨hans, hb4⟩
    have c4 := (below_cell hb4 lch).trans ch
    rcases hans with ⟨h0, u, rfl, hrep⟩ | ⟨h0, ve, rfl, hrf⟩
    · have HCB := hideIt (HCH.out w4 u .nilIface hb4 (.inl ⟨h0, rfl, hrep⟩))
      obtain ⟨tu, yu, rfl⟩ := hrep.iface
      clear hrep h0 hb4 ch
      go_wp2_with fail
      refine HCB.out.mono ?_
      rintro e w5 ⟨⟨ev, rfl, hev⟩, hf3, hs3⟩
      have HF := hideIt (HF3.out.trans hf3)
      have HS := hideIt hs3
      have HEV := hideIt hev
      clear hf3 hs3 hev
      go_wp2_with fail
      go_ret
      exact ⟨⟨_, rfl, HEV.out⟩, HF.out, HS.out⟩
    · have HCB := hideIt (HCH.out w4 .nilIface ve hb4 (.inr ⟨h0, rfl, hrf⟩))
      obtain ⟨te, xe, rfl, _⟩ := hrf
      obtain ⟨C0, hC0⟩ : ∃ C0, r.1 = C0 := ⟨_, rfl⟩
      rw [hC0] at HCB ⊢
      clear h0 hb4 ch hC0
      go_wp2_with fail
      refine HCB.out.mono ?_
      rintro e w5 ⟨⟨ev, rfl, hev⟩, hf3, hs3⟩
      have HF := hideIt (HF3.out.trans hf3)
      have HS := hideIt hs3
      have HEV := hideIt hev
      clear hf3 hs3 hev
      go_wp2_with fail
      go_ret
      exact ⟨⟨_, rfl, HEV.out⟩, HF.out, HS.out⟩
def One3 (fs : List FN) : Prop := fs.length = 1 ∧ ((fnAt fs 0).kind = 4 ∨ (fnAt fs 0).kind = 11 ∨ (fnAt fs 0).kind = 12)
theorem outcomes_one {B E : Nat} {fv : Value} {fs : List FN} (hok : okF fs = true) (h1 : One3 fs) : ∀ d, d ≤ 1000000 → OcOk B E fv fs d := by
  intro d
  induction d with
  | zero => intro _; exact outcomes_base B E fv fs
  | succ d ih =>
    intro hd
    refine outcomes_ok ?_ (by omega)
    intro Z O n x kc kn ki v ns H caps h st w hn hxn hin hh hst hv hd'
    have hx : NodeOk fs x := by rw [← hxn]; exact node_ok hok hn
    obtain rfl : n = 0 := by have := h1.1; omega
    have hk := h1.2
    rw [hxn] at hk
    rcases hk with k | k
    · exact eval_each hok (ih (by omega)) hx k hin hh hst hv hd'
    · exact eval_one hok (ih (by omega)) hx (by omega) hin hh hst hv hd'
end Go.Proofs.YtcidjhnogldgmaaGreatDoor

namespace Go.Proofs.YtcidjhnogldgmaaGreatDoor
open Go.RowKit
set_option linter.unusedSimpArgs false
set_option linter.unusedVariables false
def evalB (fs : List FN) (vs : List VN) (fuel : Int) : Bool := okB vs && okF fs && decide (0 ≤ fuel) && decide (fuel ≤ 2000)
def evalO (fs : List FN) (vs : List VN) (fuel : Int) : OcR := ocsM fs 2000 (fs.length - 1) vs fuel.toNat
def evalC (fs : List FN) (vs : List VN) (fuel : Int) : Int := if evalB fs vs fuel = true then (evalO fs vs fuel).c else 1
def evalL (fs : List FN) (vs : List VN) (fuel : Int) : List (List VN) := if evalB fs vs fuel = true ∧ (evalO fs vs fuel).c = 0 then (evalO fs vs fuel).l else []
theorem evalC_no {fs : List FN} {vs : List VN} {fuel : Int} (h : evalB fs vs fuel = false) : evalC fs vs fuel = 1 ∧ evalL fs vs fuel = [] := by
  unfold evalC evalL
  rw [h]
  exact ⟨if_neg (by simp), if_neg (by simp)⟩
theorem evalL_few {fs : List FN} {vs : List VN} {fuel : Int} : (evalL fs vs fuel).length ≤ 40 := by
  unfold evalL
  split
  · rename_i h
    have h1 := h.1
    unfold evalB at h1
    simp only [Bool.and_eq_true] at h1
    exact (ocs_fine h1.1.1.2 2000).few _ _ _ h1.1.1.1
  · simp
theorem evalL_ok {fs : List FN} {vs : List VN} {fuel : Int} : ∀ x ∈ evalL fs vs fuel, okB x = true := by
  unfold evalL
  split
  · rename_i h
    have h1 := h.1
    unfold evalB at h1
    simp only [Bool.and_eq_true] at h1
    exact (ocs_fine h1.1.1.2 2000).ok _ _ _ h1.1.1.1
  · simp
theorem rep_whole {w : World} {vs : List VN} {x : Value} {lo : Nat} (hlo : lo ≤ w.heap.size) (ok : okB vs = true) (h : ValIs lo w.heap.size w vs vs.length (vs.length - 1) x) : Rep w vs x := by
  obtain ⟨p1, p2, _, p4⟩ := okB_parts ok
  exact Rep.of (ValIs.tree hlo p2 p4 p1.2 (by omega) h) (whole_lay ok) ok
set_option maxRecDepth 100000 in
set_option maxHeartbeats 6400000 in
theorem implEval_one (fv v : Value) (fs : List FN) (h3 : One3 fs) (vs : List VN) (fuel : Int) (w : World) (hf : FNodesAt w.heap.size w fv fs) (hv : NodesAt w.heap.size w v vs) (hE : Errs4 w) (h1 : -9223372036854775808 ≤ fuel) (h2 : fuel ≤ 9223372036854775807) :
    Calls Tryz.prog 20 #[fv, v, .int .i64 fuel] w fun e w' => ∃ r base rs KV IV lo, e = .returned (.tuple #[r, .int .i64 (evalC fs vs fuel)]) ∧ w.heap.size ≤ base ∧ Rows2 base w' r (evalL fs vs fuel).length (rowAt (evalL fs vs fuel)) rs KV IV lo ∧ Below w.heap.size w w' := by
  have H3 := hideIt h3
  clear h3
  have HF := hideIt hf
  have HV := hideIt hv
  have HE := hideIt hE
  obtain ⟨_, a, cap, rfl, _⟩ := hv
  obtain ⟨_, af, capf, rfl, _⟩ := hf
  obtain ⟨C, hC⟩ : ∃ C, evalC fs vs fuel = C := ⟨_, rfl⟩
  obtain ⟨L, hL⟩ : ∃ L, evalL fs vs fuel = L := ⟨_, rfl⟩
  have HNO : Hid (evalB fs vs fuel = false → C = 1 ∧ L = []) := fun h => by rw [← hC, ← hL]; exact evalC_no h
  have HB0 : Hid (evalB fs vs fuel = (okB vs && okF fs && decide (0 ≤ fuel) && decide (fuel ≤ 2000))) := rfl
  have HYES : Hid (evalB fs vs fuel = true → C = (evalO fs vs fuel).c ∧ ((evalO fs vs fuel).c = 0 → L = (evalO fs vs fuel).l) ∧ ((evalO fs vs fuel).c ≠ 0 → L = [])) := fun h => by
    rw [← hC, ← hL]
    unfold evalC evalL
    rw [if_pos h]
    exact ⟨rfl, fun e => by rw [if_pos ⟨h, e⟩], fun e => by rw [if_neg (fun k => e k.2)]⟩
  have hL40 : L.length ≤ 40 := by rw [← hL]; exact evalL_few
  rw [hC, hL]
  clear hC hL hE
  obtain ⟨i0, hi0, hz0, hs0, hy0⟩ := info_parts infoRow
  go_enter Tryz.func20, Tryz.ntmps20
  go_wp2_with fail
  cases ok1 : okB vs
  · refine (valueOf_no w.heap.size _ vs _ HV.out (Nat.le_refl _) ok1).mono ?_
    rintro e w1 ⟨rfl, hb1⟩
    obtain ⟨eC, eL⟩ := HNO.out (by rw [HB0.out, ok1]; rfl)
    subst eC eL
    have z1 := hb1.size
    go_wp2_with fail
    go_ret2
    exact ⟨_, w1.heap.size, _, _, _, _, rfl, z1, Rows2.start (World.ownsRow_nil _ _ _ _) (Nat.le_refl _) _, hb1⟩
  · refine (valueOf_yes w.heap.size _ vs _ HV.out (Nat.le_refl _) ok1).mono ?_
    rintro e w1 ⟨lo1, t, x, rfl, hl1, hl1', hv1, hb1⟩
    have HR1 := hideIt (rep_whole (by omega) ok1 hv1)
    have HB1 := hideIt hb1
    have z1 := hb1.size
    clear hv1 hb1
    go_wp2_with fail
    refine (implFilterOk_any w.heap.size _ fs w1 (HF.out.below HB1.out) z1).mono ?_
    rintro e w2 ⟨rfl, hb2⟩
    have HR2 := hideIt (HR1.out.below hb2)
    have HB2 := hideIt (HB1.out.trans (hb2.mono z1))
    have z2 := HB2.out.size
    clear hb2
    cases okf : okF fs
    · obtain ⟨eC, eL⟩ := HNO.out (by rw [HB0.out, ok1, okf]; rfl)
      subst eC eL
      go_wp2_with fail
      go_ret2
      exact ⟨_, w2.heap.size, _, _, _, _, rfl, z2, Rows2.start (World.ownsRow_nil _ _ _ _) (Nat.le_refl _) _, HB2.out⟩
    · by_cases f1 : fuel < 0
      · obtain ⟨eC, eL⟩ := HNO.out (by rw [HB0.out, decide_eq_false (show ¬ 0 ≤ fuel by omega)]; simp)
        subst eC eL
        go_wp2_with fail
        go_ret2
        exact ⟨_, w2.heap.size, _, _, _, _, rfl, z2, Rows2.start (World.ownsRow_nil _ _ _ _) (Nat.le_refl _) _, HB2.out⟩
      · by_cases f2 : 2000 < fuel
        · obtain ⟨eC, eL⟩ := HNO.out (by rw [HB0.out, decide_eq_false (show ¬ fuel ≤ 2000 by omega)]; simp)
          subst eC eL
          go_wp2_with fail
          go_ret2
          exact ⟨_, w2.heap.size, _, _, _, _, rfl, z2, Rows2.start (World.ownsRow_nil _ _ _ _) (Nat.le_refl _) _, HB2.out⟩
        · obtain ⟨hc, hl0, hl1'⟩ := HYES.out (by rw [HB0.out, ok1, okf, decide_eq_true (show 0 ≤ fuel by omega), decide_eq_true (show fuel ≤ 2000 by omega)]; rfl)
          obtain ⟨k, rfl⟩ : ∃ k : Nat, fuel = (k : Int) := ⟨fuel.toNat, by omega⟩
          have hfs : 1 ≤ fs.length ∧ fs.length ≤ 40 := by
            have := okf
            unfold okF fsizeB at this
            simp only [Bool.and_eq_true, decide_eq_true_eq] at this
            exact this.1.1
          have HEV : Hid (∀ W, Below w2.heap.size w2 W → W.heap[w2.heap.size]? = some (.cells #[.slice af fs.length capf, .int .i64 (k : Int)] 91 (0, 0)) → Calls Tryz.prog 39 #[.pointer (some ⟨w2.heap.size, 0, none⟩), .int .i64 ((fs.length : Int) - 1), .iface t x] W (OcAns w.heap.size w2.heap.size (.slice af fs.length capf) fs (evalO fs vs (k : Int)) W)) := fun W hb hblk => by
            have hz := HB2.out.trans (hb.mono z2)
            have hev : EvB w.heap.size w2.heap.size (.slice af fs.length capf) fs k W := ⟨hblk, HF.out.below hz, z2, ⟨w, HE.out, rfl, hz⟩⟩
            have hoc := outcomes_one (fv := .slice af fs.length capf) (B := w.heap.size) (E := w2.heap.size) okf H3.out 2000 (by omega)
            have := hoc (fs.length - 1) (.iface t x) vs k W (by omega) hev (HR2.out.below hb) (by omega)
            have e1 : (((fs.length - 1 : Nat)) : Int) = (fs.length : Int) - 1 := by omega
            rw [e1] at this
            exact this
          obtain ⟨r, hr⟩ : ∃ r, evalO fs vs (k : Int) = r := ⟨_, rfl⟩
          rw [hr] at HEV hc hl0 hl1'
          obtain ⟨N, hN⟩ : ∃ N, fs.length = N := ⟨_, rfl⟩
          rw [hN] at HEV hfs ⊢
          subst hc
          have HL0 := hideIt hl0
          have HL1 := hideIt hl1'
          clear hr hN hl0 hl1'
          have hbA : Below w2.heap.size w2 (w2.alloc (.cells #[.slice af N capf, .int .i64 (k : Int)] 91)) := (Below.refl _ _).alloc (Nat.le_refl _) _
          have HC := hideIt (HEV.out _ hbA (heap_alloc_new w2 _))
          have HBA := hideIt hbA
          clear hbA
          go_wp2_with fail
          refine HC.out.mono ?_
          rintro e w3 ⟨it, ev, rfl, hans, hb, he⟩
          have HB3 : Hid (Below w.heap.size w w3) := (HB2.out.trans (HBA.out.mono z2)).trans (hb.below z2 (by have := HBA.out.size; omega))
          have z3 := HB3.out.size
          have HET := hideIt he.errs.now.two.errs.et
          clear hb he
          rcases hans with ⟨h1, rfl, hit⟩ | ⟨h1, rfl, te, xe, rfl, hrs⟩
          · have HLL := hideIt (HL0.out h1)
            obtain ⟨h0, ai, ci, rfl, hx⟩ := hit
            rw [← HLL.out] at hx ⊢
            have HX := hideIt hx
            have H1 := hideIt h1
            obtain ⟨M, hM⟩ : ∃ M, L.length = M := ⟨_, rfl⟩
            have HM := hideIt hM
            rw [hM] at HX hL40 ⊢
            have HR0 := hideIt (Rows2.start (base := w3.heap.size) (World.ownsRow_nil _ _ _ _) (Nat.le_refl _) (rowAt L))
            clear hx h1 hM h0
            go_wp2_with fail
            go_loopw [13, 53] (fun o i wr => ∃ (k : Nat) (rs : Nat → Value) (KV IV : Nat → Nat → Value) (lo : Nat → Nat), k ≤ M ∧ i = .int .i64 k ∧ Rows2 w3.heap.size wr o k (rowAt L) rs KV IV lo ∧ Below w3.heap.size w3 wr) (fun _ i _ => M - (intOf i).toNat)
            case atStart => exact ⟨0, _, _, _, _, Nat.zero_le _, rfl, HR0.out, Below.refl _ _⟩
            case round =>
              obtain ⟨k, rs, KV, IV, lo, hk, rfl, hrows, hbl⟩ := hrel
              have HR := hideIt hrows
              have HBL := hideIt hbl
              have zs := hbl.size
              obtain ⟨ao, co, eo⟩ := own_slice hrows.row
              subst eo
              clear hrows
              by_cases hlt : k < M
              · obtain ⟨b, rfl, hc⟩ := HX.out (by omega)
                obtain ⟨tk, xk, hck, hrep⟩ := hc k hlt
                have hck' : wr.cell? ⟨b, k, none⟩ = some (.iface tk xk) := (below_cell hbl (cell_lt hck)).trans hck
                have HT := hideIt (TreeAt.keep (fun c hcc => hbl.block c hcc) (Nat.le_refl _) hrep.2)
                have HL := hideIt (root_lay hrep.1)
                have HZ := hideIt (okB_parts hrep.1).1.2
                clear hc hck hrep hbl
                go_wp2_with fail
                refine (withNodes_any w3.heap.size wr.heap.size (by omega) 80 (rootT (rowAt L k)) (.iface tk xk) (.slice none 0 0) [] (fun _ => undef) (fun _ => undef) wr (Nest.nil _ _ _ _) HT.out (Nat.le_refl _) (by rw [List.length_nil, HL.out]; have := HZ.out; omega)).mono ?_
                rintro e w4 ⟨r4, K, I, rfl, hl4⟩
                have hn4 : Nest wr.heap.size w4 r4 (rowAt L k) K I := by have := hl4.1; rw [List.nil_append, List.length_nil, HL.out] at this; exact this
                have hb4 : Below wr.heap.size wr w4 := (Below.refl _ _).grown hl4.2.1 (Nat.le_refl _) (fun k hk => by simp [Value.ownBlock] at hk)
                have HN4 := hideIt hn4
                obtain ⟨ar, cr, er⟩ := own_slice hn4.row
                obtain ⟨Lk, hLk⟩ : ∃ Lk, (rowAt L k).length = Lk := ⟨_, rfl⟩
                rw [hLk] at er
                subst er
                have HB4 := hideIt hb4
                have z4 := hb4.size
                have HROW := hideIt (HR.out.below hb4).row
                clear hn4 hb4 hLk hl4
                go_wp2_with (at_builtin; refine wpList_append_own_at _ rfl _ _ 33 rfl w3.heap.size 24 i0 (.slice none 0 0) 1 24 Tryz.underlying33 hi0 hz0 hs0 hy0 rfl (by decide) _ _ _ rfl (HROW.out.alloc _) ⟨w4.heap.size, 0, none⟩ 1 1 [.slice ar Lk cr] rfl rfl ?c1 ?c2 ?c3 ?c4 ?c5 ?_)
                case c1 => exact cell_one_new _ _ _
                case c2 => intro u hu; simp at hu; subst hu; rfl
                case c3 => unfold maxLen; omega
                case c4 => omega
                case c5 => simp; omega
                intro v' w5 hown hgrow _ _
                have HR5 := hideIt (HR.out.snoc HB4.out HN4.out hown hgrow)
                have HB5 : Hid (Below w3.heap.size w3 w5) := ((HBL.out.trans (HB4.out.mono zs)).alloc (by omega) _).grown hgrow (by simp; omega) (fun x hx => (HROW.out.lt x hx).1)
                clear hown hgrow
                go_wp2_with fail
                go_roundw
                case rel => exact ⟨k + 1, _, _, _, _, by omega, by go_num, HR5.out, HB5.out⟩
                case measure => simp [intOf]; omega
              · obtain rfl : k = M := by omega
                go_wp2_with fail
                go_ret2
                exact ⟨.slice ao k co, w3.heap.size, _, _, _, _, by rw [H1.out]; rfl, z3, by rw [HM.out]; exact HR.out, HB3.out.trans (hbl.mono z3)⟩
          · obtain rfl : L = [] := HL1.out h1
            obtain ⟨C, hC⟩ : ∃ C, r.c = C := ⟨_, rfl⟩
            have HCC := hideIt hC
            rw [hC]
            clear h1 hrs hC
            go_wp2_with fail
            refine (codeOf_hit C te xe w3 HET.out).mono ?_
            rintro e w4 ⟨rfl, hb4⟩
            have HB4 := hideIt (HB3.out.trans (hb4.mono z3))
            clear hb4
            have z4 := HB4.out.size
            go_wp2_with fail
            go_ret2
            exact ⟨.slice none 0 0, w4.heap.size, _, _, _, _, by rw [HCC.out]; rfl, z4, Rows2.start (World.ownsRow_nil _ _ _ _) (Nat.le_refl _) _, HB4.out⟩
end Go.Proofs.YtcidjhnogldgmaaGreatDoor

namespace Go.Proofs.YtcidjhnogldgmaaGreatDoor
open Go.RowKit
set_option linter.unusedSimpArgs false
set_option linter.unusedVariables false
theorem cnt_push : ∀ (l : List (List VN)) (st : EvSt), (handAllM pushM l st).1 = 0 → (handAllM pushM l st).2.2 = st.2 ++ l := by
  intro l
  induction l with
  | nil => intro st _; simp [handAllM]
  | cons x r ih =>
    intro st h
    rw [handAllM] at h ⊢
    by_cases e : st.2.length = 40
    · have e1 : pushM x st = (3, st) := by unfold pushM; rw [if_pos e]
      rw [e1] at h
      simp at h
    · have e1 : pushM x st = (0, (st.1, st.2 ++ [x])) := by unfold pushM; rw [if_neg e]
      rw [e1] at h ⊢
      rw [if_pos rfl] at h ⊢
      rw [ih _ h, List.append_assoc]
      rfl
theorem cnt_eval {fs : List FN} {vs : List VN} (h1 : fs.length = 1) (hf : okF fs = true) (hv : okB vs = true) : evalC fs vs 2000 = (evM (ocsM fs 1999) (fnAt fs 0) vs pushM (1999, [])).1 ∧ (evalC fs vs 2000 = 0 → evalL fs vs 2000 = (evM (ocsM fs 1999) (fnAt fs 0) vs pushM (1999, [])).2.2) := by
  have hb : evalB fs vs 2000 = true := by unfold evalB; rw [hv, hf]; decide
  have ho : evalO fs vs 2000 = ocsM fs (1999 + 1) 0 vs (1999 + 1) := by unfold evalO; rw [h1]; rfl
  rw [ocs_succ] at ho
  obtain ⟨E, hE⟩ : ∃ E, evM (ocsM fs 1999) (fnAt fs 0) vs pushM (1999, []) = E := ⟨_, rfl⟩
  rw [hE] at ho ⊢
  have hc : evalC fs vs 2000 = E.1 := by
    unfold evalC
    rw [if_pos hb, ho]
    split
    · rename_i e; exact e.symm
    · rfl
  refine ⟨hc, fun h => ?_⟩
  have h0 : E.1 = 0 := by rw [← hc]; exact h
  rw [if_pos h0] at ho
  unfold evalL
  rw [if_pos ⟨hb, by rw [ho]⟩, ho]
theorem cnt_one {r : Int × List VN} : (handO r pushM (1999, [])).1 = r.1 ∧ (r.1 = 0 → (handO r pushM (1999, [])).2.2 = [r.2]) := by
  unfold handO
  by_cases h : r.1 = 0
  · rw [if_pos h]
    exact ⟨h.symm, fun _ => rfl⟩
  · rw [if_neg h]
    exact ⟨rfl, fun e => absurd e h⟩
theorem cnt_length {fs : List FN} {vs : List VN} (h1 : fs.length = 1) (hk : (fnAt fs 0).kind = 11) (hf : okF fs = true) (hv : okB vs = true) (hc : lenC vs = 0) : evalC fs vs 2000 = 0 ∧ evalL fs vs 2000 = [lenNs vs] := by
  have h := cnt_eval h1 hf hv
  rw [ev_one (by omega), show oneR (fnAt fs 0) vs = (lenC vs, lenNs vs) by unfold oneR; simp [hk]] at h
  have h2 := cnt_one (r := (lenC vs, lenNs vs))
  have h3 : evalC fs vs 2000 = 0 := by rw [h.1, h2.1]; exact hc
  exact ⟨h3, by rw [h.2 h3, h2.2 hc]⟩
theorem cnt_keys {fs : List FN} {vs : List VN} (h1 : fs.length = 1) (hk : (fnAt fs 0).kind = 12) (hf : okF fs = true) (hv : okB vs = true) (hr : (rootN vs).kind = 5 ∨ (rootN vs).kind = 6) (hc : evalC fs vs 2000 = 0) : okB (listNsO (keyL vs)) = true ∧ evalL fs vs 2000 = [listNsO (keyL vs)] := by
  have h := cnt_eval h1 hf hv
  rw [ev_one (by omega), show oneR (fnAt fs 0) vs = keysR vs by unfold oneR; simp [hk]] at h
  have h2 := cnt_one (r := keysR vs)
  have e : keysR vs = rightR (listNsO (keyL vs)) := by unfold keysR; rw [if_pos hr]
  have h4 : (rightR (listNsO (keyL vs))).1 = 0 := by rw [← e, ← h2.1, ← h.1]; exact hc
  have ok : okB (listNsO (keyL vs)) = true := by
    unfold rightR at h4
    split at h4
    · assumption
    · simp at h4
  refine ⟨ok, ?_⟩
  rw [h.2 hc, h2.2 (by rw [e]; exact h4), e]
  unfold rightR
  rw [if_pos ok]
theorem cnt_each {fs : List FN} {vs : List VN} (h1 : fs.length = 1) (hk : (fnAt fs 0).kind = 4) (hf : okF fs = true) (hv : okB vs = true) (hr : (rootN vs).kind = 5 ∨ (rootN vs).kind = 6) (hc : evalC fs vs 2000 = 0) : evalL fs vs 2000 = partsL vs := by
  have h := cnt_eval h1 hf hv
  rw [ev_each hk, if_pos hr] at h
  have h4 : (handAllM pushM (partsL vs) (1999, [])).1 = 0 := by rw [← h.1]; exact hc
  rw [h.2 hc, cnt_push _ _ h4]
  rfl
theorem cnt_kparts {vs : List VN} (hv : okB vs = true) (hr : (rootN vs).kind = 5 ∨ (rootN vs).kind = 6) (hk : okB (listNsO (keyL vs)) = true) : partsN (listNsO (keyL vs)) = partsN vs := by
  have e2 : (rootKids (listNsO (keyL vs))).length = (keyL vs).length := by
    unfold rootKids listNsO makeNs nodeAt
    simp [catKs_len]
  unfold partsN
  rw [if_pos hk, if_pos hv, e2, keyL_len hv hr]
theorem cnt_parts {vs : List VN} (hv : okB vs = true) : partsN vs = (rootN vs).kids.length ∧ partsN vs ≤ 80 ∧ (partsL vs).length = partsN vs ∧ ∀ i, i < partsN vs → rowAt (partsL vs) i = PL vs i := by
  have e1 : partsN vs = (rootKids vs).length := by unfold partsN; rw [if_pos hv]
  refine ⟨e1, (PL_few (ok_fits hv)).1, by rw [parts_len, e1], fun i hi => ?_⟩
  rw [e1] at hi
  unfold rowAt partsL
  simp [List.getD_eq_getElem?_getD, hi]
theorem cnt_len {vs : List VN} (hv : okB vs = true) (hr : (rootN vs).kind = 5 ∨ (rootN vs).kind = 6) : lenNs vs = leafN 3 ((rootN vs).kids.length : Int) ByteArray.empty := by
  unfold lenNs lenK
  rw [if_pos hv]
  rcases hr with h | h <;> simp [h, oneNs]
theorem cnt_leaf {vs : List VN} (hv : okB vs = true) (hc : lenC vs = 0) : ∃ n : Int, 0 ≤ n ∧ n ≤ 1000000000000000 ∧ lenNs vs = leafN 3 n ByteArray.empty := by
  cases h : lenK (rootN vs) with
  | none => unfold lenC at hc; rw [if_pos hv, h] at hc; simp [kindC] at hc
  | some n =>
    have := len_range hv h
    exact ⟨n, this.1, this.2, by unfold lenNs; rw [if_pos hv, h]; rfl⟩
theorem cnt_ok {vs : List VN} (hc : lenC vs = 0) : okB vs = true := by
  unfold lenC at hc
  by_cases h : okB vs = true
  · exact h
  · rw [if_neg h] at hc; simp at hc
theorem cnt_few {vs : List VN} (hok : okB vs = true) : Few vs ∧ ∀ j, j < vs.length → Fits (nodeAt vs j) :=
  ⟨⟨(okB_parts hok).1.2, fun j hj => ⟨(keys_few hok j hj).2.2, (keys_few hok j hj).2.1⟩⟩, ok_fits hok⟩
theorem cnt_rows {fs : List FN} {vs : List VN} {fuel : Int} : ∀ i, i < (evalL fs vs fuel).length → Few (rowAt (evalL fs vs fuel) i) ∧ ∀ j, j < (rowAt (evalL fs vs fuel) i).length → Fits (nodeAt (rowAt (evalL fs vs fuel) i) j) := fun i hi => by
  have hm : rowAt (evalL fs vs fuel) i ∈ evalL fs vs fuel := by
    unfold rowAt
    rw [List.getD_eq_getElem?_getD, List.getElem?_eq_getElem hi]
    exact List.getElem_mem hi
  exact cnt_few (evalL_ok _ hm)
end Go.Proofs.YtcidjhnogldgmaaGreatDoor
