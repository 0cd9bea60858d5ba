/-
  The program's filterWriter: write with parentheses, and at any node; FilterText.
-/
import Derived.Test.YtehihemfepbmfaaGreatDoorIFu
import Derived.Test.YtehihemfepbmfaaGreatDoorFOp
import Derived.Test.YtehihemfepbmfaaGreatDoorFToS
import Derived.Test.YtehihemfepbmfaaGreatDoorFEq
import Derived.Test.YtehihemfepbmfaaGreatDoorIFx
import Derived.Test.YtehihemfepbmfaaGreatDoorVarsF
import Derived.Test.YtehihemfepbmfaaGreatDoorCards
import Derived.Test.YtehihemfepbmfaaGreatDoorTie
import Derived.ProofKit
import Derived.Lay
import Derived.ChangeMaps5
import Derived.OpenShut
import Derived.OpenVars
import Derived.ShutString
import Derived.ChangeOld
import Derived.SevenTiedAt
namespace Go.Proofs.YtehihemfepbmfaaGreatDoor
open Go.RowKit
set_option linter.unusedSimpArgs false
set_option linter.unusedVariables false

theorem WdB.wide {B C : Nat} {w : World} (h : WdB B w) (hBC : B ≤ C) : WdB C w := fun w2 h2 => h w2 (h2.mono hBC)

set_option maxRecDepth 100000 in
set_option maxHeartbeats 6400000 in
theorem write_paren {B b : Nat} {F : Value} {fs : List FN} {n : Nat} {least : Int} {R : List UInt8} (hx : fnodeB (fnAt fs n) = true) (hn : n < fs.length) (hR : FwR B b F fs n 1 R) (hJ : isJ (fnAt fs n).kind = true) (hl : levF (fnAt fs n).kind < least) : FwR B b F fs n least ([40] ++ R ++ [41]) := by
  intro l w hg hp hlen
  have z0 := hp.hB
  have hbl := hg.lt
  have c := hg.first
  obtain ⟨hfl, a, cap, rfl, hcv⟩ := hp.nodes
  obtain ⟨bv, ov, rfl, hbv, hcv'⟩ := hcv (by omega)
  obtain ⟨kc, kn, ki, hnd⟩ := hcv' n hn
  obtain ⟨_, aC, cC, eC, _⟩ := hnd.inn.cst
  obtain ⟨_, _, aK, cK, eK, _⟩ := hnd.inn.names
  obtain ⟨_, _, aI, cI, eI, _⟩ := hnd.inn.kids
  subst eC eK eI
  obtain ⟨x, hxe⟩ : ∃ x, fnAt fs n = x := ⟨_, rfl⟩
  rw [hxe] at hx hJ hnd hl
  clear hxe
  have c0 := hnd.c0
  have c1 := hnd.c1
  have c2 := hnd.c2
  have c3 := hnd.c3
  have c4 := hnd.c4
  have c5 := hnd.c5
  have hk := kind_inw hx
  obtain ⟨W1, hW1⟩ : ∃ W1, w.alloc (.cells #[.int .i64 x.kind, .string x.name, .int .i64 x.place, .slice aC x.cst.length cC, .slice aK x.names.length cK, .slice aI x.kids.length cI] 51) = W1 := ⟨_, rfl⟩
  have HW1 := hideB hW1
  have HX : Hid (W1.heap[w.heap.size]? = some (.cells #[.int .i64 x.kind, .string x.name, .int .i64 x.place, .slice aC x.cst.length cC, .slice aK x.names.length cK, .slice aI x.kids.length cI] 51 (0, 0))) := by rw [Hid, ← hW1]; exact heap_alloc_new w _
  have HG : Hid (GF B b (.slice (some ⟨bv, ov, none⟩) fs.length cap) l W1) := by rw [Hid, ← hW1]; exact hg.alloc _
  have HBX : Hid (Below B w W1) := by rw [Hid, ← hW1]; exact (Below.refl _ _).alloc z0 _
  have HKX : Hid (Beside b w W1) := by rw [Hid, ← hW1]; exact Beside.alloc _ _ _
  have z1 : B ≤ W1.heap.size := Nat.le_trans z0 HBX.out.size
  have HJC := hideB (fun W (hb : Below B w W) (hz : B ≤ W.heap.size) => jointOf_any x.kind W ((hp.jt.next hb).wide hz) hk.1 hk.2)
  rw [jointR_yes hJ] at HJC
  have HEQ : Hid (l ++ ([40] ++ R ++ [41]) = l ++ (⟨#[40]⟩ : ByteArray).data.toList ++ R ++ (⟨#[41]⟩ : ByteArray).data.toList) := by rw [Hid]; simp
  rw [HEQ.out] at hlen ⊢
  have HWH := hideB (fun W (hb : Below B w W) (hgW : GF B b (.slice (some ⟨bv, ov, none⟩) fs.length cap) l W) => writeAround_any hR ⟨#[40]⟩ ⟨#[41]⟩ l W hgW (hp.next hb) hlen)
  have d0 : W1.cell? ⟨w.heap.size, 0, none⟩ = some (.int .i64 x.kind) := cellAt HX.out (i := 0) rfl
  clear hg hp hW1 hlen hx hR hJ hnd hcv hcv' HEQ
  obtain ⟨RR, hRR⟩ : ∃ RR, l ++ (⟨#[40]⟩ : ByteArray).data.toList ++ R ++ (⟨#[41]⟩ : ByteArray).data.toList = RR := ⟨_, rfl⟩
  obtain ⟨sg, hsg⟩ : ∃ sg, txt (sgnJ x.kind) = sg := ⟨_, rfl⟩
  obtain ⟨lv, hlv⟩ : ∃ lv, levF x.kind = lv := ⟨_, rfl⟩
  obtain ⟨lf, hlf⟩ : ∃ lf, lftJ x.kind = lf := ⟨_, rfl⟩
  obtain ⟨rg, hrg⟩ : ∃ rg, rgtJ x.kind = rg := ⟨_, rfl⟩
  simp only [hRR] at HWH ⊢
  rw [hsg, hlv, hlf, hrg] at HJC
  rw [hlv] at hl
  clear hRR hsg hlv hlf hrg
  go_enter Tryz.func23, Tryz.ntmps23
  go_wp2_with fail
  rw [HW1.out]
  refine (HJC.out W1 HBX.out z1).mono ?_
  rintro e w2 ⟨rfl, b2⟩
  obtain ⟨W2, hW2⟩ : ∃ W2, w2.alloc (.cells #[.int .i64 x.kind, .string sg, .int .i64 lv, .int .i64 lf, .int .i64 rg] 91) = W2 := ⟨_, rfl⟩
  have HW2 := hideB hW2
  have HB2 : Hid (Below W1.heap.size W1 W2) := by rw [Hid, ← hW2]; exact b2.alloc b2.size _
  have HG2 := hideB (HG.out.keep HB2.out)
  have HY2 : Hid (W2.heap[w2.heap.size]? = some (.cells #[.int .i64 x.kind, .string sg, .int .i64 lv, .int .i64 lf, .int .i64 rg] 91 (0, 0))) := by rw [Hid, ← hW2]; exact heap_alloc_new w2 _
  have HBW := hideB (HBX.out.trans (HB2.out.mono z1))
  have HKW := hideB (HKX.out.trans (Beside.below HB2.out))
  have e2 : W2.cell? ⟨w2.heap.size, 2, none⟩ = some (.int .i64 lv) := cellAt HY2.out (i := 2) rfl
  clear b2 hW2
  go_upto_region 3 with fail
  rw [HW2.out]
  go_wp2_with fail
  refine (HWH.out W2 HBW.out HG2.out).mono ?_
  rintro e w3 ⟨rfl, f3, b3, k3⟩
  have HF3 := hideB f3
  have HB3 := hideB (HBW.out.trans b3)
  have HK3 := hideB (HKW.out.trans k3)
  clear f3 b3 k3
  go_wp2_with fail
  go_end0
  exact ⟨rfl, HF3.out, HB3.out, HK3.out⟩

theorem levF_le (k : Int) : levF k ≤ 7 ∧ 1 ≤ levF k := by
  unfold levF
  split <;> (try split) <;> (try split) <;> (try split) <;> (try split) <;> (try split) <;> omega
theorem write_any {B b : Nat} {F : Value} {fs : List FN} (hok : okF fs = true) : ∀ f n, n < f → n < fs.length → ∀ least, 1 ≤ least → least ≤ 6 → FwR B b F fs n least (fTxt fs f n least) := by
  intro f
  induction f with
  | zero => intro n h; omega
  | succ f ih =>
    intro n hf hn least h1 h6
    obtain ⟨hx, hki⟩ := (okF_parts hok).2.1 n hn
    have hkr : KidsR B b F fs f (fnAt fs n) := fun j hj => by
      have := fkids_get hki hj
      refine ⟨(intAt (fnAt fs n).kids j).toNat, by omega, fun l g1 g6 => ?_⟩
      have e : intAt (fnAt fs n).kids j = (((intAt (fnAt fs n).kids j).toNat : Nat) : Int) := by omega
      rw [e, Int.toNat_natCast]
      exact ih _ (by omega) (by omega) l g1 g6
    rw [fTxt, Int.toNat_natCast]
    cases hJ : isJ (fnAt fs n).kind
    · have hl : ¬ levF (fnAt fs n).kind < least := by unfold isJ at hJ; simp at hJ; omega
      rw [if_neg hl]
      exact write_whole hx hn hkr hJ
    · by_cases hl : levF (fnAt fs n).kind < least
      · rw [if_pos hl]
        exact write_paren hx hn (write_joined hx hn hkr hJ (by have := levF_le (fnAt fs n).kind; omega)) hJ hl
      · rw [if_neg hl]
        exact write_joined hx hn hkr hJ hl

theorem bodyF_pos {R : Int → Int → List UInt8} {x : FN} (hx : fnodeB x = true) : bodyF R x ≠ [] := by
  have hk := kind_inw hx
  intro e
  cases hJ : isJ x.kind
  · have hno := isJ_not hk.1 hk.2 hJ
    rcases kinds23w hk.1 hk.2 with h | h | h | h | h | h | h | h | h | h | h | h | h | h | h | h | h | h | h | h | h | h | h
    all_goals first
      | omega
      | (have := (cstT_len ((fit_kids hx).2.2.2.2.2.1 h)).1; rw [bodyF_5 h] at e; rw [e] at this; simp at this; done)
      | (unfold bodyF at e; rw [h] at e; revert e; simp; done)
  · rw [bodyF_J hk.1 hk.2 hJ] at e
    have : sgnJ x.kind = [] := by
      simp only [List.append_eq_nil_iff] at e
      exact e.1.2
    rcases isJ_kinds hk.1 hk.2 hJ with h | h | h | h | h | h | h | h | h | h <;> (rw [h] at this; revert this; decide)
theorem fTxt_pos {fs : List FN} {f n : Nat} {least : Int} (hx : fnodeB (fnAt fs n) = true) : fTxt fs (f + 1) n least ≠ [] := by
  rw [fTxt, Int.toNat_natCast]
  split
  · simp
  · exact bodyF_pos hx

theorem gf_new (w : World) (F : Value) : GF w.heap.size w.heap.size F [] (w.alloc (.cells #[F, .pointer none, .slice none 0 0] 42)) :=
  ⟨Nat.le_refl _, .pointer none, .slice none 0 0, .inl rfl, heap_alloc_new w _, World.ownsRow_nil _ _ _ _, by simp [Value.ownBlock]⟩

set_option maxRecDepth 100000 in
set_option maxHeartbeats 3200000 in
theorem implFilterText_any (B : Nat) (v : Value) (fs : List FN) (w : World) (h : FNodesAt B w v fs) (hB : B ≤ w.heap.size) (hjt : JtB w.heap.size w) (hwd : WdB w.heap.size w) (htab : TabB w.heap.size w) :
    Calls Tryz.prog 9 #[v] w fun e w' => e = .returned (.string (txt (filterV fs))) ∧ Below w.heap.size w w' := by
  have HV := hideIt h
  have HJT := hideIt hjt
  have HWD := hideIt hwd
  have HTAB := hideIt htab
  clear hjt hwd htab
  obtain ⟨_, a, cap, rfl, _⟩ := h
  cases hok : okF fs
  · have HT : Hid (filterV fs = []) := by rw [Hid, filterV, hok]; rfl
    have HOK := hideIt hok
    clear hok
    go_enter Tryz.func9, Tryz.ntmps9
    go_wp2_with fail
    refine (implFilterOk_any B _ fs _ HV.out hB).mono ?_
    rintro e w1 ⟨rfl, hb1⟩
    rw [HOK.out]
    go_wp2_with fail
    go_ret
    exact ⟨by rw [HT.out]; rfl, hb1⟩
  · have hlen := (okF_parts hok).1
    have HT : Hid (filterV fs = fTxt fs fs.length ((fs.length - 1 : Nat) : Int) 1) := by
      rw [Hid, filterV, hok, if_pos rfl]
      congr 1
      omega
    have HL := hideIt (fTxt_le hok fs.length (fs.length - 1) 1 (by omega) (by omega))
    have HPO : Hid (fTxt fs fs.length ((fs.length - 1 : Nat) : Int) 1 ≠ []) := by
      obtain ⟨f, hf⟩ : ∃ f, fs.length = f + 1 := ⟨fs.length - 1, by omega⟩
      rw [Hid]
      have := fTxt_pos (fs := fs) (f := f) (n := fs.length - 1) (least := 1) ((okF_parts hok).2.1 _ (by omega)).1
      rwa [← hf] at this
    have HIH : Hid (∀ W b, FwR W b (.slice a fs.length cap) fs (fs.length - 1) 1 (fTxt fs fs.length ((fs.length - 1 : Nat) : Int) 1)) := fun W b => write_any hok fs.length (fs.length - 1) (by omega) (by omega) 1 (by omega) (by omega)
    rw [HT.out]
    have HOK := hideIt hok
    clear hok
    obtain ⟨R, hR⟩ : ∃ R, fTxt fs fs.length ((fs.length - 1 : Nat) : Int) 1 = R := ⟨_, rfl⟩
    rw [hR] at HIH HL HPO ⊢
    clear hR HT
    obtain ⟨m, hm⟩ : ∃ m : Nat, fs.length - 1 = m := ⟨_, rfl⟩
    rw [hm] at HIH
    have ew : IntKind.i64.wrap ((fs.length : Int) - 1) = (m : Int) := (i64_wrap (by omega) (by omega)).trans (by omega)
    clear hm
    go_enter Tryz.func9, Tryz.ntmps9
    go_wp2_with fail
    refine (implFilterOk_any B _ fs _ HV.out hB).mono ?_
    rintro e w1 ⟨rfl, hb1⟩
    rw [HOK.out]
    have z1 := hb1.size
    have HB1 := hideIt hb1
    have HGN := hideIt (gf_new w1 (.slice a fs.length cap))
    have HBN : Hid (Below w1.heap.size w1 (w1.alloc (.cells #[.slice a fs.length cap, .pointer none, .slice none 0 0] 42))) := (Below.refl _ _).alloc (Nat.le_refl _) _
    have HFP : Hid (FwP w1.heap.size (.slice a fs.length cap) fs (w1.alloc (.cells #[.slice a fs.length cap, .pointer none, .slice none 0 0] 42))) :=
      ⟨((HV.out.below (hb1.mono hB)).wide (by omega)).below HBN.out, ((HJT.out.next hb1).wide z1).next HBN.out, ((HWD.out.next hb1).wide z1).next HBN.out, ((HTAB.out.next hb1).wide z1).next HBN.out, HBN.out.size⟩
    clear hb1
    go_wp2_with (go_at_call 23; first | refine (HIH.out _ _ [] _ HGN.out HFP.out (by rw [List.nil_append]; have := HL.out; omega)).mono ?_ | (rw [ew]; refine (HIH.out _ _ [] _ HGN.out HFP.out (by rw [List.nil_append]; have := HL.out; omega)).mono ?_))
    rintro e w2 ⟨rfl, f2, b2, _⟩
    rw [List.nil_append] at f2
    have HF2 := hideIt f2
    have HB2 := hideIt (HBN.out.trans b2)
    clear f2 b2
    go_wp2_with fail
    refine (gb_string HF2.out HPO.out).mono ?_
    rintro e w3 ⟨rfl, b3⟩
    have HB3 := hideIt (HB1.out.trans ((HB2.out.trans b3).mono z1))
    clear b3
    go_wp2_with fail
    go_ret
    exact ⟨by first | rfl | simp [txt], HB3.out⟩
end Go.Proofs.YtehihemfepbmfaaGreatDoor

/-
  The law of FilterText: the call returns true and turns nothing that was there.
-/
namespace Go.Proofs.YtehihemfepbmfaaGreatDoor
open Go.RowKit
set_option linter.unusedSimpArgs false
set_option linter.unusedVariables false

set_option maxRecDepth 100000 in
set_option maxHeartbeats 3200000 in
theorem lawFilterText_walk (v : Value) (fs : List FN) (w : World) (h : RawFNodes w.heap.size w v fs) (hjt : JtB w.heap.size w) (hwd : WdB w.heap.size w) (htab : TabB w.heap.size w) :
    Calls Tryz.prog 5 #[v] w fun e w' => e = .returned (.bool true) ∧ Below w.heap.size w w' := by
  have H := hideIt h
  have HJT := hideIt hjt
  have HWD := hideIt hwd
  have HTAB := hideIt htab
  clear hjt hwd htab
  obtain ⟨_, a, cap, rfl, _⟩ := h
  obtain ⟨S, hS⟩ : ∃ S, txt (filterV fs) = S := ⟨_, rfl⟩
  have CS := hideIt (specFilterText_any (fs := fs))
  have CI := hideIt (implFilterText_any (fs := fs))
  simp only [hS] at CS CI
  clear hS
  have hss : (S.toList == S.toList) = true := by simp
  go_enter Tryz.func5, Tryz.ntmps5
  go_wp2_with fail
  refine (szFNodeS_any w.heap.size _ fs 1048576 _ H.out (Nat.le_refl _) (by omega) (by omega)).mono ?_
  rintro e w1 ⟨⟨q, rfl, hq, hs⟩, hb1⟩
  have HS := hideIt hs
  clear hs
  by_cases hq0 : q < 0
  · go_wp2_with fail
    go_ret
    exact ⟨rfl, hb1⟩
  · have HN := hideIt (H.out.fit (HS.out (by omega)).1 (HS.out (by omega)).2)
    have z1 := hb1.size
    go_wp2_with fail
    refine (toFNodeS_any w.heap.size _ fs _ (HN.out.below hb1) (by omega)).mono ?_
    rintro e w2 ⟨rfl, ho2, hb2⟩
    have HO2 := hideIt ho2
    have z2 := hb2.size
    clear ho2
    go_wp2_with fail
    refine (CS.out w2.heap.size _ _ HO2.out (Nat.le_refl _)).mono ?_
    rintro e w3 ⟨rfl, hb3⟩
    have z3 := hb3.size
    have hb13 : Below w.heap.size w w3 := (hb1.trans (hb2.mono z1)).trans (hb3.mono (by omega))
    go_wp2_with fail
    refine (toFNodeS_any w.heap.size _ fs _ (HN.out.below hb13) (by omega)).mono ?_
    rintro e w4 ⟨rfl, ho4, hb4⟩
    have HO4 := hideIt ho4
    have z4 := hb4.size
    have hb14 : Below w.heap.size w w4 := hb13.trans (hb4.mono (by omega))
    clear ho4
    go_wp2_with fail
    refine (CI.out w4.heap.size _ _ HO4.out (Nat.le_refl _) ((HJT.out.next hb14).wide (by omega)) ((HWD.out.next hb14).wide (by omega)) ((HTAB.out.next hb14).wide (by omega))).mono ?_
    rintro e w5 ⟨rfl, hb5⟩
    have z5 := hb5.size
    have hb15 : Below w.heap.size w w5 := hb14.trans (hb5.mono (by omega))
    have HO5 := hideIt (HO4.out.below hb5)
    go_wp2_with fail
    all_goals
      refine (toFNodeS_any w.heap.size _ fs _ (HN.out.below hb15) (by omega)).mono ?_
      rintro e w6 ⟨rfl, ho6, hb6⟩
      have HO6 := hideIt ho6
      have z6 := hb6.size
      clear ho6
      go_wp2_with fail
      refine (eqFNodeS_any w6.heap.size _ _ fs _ ((HO5.out.below (hb6.mono (by omega))).wide (by omega)) HO6.out (Nat.le_refl _)).mono ?_
      rintro e w7 ⟨rfl, hb7⟩
      go_wp2_with fail
      go_ret
      exact ⟨rfl, (hb15.trans (hb6.mono (by omega))).trans (hb7.mono (by omega))⟩
end Go.Proofs.YtehihemfepbmfaaGreatDoor

/-
  PROVED: for every list of filter nodes the law FnExactFilterText returns true: the program's FilterText answers as the specification's, and writes into no argument. Conditions: the row's own (the five listed tables read as their initialisers lay them), tied to the program's text by the card.
-/
namespace Go.Proofs.YtehihemfepbmfaaGreatDoor
open Go.ChangeShapes Go.WideShapes Go.ChangeAt Go.RowKit
set_option linter.unusedVariables false

set_option maxRecDepth 100000 in
theorem filterText_lifted (os : Os) (started : os.Started) (H : Type) (enc : TypeId × Value → H) :
    ReturnsInHanded {} Tryz.checked os 5 .any (fun w args => (Rows.fnExactFilterTextSpec.pre enc Tryz.prog Tryz.f5 [] false w args ∧ laidMetH Tryz.prog Rows.fnExactFilterTextRow.laid w) ∧ sizedMet enc Tryz.prog Tryz.f5 (OpenSpec.ofChange Rows.fnExactFilterTextSpec) false w args)
      (Rows.fnExactFilterTextSpec.post enc Tryz.prog Tryz.f5 false true false false) := by
  refine returnsInHanded_of_change_and (C := Tryz.checked) (X := fun w _ => laidMetH Tryz.prog Rows.fnExactFilterTextRow.laid w) (fun _ _ _ hh h => h.of_heap hh) js_own started (by kernel_rfl) Tryz.func5
    (ChangeSpec.witness_shaped (enc := enc) (C := Tryz.checked) (os := os) (X := fun w _ => laidMetH Tryz.prog Rows.fnExactFilterTextRow.laid w) false (World.laidAll Tryz.prog os Rows.fnExactFilterTextRow.laid) #[.slice none 0 0] 8 (World.laidAll_os _ _ _)
      (World.shaped_of_ZipB (by kernel_rfl) (by kernel_rfl)) (by kernel_rfl) (by kernel_rfl) (by kernel_rfl)
      (by rw [MakeChecks.laidMetH_plain _ _ _ (by kernel_rfl)]; exact laidMet_laidAll _ (by kernel_rfl) (by kernel_rfl))) ?_
  intro W base args ds gs before hval0 hW _ _ hL0 _
  have hL : laidMetH Tryz.prog Rows.fnExactFilterTextRow.laid W := hL0
  rw [MakeChecks.laidMetH_plain _ _ _ (by kernel_rfl)] at hL
  have hval : ∀ (j : Nat) t v, Tryz.f5.params[j]? = some t → args[j]? = some v → Value.okWide Tryz.prog W .any base t v := hval0
  have hW' := hW
  obtain ⟨p, q, hA0, hV, rfl, hfz, hnd⟩ := hW
  have hA : DataW.TrodAll enc Tryz.prog W 0 (fun _ => true) true Tryz.f5.params.toList args.toList ds p := hA0
  rw [Tryz.params5] at hA hval
  obtain ⟨v0, vs0, d0, ds0, p0, q0, hargs, rfl, rfl, h0, r0⟩ := trodAll_cons hA
  obtain ⟨rfl, rfl, rfl⟩ := trodAll_nil r0
  obtain rfl : args = #[v0] := by cases args; simp_all
  have hV1 : DataW.TrodVars enc Tryz.prog W (fun _ => true) ["loop.example/g00345/impl.joints", "loop.example/g00345/impl.words"] gs q := hV
  have hV2 := hV1
  obtain ⟨g0, t0, cs0, u0, e0, r0, g1, t1, cs1, u1, e1, r1, rfl, _⟩ := trodVars_two hV2
  obtain ⟨a0, len0, cap0, rfl⟩ := okWide_slice Tryz.underlying32 (hval 0 32 v0 rfl rfl)
  have k0 := h0
  have lt0 : ∀ x ∈ p0, x.block < W.heap.size := by obtain ⟨m, hm⟩ := k0; exact DataW.trod_lt m _ _ _ hm
  obtain ⟨vs, w0⟩ : ∃ vs, RawFNodes W.heap.size W (.slice a0 len0 cap0) vs := by
    obtain ⟨fuel, hf⟩ := h0
    exact raw_fnodes (by simpa [Value.cells] using hf)
  clear hA0 hval0
  refine (lawFilterText_walk (.slice a0 len0 cap0) vs W w0 (fv_jt hL (by simp [Rows.fnExactFilterTextRow])) (fv_wd hL (by simp [Rows.fnExactFilterTextRow])) (js_tabB (fv_tabIs hL (by simp [Rows.fnExactFilterTextRow])))).mono fun e W' ⟨he, bel⟩ => ?_
  subst he
  exact ⟨_, rfl, _, _, _, [], _, _, hW', trodAll_mk1 (shut_bool Tryz.underlying4 _), (trodAll_cons_mk (Below.trod js_laidOut (by kernel_rfl) (of_decide_eq_true (by kernel_rfl)) k0 bel lt0) trodAll_mk0), Below.trodVars js_laidOut bel (by kernel_rfl) hV1, bel.frame _, fun h => by cases h⟩

theorem fnExactFilterText_row : Rows.FnExactFilterTextSaid :=
  OpenClaim.holds_of_wide 5 Tryz.f5 rfl rfl rfl rfl rfl rfl rfl ⟨rfl, rfl, rfl, rfl, rfl⟩ rfl rfl rfl rfl rfl (by kernel_rfl) Tryz.func5 (by kernel_rfl)
    (of_decide_eq_true (by kernel_rfl)) (by unfold Func.isWrapper; first | (rw [if_pos (by decide +kernel)]; kernel_rfl) | (rw [if_neg (by decide +kernel)]; exact ⟨rfl, rfl⟩))
    (fun os started H enc _ => filterText_lifted os started H enc)

theorem fnExactFilterText_holds : Rows.FnExactFilterTextCardSaid :=
  Claim7.holds_tied_plain_at .later [] [.data, .data, .data, .data, .data] true (true, "f82034209be3bb5813f69ba8894dacfe07c8a99007b931c553cb6568e8e06c20") true
    fnExactFilterText_row (fun _ h => by cases h) (by kernel_rfl) (fun _ h => by cases h) fnExactFilterText_row_tie rfl ⟨rfl, rfl⟩ (by kernel_rfl) rfl
    (fun f fn hf hfn => by
      obtain rfl : f = 5 := Option.some.inj ((show Tryz.prog.funcNamed "loop.example/g00345/laws.FnExactFilterText" = some 5 by kernel_rfl).symm.trans hf) |>.symm
      obtain rfl : fn = Tryz.f5 := (Option.some.inj (Tryz.func5.symm.trans hfn)).symm
      exact ⟨by kernel_rfl, fun j t ht => by
        rw [Tryz.params5] at ht
        have h3 : t = 32 := by
          rcases j with _ | j
          · simpa using ht.symm
          · simp at ht
        subst h3
        exact (show Tryz.prog.wantsStandIn 32 = false by kernel_rfl)⟩)
    (by kernel_rfl)
#print axioms fnExactFilterText_holds
end Go.Proofs.YtehihemfepbmfaaGreatDoor
