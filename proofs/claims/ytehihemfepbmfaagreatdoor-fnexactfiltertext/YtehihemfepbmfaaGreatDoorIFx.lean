/-
  The specification's l7Text and FilterText.
-/
import Derived.Test.YtehihemfepbmfaaGreatDoorSFtC
import Derived.Test.YtehihemfepbmfaaGreatDoorSFtE
import Derived.Test.YtehihemfepbmfaaGreatDoorSFtF
import Derived.Test.YtehihemfepbmfaaGreatDoorSFtG
import Derived.Test.YtehihemfepbmfaaGreatDoorFSpc3
import Derived.Test.YtehihemfepbmfaaGreatDoorVarsF
namespace Go.Proofs.YtehihemfepbmfaaGreatDoor
open Go.RowKit
set_option linter.unusedSimpArgs false
set_option linter.unusedVariables false

theorem l7One {B : Nat} {fs : List FN} {f : Nat} (ih : SfAll B fs f) {x : FN} (h1 : 1 ≤ x.kind) (h2 : x.kind ≤ 23) : SfOne B x (bodyF (fTxt fs f) x) f fs := by
  rcases kinds23 h1 h2 with h | h | h | h | h | h | h | h | h | h | h | h | h | h | h | h | h | h | h | h | h | h | h
  · exact sf_k1 B x f fs h
  · exact sf_k2 B x f fs h
  · exact sf_k3 B x f fs h
  · exact sf_k4 B x f fs h
  · exact sf_k5 B x f fs h
  · exact sf_k6 B x f fs ih h
  · exact sf_k7 B x f fs ih h
  · exact sf_k8 B x f fs ih h
  · exact sf_k9 B x f fs ih h
  · exact sf_k10 B x f fs ih h
  · exact sf_k11 B x f fs h
  · exact sf_k12 B x f fs h
  · exact sf_k13 B x f fs h
  · exact sf_k14 B x f fs h
  · exact sf_k15 B x f fs ih h
  · exact sf_k16 B x f fs ih h
  · exact sf_k17 B x f fs ih h
  · exact sf_k18 B x f fs ih h
  · exact sf_k19 B x f fs ih h
  · exact sf_k20 B x f fs ih h
  · exact sf_k21 B x f fs ih h
  · exact sf_k22 B x f fs ih h
  · exact sf_k23 B x f fs ih h

theorem kind_in {x : FN} (h : fnodeB x = true) : 1 ≤ x.kind ∧ x.kind ≤ 23 := by
  obtain ⟨_, _, fo, _⟩ := fit_kids h
  by_cases h8 : x.kind = 8
  · omega
  by_cases h9 : x.kind = 9
  · omega
  exact ⟨(fo h8 h9).1, (fo h8 h9).2.1⟩
theorem bodyF_le {fs : List FN} (hok : okF fs = true) {f n : Nat} (hn : n < fs.length) (hf : n < f + 1) : (bodyF (fTxt fs f) (fnAt fs n)).length ≤ 24600 := by
  have := fTxt_le hok (f + 1) n 0 hn hf
  rw [fTxt, Int.toNat_natCast, if_neg (by have := kind_in ((okF_parts hok).2.1 n hn).1; unfold levF; split <;> (try split) <;> (try split) <;> (try split) <;> (try split) <;> (try split) <;> omega)] at this
  exact this
theorem kids_le {fs : List FN} (hok : okF fs = true) {f n : Nat} (hn : n < fs.length) (hf : n < f + 1) : ∀ j, j < (fnAt fs n).kids.length → ∃ q : Nat, intAt (fnAt fs n).kids j = q ∧ q < f ∧ q < fs.length ∧ ∀ l, (fTxt fs f q l).length ≤ 24600 := by
  intro j hj
  have := fkids_get ((okF_parts hok).2.1 n hn).2 hj
  refine ⟨(intAt (fnAt fs n).kids j).toNat, by omega, by omega, by omega, fun l => ?_⟩
  exact fTxt_le hok f _ l (by omega) (by omega)

theorem l7Text_any {B : Nat} {fs : List FN} (hok : okF fs = true) : ∀ f, SfAll B fs f := by
  intro f
  induction f with
  | zero => intro v n least w _ _ h; omega
  | succ f ih =>
    intro v n least w h hB hnf hn hl1 hl6
    obtain ⟨⟨p1, p2⟩, p3, _⟩ := okF_parts hok
    have h' := h
    obtain ⟨_, a, cap, rfl, hcv⟩ := h
    obtain ⟨bv, ov, rfl, hbv, hcv'⟩ := hcv (by omega)
    obtain ⟨kc, kn, ki, hnd⟩ := hcv' n hn
    obtain ⟨hx, hki⟩ := p3 n hn
    have hk := kind_in hx
    have := l7One ih hk.1 hk.2 w bv ov fs.length cap n kc kn ki least h' ⟨hnd, hbv, hB, hn, p2⟩ hx (kids_le hok hn hnf) (bodyF_le hok hn hnf) hl1 hl6
    rw [fTxt, Int.toNat_natCast]
    exact this

set_option maxRecDepth 100000 in
set_option maxHeartbeats 3200000 in
theorem specFilterText_any (B : Nat) (v : Value) (fs : List FN) (w : World) (h : FNodesAt B w v fs) (hB : B ≤ w.heap.size) :
    Calls Tryz.prog 10 #[v] w fun e w' => e = .returned (.string (txt (filterV fs))) ∧ Below w.heap.size w w' := by
  have HV := hideIt h
  obtain ⟨_, a, cap, rfl, _⟩ := h
  cases hok : okF fs
  · have HT : Hid (filterV fs = []) := by rw [Hid, filterV, hok]; rfl
    have HOK := hideIt hok
    clear hok
    go_enter Tryz.func10, Tryz.ntmps10
    go_wp2_with fail
    refine (specFilterOk_any B _ fs _ HV.out hB).mono ?_
    rintro e w1 ⟨rfl, hb1⟩
    rw [HOK.out]
    go_wp2_with fail
    go_ret
    exact ⟨by rw [HT.out]; rfl, hb1⟩
  · have hlen := (okF_parts hok).1
    have HT : Hid (filterV fs = fTxt fs fs.length ((fs.length - 1 : Nat) : Int) 1) := by
      rw [Hid, filterV, hok, if_pos rfl]
      congr 1
      omega
    have HIH : Hid (∀ W, Below w.heap.size w W → Calls Tryz.prog 25 #[.slice a fs.length cap, .int .i64 ((fs.length - 1 : Nat) : Int), .int .i64 1] W fun e w' => e = .returned (.string (txt (fTxt fs fs.length ((fs.length - 1 : Nat) : Int) 1))) ∧ Below W.heap.size W w') := fun W hb => l7Text_any hok fs.length _ (fs.length - 1) 1 W (HV.out.below (hb.mono hB)) (Nat.le_trans hB hb.size) (by omega) (by omega) (by omega) (by omega)
    rw [HT.out]
    have HOK := hideIt hok
    clear hok
    obtain ⟨R, hR⟩ : ∃ R, fTxt fs fs.length ((fs.length - 1 : Nat) : Int) 1 = R := ⟨_, rfl⟩
    rw [hR] at HIH ⊢
    clear hR HT
    obtain ⟨m, hm⟩ : ∃ m : Nat, fs.length - 1 = m := ⟨_, rfl⟩
    rw [hm] at HIH
    have ew : IntKind.i64.wrap ((fs.length : Int) - 1) = (m : Int) := (i64_wrap (by omega) (by omega)).trans (by omega)
    go_enter Tryz.func10, Tryz.ntmps10
    go_wp2_with fail
    refine (specFilterOk_any B _ fs _ HV.out hB).mono ?_
    rintro e w1 ⟨rfl, hb1⟩
    rw [HOK.out]
    go_wp2_with (go_at_call 25; first | refine (HIH.out _ hb1).mono ?_ | (rw [ew]; refine (HIH.out _ hb1).mono ?_))
    rintro e w2 ⟨rfl, hb2⟩
    go_wp2_with fail
    go_ret
    exact ⟨rfl, hb1.trans (hb2.mono hb1.size)⟩
end Go.Proofs.YtehihemfepbmfaaGreatDoor

/-
  The program's filterWriter: writeJoined.
-/
namespace Go.Proofs.YtehihemfepbmfaaGreatDoor
open Go.RowKit
set_option linter.unusedSimpArgs false
set_option linter.unusedVariables false

/-- A block of joints is kept. -/
theorem box_kept {b c : Nat} {w w' : World} {cs : Array Value} {T : TypeId} {z : Nat × Nat} (k : Beside b w w') (h : w.heap[c]? = some (.cells cs T z)) (hb : c ≠ b) (hT : T ≠ 5) : w'.heap[c]? = some (.cells cs T z) :=
  (k.2 c (lt_heap h) hb (fun cs2 z2 e => by rw [h] at e; injection e with e; injection e with _ e2; exact hT e2)).trans h

set_option maxRecDepth 100000 in
set_option maxHeartbeats 6400000 in
theorem writeJoined_any {B b : Nat} {F : Value} {fs : List FN} {kids : List Int} {a : Option Addr} {M cap : Nat} {kk lv lf rg : Int} {sg : ByteArray} {R0 R1 : List UInt8} (hM : M = 1 ∧ rg = 0 ∨ M = 2 ∧ 0 < rg)
    (hR0 : ∃ q : Nat, intAt kids 0 = q ∧ FwR B b F fs q lf R0) (hR1 : 0 < rg → ∃ q : Nat, intAt kids 1 = q ∧ FwR B b F fs q rg R1) (l : List UInt8) (w : World) (hk : KidsAt B w a M kids) (hg : GF B b F l w) (hp : FwP B F fs w) (hlen : (l ++ R0 ++ sg.data.toList ++ (if 0 < rg then R1 else [])).length ≤ 100000000) :
    Calls Tryz.prog 60 #[.pointer (some ⟨b, 0, none⟩), .agg #[.int .i64 kk, .string sg, .int .i64 lv, .int .i64 lf, .int .i64 rg], .slice a M cap] w fun e w' => e = .returned (.tuple #[]) ∧ GF B b F (l ++ R0 ++ sg.data.toList ++ (if 0 < rg then R1 else [])) w' ∧ Below B w w' ∧ Beside b w w' := by
  have z0 := hp.hB
  have HR1 := hideB hR1
  clear hR1
  obtain ⟨q0, e0, hr0⟩ := hR0
  obtain ⟨_, hk⟩ := hk
  obtain ⟨bi, oi, rfl, hbi, hc⟩ := hk (by omega)
  have c0 := hc 0 (by omega)
  rw [e0, Nat.add_zero] at c0
  have hbl := hg.lt
  have HC := hideB hc
  obtain ⟨W1, hW1⟩ : ∃ W1, w.alloc (.cells #[.int .i64 kk, .string sg, .int .i64 lv, .int .i64 lf, .int .i64 rg] 91) = W1 := ⟨_, rfl⟩
  have HW1 := hideB hW1
  have HX : Hid (W1.heap[w.heap.size]? = some (.cells #[.int .i64 kk, .string sg, .int .i64 lv, .int .i64 lf, .int .i64 rg] 91 (0, 0))) := by rw [Hid, ← hW1]; exact heap_alloc_new w _
  have HG : Hid (GF B b F l W1) := by rw [Hid, ← hW1]; exact hg.alloc _
  have HBX : Hid (Below B w W1) := by rw [Hid, ← hW1]; exact (Below.refl _ _).alloc z0 _
  have HKX : Hid (Beside b w W1) := by rw [Hid, ← hW1]; exact Beside.alloc _ _ _
  have HPW := hideB hp
  have HR0 := hideB hr0
  have d0 := (below_cell HBX.out hbi).trans c0
  have x3 : W1.cell? ⟨w.heap.size, 3, none⟩ = some (.int .i64 lf) := cellAt HX.out (i := 3) rfl
  simp only [List.length_append, len_is] at hlen
  have hl1 : l.length + R0.length + sg.size ≤ 100000000 := by omega
  have HLEN := hideB hlen
  clear hg hp hr0 hk hc e0 hW1 hlen c0
  rcases hM with ⟨rfl, hrg⟩ | ⟨rfl, hrg⟩
  · have hrg' : ¬ (0 : Int) < rg := by omega
    rw [if_neg hrg', List.append_nil]
    clear hrg
    go_enter Tryz.func60, Tryz.ntmps60
    go_wp2_with fail
    rw [HW1.out]
    go_region_held3 (fun w' => w'.cell? ⟨w.heap.size, 3, none⟩ = some (.int .i64 lf) ∧ w'.cell? ⟨bi, oi, none⟩ = some (.int .i64 q0))
      (first | exact ⟨cellAt (box_kept k2 HX.out (by omega) (by decide)) (i := 3) rfl, (below_cell b2 hbi).trans d0⟩ | exact ⟨x3, d0⟩)
      (first
        | (go_at_call 23; refine (HR0.out l _ HG.out.drew (HPW.out.next (Below.drew HBX.out)) (by simp only [List.length_append]; omega)).mono ?_; rintro e w2 ⟨rfl, f2, b2, k2⟩))
    have HF2 := hideB f2
    have HB2 := hideB (HBX.out.trans ((Below.drew (Below.refl _ _)).trans b2))
    have HK2 := hideB (HKX.out.trans (show Beside b W1 w2 from k2))
    have HX2 := hideB (box_kept k2 HX.out (by omega) (by decide))
    have z2 := HB2.out.size
    have x1 : w2.cell? ⟨w.heap.size, 1, none⟩ = some (.string sg) := cellAt HX2.out (i := 1) rfl
    have hb2 := HF2.out.lt
    clear f2 b2 k2 x3 d0
    go_wp2_with fail
    go_region_held3 (fun w' => w'.cell? ⟨w.heap.size, 1, none⟩ = some (.string sg))
      (first | exact cellAt (box_kept k3 HX2.out (by omega) (by decide)) (i := 1) rfl | exact x1)
      (first
        | (go_at_call 92; refine (gb_text gt_filter HF2.out.drew sg (by simp only [List.length_append]; omega) (by simp; omega)).mono ?_; rintro e w3 ⟨rfl, f3, b3, k3⟩))
    have HF3 := hideB f3
    have HB3 := hideB (HB2.out.trans ((Below.drew (Below.refl _ _)).trans b3))
    have HK3 := hideB (HK2.out.trans (show Beside b w2 w3 from k3))
    have HX3 := hideB (box_kept k3 HX2.out (by omega) (by decide))
    have z3 := HB3.out.size
    have x4 : w3.cell? ⟨w.heap.size, 4, none⟩ = some (.int .i64 rg) := cellAt HX3.out (i := 4) rfl
    clear f3 b3 k3 x1
    go_wp2_with fail
    go_end0
    exact ⟨rfl, HF3.out, HB3.out, HK3.out⟩
  · obtain ⟨q1, e1, hr1⟩ := HR1.out hrg
    have HRR1 := hideB hr1
    have HC1 := hideB (HC.out 1 (by omega))
    rw [e1] at HC1
    have hl2 : l.length + R0.length + sg.size + R1.length ≤ 100000000 := by have := HLEN.out; rw [if_pos hrg] at this; omega
    rw [if_pos hrg]
    clear hr1 e1
    go_enter Tryz.func60, Tryz.ntmps60
    go_wp2_with fail
    rw [HW1.out]
    go_region_held3 (fun w' => w'.cell? ⟨w.heap.size, 3, none⟩ = some (.int .i64 lf) ∧ w'.cell? ⟨bi, oi, none⟩ = some (.int .i64 q0))
      (first | exact ⟨cellAt (box_kept k2 HX.out (by omega) (by decide)) (i := 3) rfl, (below_cell b2 hbi).trans d0⟩ | exact ⟨x3, d0⟩)
      (first
        | (go_at_call 23; refine (HR0.out l _ HG.out.drew (HPW.out.next (Below.drew HBX.out)) (by simp only [List.length_append]; omega)).mono ?_; rintro e w2 ⟨rfl, f2, b2, k2⟩))
    have HF2 := hideB f2
    have HB2 := hideB (HBX.out.trans ((Below.drew (Below.refl _ _)).trans b2))
    have HK2 := hideB (HKX.out.trans (show Beside b W1 w2 from k2))
    have HX2 := hideB (box_kept k2 HX.out (by omega) (by decide))
    have z2 := HB2.out.size
    have x1 : w2.cell? ⟨w.heap.size, 1, none⟩ = some (.string sg) := cellAt HX2.out (i := 1) rfl
    have hb2 := HF2.out.lt
    clear f2 b2 k2 x3 d0
    go_wp2_with fail
    go_region_held3 (fun w' => w'.cell? ⟨w.heap.size, 1, none⟩ = some (.string sg))
      (first | exact cellAt (box_kept k3 HX2.out (by omega) (by decide)) (i := 1) rfl | exact x1)
      (first
        | (go_at_call 92; refine (gb_text gt_filter HF2.out.drew sg (by simp only [List.length_append]; omega) (by simp; omega)).mono ?_; rintro e w3 ⟨rfl, f3, b3, k3⟩))
    have HF3 := hideB f3
    have HB3 := hideB (HB2.out.trans ((Below.drew (Below.refl _ _)).trans b3))
    have HK3 := hideB (HK2.out.trans (show Beside b w2 w3 from k3))
    have HX3 := hideB (box_kept k3 HX2.out (by omega) (by decide))
    have z3 := HB3.out.size
    have x4 : w3.cell? ⟨w.heap.size, 4, none⟩ = some (.int .i64 rg) := cellAt HX3.out (i := 4) rfl
    clear f3 b3 k3 x1
    have y1 := (below_cell HB3.out hbi).trans HC1.out
    go_wp2_with fail
    go_region_held3 (fun w' => w'.cell? ⟨w.heap.size, 4, none⟩ = some (.int .i64 rg) ∧ w'.cell? ⟨bi, oi + 1, none⟩ = some (.int .i64 q1))
      (first | exact ⟨cellAt (box_kept k4 HX3.out (by have := HF3.out.lt; omega) (by decide)) (i := 4) rfl, (below_cell b4 hbi).trans y1⟩ | exact ⟨x4, y1⟩)
      (first
        | (go_at_call 23; refine (HRR1.out _ _ HF3.out.drew (HPW.out.next (Below.drew HB3.out)) (by simp only [List.length_append, len_is]; omega)).mono ?_; rintro e w4 ⟨rfl, f4, b4, k4⟩))
    have HF4 := hideB f4
    have HB4 := hideB (HB3.out.trans ((Below.drew (Below.refl _ _)).trans b4))
    have HK4 := hideB (HK3.out.trans (show Beside b w3 w4 from k4))
    clear f4 b4 k4
    go_wp2_with fail
    go_end0
    exact ⟨rfl, HF4.out, HB4.out, HK4.out⟩
end Go.Proofs.YtehihemfepbmfaaGreatDoor
