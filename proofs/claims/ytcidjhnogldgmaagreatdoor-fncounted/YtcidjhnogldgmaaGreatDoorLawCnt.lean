import Derived.Test.YtcidjhnogldgmaaGreatDoorCntP
import Derived.Test.YtcidjhnogldgmaaGreatDoorFrRg
import Derived.Test.YtcidjhnogldgmaaGreatDoorSameA
import Derived.Test.YtcidjhnogldgmaaGreatDoorDrLn
import Derived.Test.YtcidjhnogldgmaaGreatDoorBigK
import Derived.Test.YtcidjhnogldgmaaGreatDoorSLen
namespace Go.Proofs.YtcidjhnogldgmaaGreatDoor
open Go.RowKit
set_option linter.unusedSimpArgs false
set_option linter.unusedVariables false
theorem cnt_fnodes {base : Nat} {Z : Nat → Prop} {w : World} {v : Value} {fs : List FN} (h : FRow base Z w v fs) (hn : fs.length ≤ 1048576) (hf : AllF fs) : FNodesAt w.heap.size w v fs := by
  obtain ⟨C, N, I, hN, _⟩ := h
  exact hN.nodes hn hf
def RunAns (C : Int) (M : Nat) (R : Nat → List VN) (w : World) (e : Ending) (w' : World) : Prop :=
  ∃ r base rs KV IV lo, e = .returned (.tuple #[r, .bool (decide (C = 0))]) ∧ w.heap.size ≤ base ∧ Rows2 base w' r M R rs KV IV lo ∧ Below w.heap.size w w'
set_option maxRecDepth 100000 in
set_option maxHeartbeats 6400000 in
theorem run_any {s : ByteArray} {fs : List FN} (hs : fltF s.data.toList = some fs) (hl : s.size ≤ 1000) (h3 : One3 fs) (v : Value) (vs : List VN) (w : World) (hv : NodesAt w.heap.size w v vs) (ht : TabsR w.heap.size w) (hE : Errs4 w) :
    Calls Tryz.prog 9 #[.string s, v] w (RunAns (evalC fs vs 2000) (evalL fs vs 2000).length (rowAt (evalL fs vs 2000)) w) := by
  have HV := hideIt hv
  have HE := hideIt hE
  have H3 := hideIt h3
  have HS := hideIt hs
  have HRF := hideIt (implReadFilter_any (s := s) ht (by omega))
  obtain ⟨_, a, cap, rfl, _⟩ := hv
  obtain ⟨n, hn⟩ : ∃ n, vs.length = n := ⟨_, rfl⟩
  have HN := hideIt hn
  rw [hn] at HV ⊢
  obtain ⟨C, hC⟩ : ∃ C, evalC fs vs 2000 = C := ⟨_, rfl⟩
  obtain ⟨L, hL⟩ : ∃ L, evalL fs vs 2000 = L := ⟨_, rfl⟩
  have HEV : Hid (∀ fv w1, FNodesAt w1.heap.size w1 fv fs → Below w.heap.size w w1 → Calls Tryz.prog 20 #[fv, .slice a n cap, .int .i64 2000] w1 fun e w' => ∃ r base rs KV IV lo, e = .returned (.tuple #[r, .int .i64 C]) ∧ w1.heap.size ≤ base ∧ Rows2 base w' r L.length (rowAt L) rs KV IV lo ∧ Below w1.heap.size w1 w') := fun fv w1 hf hb => by
    rw [← hC, ← hL]
    have := implEval_one fv _ fs H3.out vs 2000 w1 hf ((HV.out.below hb).wide hb.size) (HE.out.keep hb) (by omega) (by omega)
    exact this
  rw [hC, hL]
  obtain ⟨M, hM⟩ : ∃ M, L.length = M := ⟨_, rfl⟩
  rw [hM] at HEV ⊢
  clear hs h3 hE ht hn hC hL hM
  go_enter Tryz.func9, Tryz.ntmps9
  go_wp2_with fail
  refine HRF.out.mono ?_
  rintro e w1 ⟨hb1, ⟨fv, fs', h1, rfl, hrow, hall⟩ | ⟨h1, _⟩⟩
  case inr => rw [HS.out] at h1; cases h1
  rw [HS.out] at h1
  injection h1 with h1
  subst h1
  have hlen := H3.out.1
  have HFN := hideIt (cnt_fnodes hrow (by omega) hall)
  obtain ⟨af, cf, rfl⟩ := hrow.slice
  rw [hlen] at HFN ⊢
  have HB1 := hideIt hb1
  clear hb1 hrow hall hlen
  go_wp2_with fail
  refine (HEV.out _ w1 HFN.out HB1.out).mono ?_
  rintro e w2 ⟨r, base, rs, KV, IV, lo, rfl, hbase, hrows, hb2⟩
  have HR := hideIt hrows
  have HB2 : Hid (Below w.heap.size w w2) := HB1.out.trans (hb2.mono HB1.out.size)
  have hbs : w.heap.size ≤ base := Nat.le_trans HB1.out.size hbase
  obtain ⟨ar, cr, er⟩ := own_slice HR.out.row
  subst er
  clear hrows hb2
  by_cases hC0 : C = 0
  · subst hC0
    go_wp2_with fail
    go_ret2
    exact ⟨_, base, rs, KV, IV, lo, rfl, hbs, HR.out, HB2.out⟩
  · have hq : decide (C = 0) = false := by simpa using hC0
    have hq2 : (C == 0) = false := by simpa using hC0
    go_wp2_with fail
    go_ret2
    exact ⟨_, base, rs, KV, IV, lo, by simp [hq], hbs, HR.out, HB2.out⟩
end Go.Proofs.YtcidjhnogldgmaaGreatDoor

namespace Go.Proofs.YtcidjhnogldgmaaGreatDoor
open Go.RowKit
set_option linter.unusedSimpArgs false
set_option linter.unusedVariables false
theorem flt_length : fltF (⟨#[108, 101, 110, 103, 116, 104]⟩ : ByteArray).data.toList = some [nodeK 11] := by kernel_rfl
theorem flt_keys : fltF (⟨#[107, 101, 121, 115]⟩ : ByteArray).data.toList = some [nodeK 12] := by kernel_rfl
theorem flt_each : fltF (⟨#[46, 91, 93]⟩ : ByteArray).data.toList = some [nodeK 4] := by kernel_rfl
theorem ok_length : okF [nodeK 11] = true := by kernel_rfl
theorem ok_keys : okF [nodeK 12] = true := by kernel_rfl
theorem ok_each : okF [nodeK 4] = true := by kernel_rfl
theorem run_rows {s : ByteArray} {fs : List FN} (hs : fltF s.data.toList = some fs) (hl : s.size ≤ 1000) (h3 : One3 fs) (v : Value) (vs : List VN) (w : World) (hv : NodesAt w.heap.size w v vs) (ht : TabsR w.heap.size w) (hE : Errs4 w) :
    Calls Tryz.prog 9 #[.string s, v] w fun e w' => ∃ a m c, e = .returned (.tuple #[.slice a m c, .bool (decide (evalC fs vs 2000 = 0))]) ∧ m = (evalL fs vs 2000).length ∧ RowsAt w'.heap.size w' (.slice a m c) m (rowAt (evalL fs vs 2000)) ∧ Below w.heap.size w w' := by
  refine (run_any hs hl h3 v vs w hv ht hE).mono ?_
  rintro e w' ⟨r, base, rs, KV, IV, lo, rfl, _, hr, hb⟩
  have h2 := hr.rows (Nat.le_trans evalL_few (by omega)) cnt_rows
  obtain ⟨a, c, rfl⟩ := own_slice hr.row
  exact ⟨a, _, c, rfl, rfl, h2, hb⟩
theorem rows_one {B : Nat} {w : World} {v : Value} {R : Nat → List VN} {ns : List VN} (h : RowsAt B w v 1 R) (e : R 0 = ns) : ∃ b c r, v = .slice (some ⟨b, 0, none⟩) 1 c ∧ b < B ∧ w.cell? ⟨b, 0, none⟩ = some r ∧ NodesAt B w r ns := by
  obtain ⟨_, a, c, rfl, hc⟩ := h
  obtain ⟨b, rfl, hb, hi⟩ := hc (by omega)
  obtain ⟨r, hr, hn⟩ := hi 0 (by omega)
  exact ⟨b, c, r, rfl, hb, hr, by rw [← e]; exact hn⟩
theorem run_len3 (v : Value) (vs : List VN) (w : World) (hv : NodesAt w.heap.size w v vs) (ht : TabsR w.heap.size w) (hE : Errs4 w) (hok : okB vs = true) (hc : lenC vs = 0) :
    Calls Tryz.prog 9 #[.string ⟨#[108, 101, 110, 103, 116, 104]⟩, v] w fun e w' => ∃ b c r, e = .returned (.tuple #[.slice (some ⟨b, 0, none⟩) 1 c, .bool true]) ∧ b < w'.heap.size ∧ w'.cell? ⟨b, 0, none⟩ = some r ∧ NodesAt w'.heap.size w' r (lenNs vs) ∧ Below w.heap.size w w' := by
  refine (run_rows flt_length (by decide) ⟨rfl, .inr (.inl rfl)⟩ v vs w hv ht hE).mono ?_
  rintro e w' ⟨a, m, c, rfl, hm, hr, hb⟩
  obtain ⟨e1, e2⟩ := cnt_length (fs := [nodeK 11]) rfl rfl ok_length hok hc
  rw [e2] at hm hr
  obtain rfl : m = 1 := hm
  obtain ⟨b, c', r, e3, h1, h2, h3⟩ := rows_one (ns := lenNs vs) hr rfl
  injection e3 with e3 e4 e5
  subst e3 e5
  exact ⟨b, c, r, by rw [e1]; rfl, h1, h2, h3, hb⟩
theorem run_keys (v : Value) (vs : List VN) (w : World) (hv : NodesAt w.heap.size w v vs) (ht : TabsR w.heap.size w) (hE : Errs4 w) (hok : okB vs = true) (hr : (rootN vs).kind = 5 ∨ (rootN vs).kind = 6) :
    Calls Tryz.prog 9 #[.string ⟨#[107, 101, 121, 115]⟩, v] w fun e w' => (∃ a m c b, e = .returned (.tuple #[.slice a m c, .bool b]) ∧ (b = true → okB (listNsO (keyL vs)) = true ∧ ∃ bb r, a = some ⟨bb, 0, none⟩ ∧ m = 1 ∧ bb < w'.heap.size ∧ w'.cell? ⟨bb, 0, none⟩ = some r ∧ NodesAt w'.heap.size w' r (listNsO (keyL vs)))) ∧ Below w.heap.size w w' := by
  refine (run_rows flt_keys (by decide) ⟨rfl, .inr (.inr rfl)⟩ v vs w hv ht hE).mono ?_
  rintro e w' ⟨a, m, c, rfl, hm, hrw, hb⟩
  refine ⟨⟨a, m, c, _, rfl, fun h0 => ?_⟩, hb⟩
  obtain ⟨e1, e2⟩ := cnt_keys (fs := [nodeK 12]) rfl rfl ok_keys hok hr (by simpa using h0)
  rw [e2] at hm hrw
  obtain rfl : m = 1 := hm
  obtain ⟨b, c', r, e3, h1, h2, h3⟩ := rows_one (ns := listNsO (keyL vs)) hrw rfl
  injection e3 with e3 e4 e5
  exact ⟨e1, b, r, e3, rfl, h1, h2, h3⟩
theorem run_each (v : Value) (vs : List VN) (w : World) (hv : NodesAt w.heap.size w v vs) (ht : TabsR w.heap.size w) (hE : Errs4 w) (hok : okB vs = true) (hr : (rootN vs).kind = 5 ∨ (rootN vs).kind = 6) :
    Calls Tryz.prog 9 #[.string ⟨#[46, 91, 93]⟩, v] w fun e w' => (∃ a m c b, e = .returned (.tuple #[.slice a m c, .bool b]) ∧ (b = true → m = (partsL vs).length ∧ RowsAt w'.heap.size w' (.slice a m c) (partsL vs).length (rowAt (partsL vs)))) ∧ Below w.heap.size w w' := by
  refine (run_rows flt_each (by decide) ⟨rfl, .inl rfl⟩ v vs w hv ht hE).mono ?_
  rintro e w' ⟨a, m, c, rfl, hm, hrw, hb⟩
  refine ⟨⟨a, m, c, _, rfl, fun h0 => ?_⟩, hb⟩
  have e2 := cnt_each (fs := [nodeK 4]) rfl rfl ok_each hok hr (by simpa using h0)
  rw [e2] at hm hrw
  subst hm
  exact ⟨rfl, hrw⟩
theorem parts_rows (v : Value) (vs : List VN) (w : World) (hv : NodesAt w.heap.size w v vs) (hok : okB vs = true) :
    Calls Tryz.prog 10 #[v] w fun e w' => (∃ a c, e = .returned (.slice a (partsN vs) c) ∧ RowsAt w'.heap.size w' (.slice a (partsN vs) c) (partsN vs) (PL vs)) ∧ Below w.heap.size w w' := by
  refine (implPartsOf_any w.heap.size v vs w hv (Nat.le_refl _)).mono ?_
  rintro e w' ⟨r, base, rs, KV, IV, lo, rfl, _, hr, hb⟩
  have hf := PL_few (cnt_few hok).2
  have h2 := hr.rows hf.1 hf.2
  obtain ⟨a, c, rfl⟩ := own_slice hr.row
  exact ⟨⟨a, c, rfl, h2⟩, hb⟩
end Go.Proofs.YtcidjhnogldgmaaGreatDoor

namespace Go.Proofs.YtcidjhnogldgmaaGreatDoor
open Go.RowKit
set_option linter.unusedSimpArgs false
set_option linter.unusedVariables false
theorem node_cells {B : Nat} {w : World} {a : Option Addr} {m c i : Nat} {us : List VN} (h : NodesAt B w (.slice a m c) us) (hm : us.length = m) (hi : i < m) : ∃ b o ka ki, a = some ⟨b, o, none⟩ ∧ b < B ∧ w.cell? ⟨b, o + i * 5, none⟩ = some (.int .i64 (nodeAt us i).kind) ∧ w.cell? ⟨b, o + i * 5 + 1, none⟩ = some (.int .i64 (nodeAt us i).n) ∧ w.cell? ⟨b, o + i * 5 + 2, none⟩ = some (.string (nodeAt us i).s) ∧ w.cell? ⟨b, o + i * 5 + 3, none⟩ = some ka ∧ w.cell? ⟨b, o + i * 5 + 4, none⟩ = some ki ∧ (∃ a n c, ka = .slice a n c) ∧ ∃ a n c, ki = .slice a n c := by
  obtain ⟨_, a', c', e, hc⟩ := h
  injection e with e1 e2 e3
  subst e1
  obtain ⟨b, o, rfl, hb, hc'⟩ := hc (by omega)
  obtain ⟨ka, ki, hd⟩ := hc' i (by omega)
  obtain ⟨_, _, a1, c1, e1, _⟩ := hd.inn.keys
  obtain ⟨_, _, a2, c2, e2, _⟩ := hd.inn.kids
  exact ⟨b, o, ka, ki, rfl, hb, hd.c0, hd.c1, hd.c2, hd.c3, hd.c4, ⟨_, _, _, e1⟩, _, _, _, e2⟩
theorem Below.nextC {A : Nat} {a b c : World} (h : Below A a b) (h2 : Below b.heap.size b c) (hA : A ≤ b.heap.size) : Below A a c := h.trans (h2.mono hA)
theorem RowsAt.wideC {B B' : Nat} {w : World} {v : Value} {m : Nat} {L : Nat → List VN} (h : RowsAt B w v m L) (hb : B ≤ B') : RowsAt B' w v m L := by
  obtain ⟨h1, a, c, e, h2⟩ := h
  refine ⟨h1, a, c, e, fun hp => ?_⟩
  obtain ⟨b, ea, hbB, h3⟩ := h2 hp
  refine ⟨b, ea, by omega, fun i hi => ?_⟩
  obtain ⟨r, e2, hn⟩ := h3 i hi
  exact ⟨r, e2, hn.wide hb⟩
set_option maxRecDepth 100000 in
set_option maxHeartbeats 12800000 in
theorem lawFnCounted_walk (v : Value) (n : Nat) (w : World) (h : RawCode w v n) (ht : TabsR w.heap.size w) (hE : Errs4 w) :
    Calls Tryz.prog 3 #[v] w fun e w' => e = .returned (.bool true) ∧ Below w.heap.size w w' := by
  obtain ⟨hn, a, cap, rfl, hc⟩ := h
  have HCL : Hid (n ≤ 1048576 → CodeAt w.heap.size w (.slice a n cap) n) := fun h => ⟨h, a, cap, rfl, hc⟩
  have HT := hideIt ht
  have HE := hideIt hE
  clear hc ht hE
  go_enter Tryz.func3, Tryz.ntmps3
  go_wp2_with fail
  refine (big_any a n cap w hn).mono ?_
  rintro e w1 ⟨rfl, rfl⟩
  by_cases hbig : 1048576 < n
  · go_wp2_with fail
    go_ret
    exact ⟨rfl, Below.refl _ _⟩
  have HC := hideIt (HCL.out (by omega))
  clear HCL
  go_wp2_with fail
  refine (drawLengthOf_any w1.heap.size _ n w1 HC.out (Nat.le_refl _)).mono ?_
  rintro e w2 ⟨r, us, KV, IV, rfl, hf, hn2, hb2⟩
  have HF := hideIt (hf.few (by omega)).2
  have HB2 := hideIt hb2
  have z2 := hb2.size
  have hnod := hn2.nodes (by have := hf.2.1; omega) HF.out
  obtain ⟨aA, cA, eA⟩ := own_slice hn2.row
  obtain ⟨M, hM⟩ : ∃ M, us.length = M := ⟨_, rfl⟩
  have hMp : 0 < M := by have := hf.1; omega
  have hMc : M ≤ 40 := by have := hf.2.1; omega
  have HM := hideIt hM
  rw [hM] at eA
  subst eA
  have HAW : Hid (∀ W, Below w2.heap.size w2 W → NodesAt W.heap.size W (.slice aA M cA) us) := fun W hb => (hnod.below hb).wide hb.size
  have HTW : Hid (∀ W, Below w2.heap.size w2 W → TabsR W.heap.size W) := fun W hb => (HT.out.next (Below.nextC HB2.out hb z2)).wide (Nat.le_trans z2 hb.size)
  have HEW : Hid (∀ W, Below w2.heap.size w2 W → Errs4 W) := fun W hb => HE.out.keep (Below.nextC HB2.out hb z2)
  obtain ⟨C, hC⟩ : ∃ C, lenC us = C := ⟨_, rfl⟩
  obtain ⟨LN, hLN⟩ : ∃ LN, lenNs us = LN := ⟨_, rfl⟩
  have HLF : Hid (LN.length ≤ 80 ∧ ∀ i, i < LN.length → Fits (nodeAt LN i)) := by
    have := len_few us
    rw [hLN] at this
    exact ⟨this.1.1, this.2⟩
  have CI : Hid (∀ W, Below w2.heap.size w2 W → Calls Tryz.prog 6 #[.slice aA M cA] W fun e w' => (∃ a c, e = .returned (.tuple #[.slice a LN.length c, .int .i64 C]) ∧ NodesAt w'.heap.size w' (.slice a LN.length c) LN) ∧ Below W.heap.size W w') := fun W hb => by
    rw [← hC, ← hLN]
    refine (implLengthOf_any W.heap.size _ us W (HAW.out W hb) (Nat.le_refl _) (HEW.out W hb).two.errs).mono ?_
    rintro e w' ⟨r, base, K, I, rfl, _, _, hn, hb'⟩
    have h2 := hn.nodes (by have := (len_few us).1.1; omega) (len_few us).2
    obtain ⟨a', c', e'⟩ := own_slice hn.row
    subst e'
    exact ⟨⟨a', c', rfl, h2⟩, hb'⟩
  have CS : Hid (∀ W, Below w2.heap.size w2 W → Calls Tryz.prog 7 #[.slice aA M cA] W fun e w' => (∃ a c, e = .returned (.tuple #[.slice a LN.length c, .int .i64 C]) ∧ NodesAt w'.heap.size w' (.slice a LN.length c) LN) ∧ Below W.heap.size W w') := fun W hb => by
    rw [← hC, ← hLN]
    refine (specLengthOf_any W.heap.size _ us W (HAW.out W hb) (Nat.le_refl _)).mono ?_
    rintro e w' ⟨r, base, K, I, rfl, _, hn, hb'⟩
    have h2 := hn.nodes (by have := (len_few us).1.1; omega) (len_few us).2
    obtain ⟨a', c', e'⟩ := own_slice hn.row
    subst e'
    exact ⟨⟨a', c', rfl, h2⟩, hb'⟩
  have HZ : Hid (C = 0 → okB us = true ∧ ∃ n0 : Int, 0 ≤ n0 ∧ n0 ≤ 1000000000000000 ∧ LN = leafN 3 n0 ByteArray.empty) := fun h0 => by
    have h1 := cnt_ok (vs := us) (by rw [hC]; exact h0)
    obtain ⟨n0, p1, p2, p3⟩ := cnt_leaf h1 (by rw [hC]; exact h0)
    exact ⟨h1, n0, p1, p2, by rw [← hLN]; exact p3⟩
  have HLC := hideIt hC
  have HLE := hideIt hLN
  clear hf hn2 hb2 hnod hM hC hLN
  go_wp2_with fail
  refine (CI.out w2 (Below.refl _ _)).mono ?_
  rintro e w3 ⟨⟨a3, c3, rfl, hn3⟩, hb3⟩
  have HN3 : Hid (∀ W, Below w3.heap.size w3 W → NodesAt W.heap.size W (.slice a3 LN.length c3) LN) := fun W hb => (hn3.below hb).wide hb.size
  have H3 := hideIt hb3
  have z3 := hb3.size
  obtain ⟨N, hN⟩ : ∃ N, LN.length = N := ⟨_, rfl⟩
  have HNN := hideIt hN
  rw [hN] at HN3 CS ⊢
  clear hn3 hb3 hN CI
  go_wp2_with fail
  refine (CS.out w3 H3.out).mono ?_
  rintro e w4 ⟨⟨a4, c4, rfl, hn4⟩, hb4⟩
  have HN4 : Hid (∀ W, Below w4.heap.size w4 W → NodesAt W.heap.size W (.slice a4 N c4) LN) := fun W hb => (hn4.below hb).wide hb.size
  have H34 := hideIt hb4
  have H4 := hideIt (Below.nextC H3.out hb4 z3)
  have z4 := hb4.size
  have hpe : (C != C) = false := by simp
  clear hn4 hb4 CS
  go_wp2_with fail
  refine (same_any w4.heap.size _ _ LN LN w4 (HN3.out w4 H34.out) (HN4.out w4 (Below.refl _ _)) (Nat.le_refl _)).mono ?_
  rintro e w5 ⟨⟨bx, rfl, hbx⟩, hb5⟩
  obtain rfl : bx = true := hbx.2 rfl
  have H45 := hideIt hb5
  have H35 := hideIt (Below.nextC H34.out hb5 z4)
  have H5 := hideIt (Below.nextC H4.out hb5 (by omega))
  have z5 := hb5.size
  clear hbx hb5
  by_cases hC0 : C = 0
  rotate_left
  · have hq : (C != 0) = true := by simpa using hC0
    go_wp2_with fail
    refine (same_any w5.heap.size _ _ LN LN w5 (HN3.out w5 H35.out) (HN4.out w5 H45.out) (Nat.le_refl _)).mono ?_
    rintro e w6 ⟨⟨bx, rfl, hbx⟩, hb6⟩
    obtain rfl : bx = true := hbx.2 rfl
    have HB6 := hideIt (Below.nextC HB2.out (Below.nextC H5.out hb6 (by omega)) z2)
    clear hbx hb6
    go_wp2_with fail
    go_ret
    exact ⟨rfl, HB6.out⟩
  subst hC0
  obtain ⟨hok, n0, hn0, hn1, hLN⟩ := HZ.out rfl
  obtain rfl : N = 1 := by rw [← HNN.out, hLN]; rfl
  have HOK := hideIt hok
  obtain ⟨bA, oA, kaA, kiA, rfl, hbA, cA0, cA1, cA2, cA3, cA4, ⟨q1, q2, q3, rfl⟩, q4, q5, q6, rfl⟩ := node_cells (i := M - 1) (HAW.out w5 H5.out) HM.out (by omega)
  obtain ⟨bN, oN, kaN, kiN, rfl, hbN, cN0, cN1, cN2, cN3, cN4, ⟨_, _, _, rfl⟩, _, _, _, rfl⟩ := node_cells (i := 0) (HN3.out w5 H35.out) HNN.out (by omega)
  rw [hLN] at cN0 cN1 cN2
  have HROOT : Hid (rootN us = nodeAt us (M - 1)) := by rw [Hid]; unfold rootN; rw [HM.out]
  have HRS := hideIt (root_says hok)
  rw [HROOT.out] at HRS
  obtain ⟨K, hK⟩ : ∃ K, (nodeAt us (M - 1)).kind = K := ⟨_, rfl⟩
  have HKK := hideIt hK
  rw [hK] at cA0 HRS
  have t1 : ((M : Int) - 1).toNat = M - 1 := by omega
  have t2 : (0 : Int) ≤ (M : Int) - 1 := by omega
  have t3 : (M : Int) - 1 < (M : Int) := by omega
  have d0 : w5.cell? ⟨bN, oN, none⟩ = some (.int .i64 3) := by simpa [leafN, nodeAt] using cN0
  have d1 : w5.cell? ⟨bN, oN + 1, none⟩ = some (.int .i64 n0) := by simpa [leafN, nodeAt] using cN1
  have HLN0 := hideIt hLN
  clear hok hLN hK cN0 cN1
  by_cases hK5 : K < 5
  · go_wp2_with fail
    go_ret
    exact ⟨rfl, Below.nextC HB2.out (Below.nextC H5.out ((Below.refl _ _).alloc (Nat.le_refl _) _) (by omega)) z2⟩
  have hK56 : K = 5 ∨ K = 6 := by
    rcases HRS.out with h | h | h | h | h | h <;> omega
  have hr56 : (rootN us).kind = 5 ∨ (rootN us).kind = 6 := by rw [HROOT.out, HKK.out]; exact hK56
  obtain ⟨p1, p2, p3, p4⟩ := cnt_parts HOK.out
  have HCK : Hid (okB (listNsO (keyL us)) = true → partsN (listNsO (keyL us)) = partsN us) := fun h => cnt_kparts HOK.out hr56 h
  have hnp : n0 = (partsN us : Int) := by
    have e := cnt_len HOK.out hr56
    rw [HLE.out, HLN0.out, ← p1] at e
    simpa [leafN] using e
  have HPE : Hid (SameRows (partsL us).length (partsN us) (rowAt (partsL us)) (PL us)) := ⟨p3, fun i hi => p4 i (by rw [← p3]; exact hi)⟩
  have RL : Hid (∀ W, Below w2.heap.size w2 W → Calls Tryz.prog 9 #[.string ⟨#[108, 101, 110, 103, 116, 104]⟩, .slice (some ⟨bA, oA, none⟩) M cA] W fun e w' => ∃ b c r, e = .returned (.tuple #[.slice (some ⟨b, 0, none⟩) 1 c, .bool true]) ∧ b < w'.heap.size ∧ w'.cell? ⟨b, 0, none⟩ = some r ∧ NodesAt w'.heap.size w' r LN ∧ Below W.heap.size W w') := fun W hb => by
    rw [← HLE.out]
    exact run_len3 _ us W (HAW.out W hb) (HTW.out W hb) (HEW.out W hb) HOK.out HLC.out
  have RK : Hid (∀ W, Below w2.heap.size w2 W → Calls Tryz.prog 9 #[.string ⟨#[107, 101, 121, 115]⟩, .slice (some ⟨bA, oA, none⟩) M cA] W fun e w' => (∃ a m c b, e = .returned (.tuple #[.slice a m c, .bool b]) ∧ (b = true → okB (listNsO (keyL us)) = true ∧ ∃ bb r, a = some ⟨bb, 0, none⟩ ∧ m = 1 ∧ bb < w'.heap.size ∧ w'.cell? ⟨bb, 0, none⟩ = some r ∧ NodesAt w'.heap.size w' r (listNsO (keyL us)))) ∧ Below W.heap.size W w') := fun W hb =>
    run_keys _ us W (HAW.out W hb) (HTW.out W hb) (HEW.out W hb) HOK.out hr56
  have RE : Hid (∀ W, Below w2.heap.size w2 W → Calls Tryz.prog 9 #[.string ⟨#[46, 91, 93]⟩, .slice (some ⟨bA, oA, none⟩) M cA] W fun e w' => (∃ a m c b, e = .returned (.tuple #[.slice a m c, .bool b]) ∧ (b = true → m = (partsL us).length ∧ RowsAt w'.heap.size w' (.slice a m c) (partsL us).length (rowAt (partsL us)))) ∧ Below W.heap.size W w') := fun W hb =>
    run_each _ us W (HAW.out W hb) (HTW.out W hb) (HEW.out W hb) HOK.out hr56
  have RP : Hid (∀ W, Below w2.heap.size w2 W → Calls Tryz.prog 10 #[.slice (some ⟨bA, oA, none⟩) M cA] W fun e w' => (∃ a c, e = .returned (.slice a (partsN us) c) ∧ RowsAt w'.heap.size w' (.slice a (partsN us) c) (partsN us) (PL us)) ∧ Below W.heap.size W w') := fun W hb =>
    parts_rows _ us W (HAW.out W hb) HOK.out
  have HD1 : Hid (∀ W, Below w5.heap.size w5 W → W.cell? ⟨bN, oN + 1, none⟩ = some (.int .i64 n0)) := fun W hb => (below_cell hb hbN).trans d1
  obtain ⟨NP, hNP⟩ : ∃ NP, partsN us = NP := ⟨_, rfl⟩
  obtain ⟨KN, hKN⟩ : ∃ KN, listNsO (keyL us) = KN := ⟨_, rfl⟩
  obtain ⟨LP, hLP⟩ : ∃ LP, (partsL us).length = LP := ⟨_, rfl⟩
  rw [hNP] at RP HCK HPE hnp p2
  rw [hKN] at RK HCK
  rw [hLP] at RE HPE
  subst hnp
  have hbA : Below w5.heap.size w5 (w5.alloc (.cells #[.int .i64 K, .int .i64 (nodeAt us (M - 1)).n, .string (nodeAt us (M - 1)).s, .slice q1 q2 q3, .slice q4 q5 q6] 32)) := (Below.refl _ _).alloc (Nat.le_refl _) _
  obtain ⟨W5, hW5⟩ : ∃ W, w5.alloc (.cells #[.int .i64 K, .int .i64 (nodeAt us (M - 1)).n, .string (nodeAt us (M - 1)).s, .slice q1 q2 q3, .slice q4 q5 q6] 32) = W := ⟨_, rfl⟩
  rw [hW5] at hbA
  have H5A := hideIt (Below.nextC H5.out hbA (by omega))
  have HBA := hideIt hbA
  have zA := hbA.size
  have HW5 := hideIt hW5
  clear p1 p3 p4 hNP hKN hLP hr56 HZ d1 cN2 cN3 cN4 hbA hW5
  go_wp2_with fail
  rw [HW5.out]
  refine (RL.out W5 H5A.out).mono ?_
  rintro e w6 ⟨bL, cL, rL, rfl, hbL, hcL, hnL, hb6⟩
  have HCL : Hid (∀ W, Below w6.heap.size w6 W → W.cell? ⟨bL, 0, none⟩ = some rL) := fun W hb => (below_cell hb hbL).trans hcL
  obtain ⟨_, aL2, cL2, rfl, _⟩ := id hnL
  have HNL : Hid (∀ W, Below w6.heap.size w6 W → NodesAt W.heap.size W (.slice aL2 LN.length cL2) LN) := fun W hb => (hnL.below hb).wide hb.size
  rw [HNN.out] at HNL HCL
  have H6 := hideIt (Below.nextC H5A.out hb6 (by omega))
  have H56 := hideIt (Below.nextC HBA.out hb6 zA)
  have z6 := hb6.size
  clear hbL hcL hnL hb6
  go_wp2_with fail
  refine (RK.out w6 H6.out).mono ?_
  rintro e w7 ⟨⟨aK, mK, cK, gK, rfl, hK⟩, hb7⟩
  have HK : Hid (gK = true → okB KN = true ∧ ∃ bb r, aK = some ⟨bb, 0, none⟩ ∧ mK = 1 ∧ (∀ W, Below w7.heap.size w7 W → W.cell? ⟨bb, 0, none⟩ = some r) ∧ ∀ W, Below w7.heap.size w7 W → NodesAt W.heap.size W r KN) := fun h => by
    obtain ⟨q1, bb, r, q2, q3, q4, q5, q6⟩ := hK h
    exact ⟨q1, bb, r, q2, q3, fun W hb => (below_cell hb q4).trans q5, fun W hb => (q6.below hb).wide hb.size⟩
  have H7 := hideIt (Below.nextC H6.out hb7 (by omega))
  have H57 := hideIt (Below.nextC H56.out hb7 (by omega))
  have H67 := hideIt hb7
  have z7 := hb7.size
  clear hK hb7
  go_wp2_with fail
  refine (RE.out w7 H7.out).mono ?_
  rintro e w8 ⟨⟨aE, mE, cE, gE, rfl, hE⟩, hb8⟩
  have HEE : Hid (gE = true → mE = LP ∧ ∀ W, Below w8.heap.size w8 W → RowsAt W.heap.size W (.slice aE mE cE) LP (rowAt (partsL us))) := fun h => ⟨(hE h).1, fun W hb => ((hE h).2.below hb).wideC hb.size⟩
  have H8 := hideIt (Below.nextC H7.out hb8 (by omega))
  have H58 := hideIt (Below.nextC H57.out hb8 (by omega))
  have H68 := hideIt (Below.nextC H67.out hb8 z7)
  have H78 := hideIt hb8
  have z8 := hb8.size
  clear hE hb8
  go_wp2_with fail
  refine (RP.out w8 H8.out).mono ?_
  rintro e w9 ⟨⟨aP, cP, rfl, hP⟩, hb9⟩
  have HPP : Hid (∀ W, Below w9.heap.size w9 W → RowsAt W.heap.size W (.slice aP NP cP) NP (PL us)) := fun W hb => (hP.below hb).wideC hb.size
  have H9 := hideIt (Below.nextC H8.out hb9 (by omega))
  have H59 := hideIt (Below.nextC H58.out hb9 (by omega))
  have H69 := hideIt (Below.nextC H68.out hb9 (by omega))
  have H79 := hideIt (Below.nextC H78.out hb9 z8)
  have H89 := hideIt hb9
  have z9 := hb9.size
  have cl9 := HCL.out w9 H69.out
  clear hP hb9 RL RK RE RP
  go_wp2_with fail
  refine (same_any w9.heap.size _ _ LN LN w9 (HNL.out w9 H69.out) (HN3.out w9 (Below.nextC H35.out H59.out (by omega))) (Nat.le_refl _)).mono ?_
  rintro e w10 ⟨⟨bx, rfl, hbx⟩, hb10⟩
  obtain rfl : bx = true := hbx.2 rfl
  have H10 := hideIt (Below.nextC H9.out hb10 (by omega))
  have H710 := hideIt (Below.nextC H79.out hb10 (by omega))
  have H810 := hideIt (Below.nextC H89.out hb10 z9)
  have H910 := hideIt hb10
  have z10 := hb10.size
  have cn10 := HD1.out w10 (Below.nextC H59.out hb10 (by omega))
  have HB10 := hideIt (Below.nextC HB2.out H10.out z2)
  clear hbx hb10
  have hnp2 : ((NP : Int) == (NP : Int)) = true := by simp
  cases gK
  · cases gE
    · go_wp2_with fail
      go_ret
      exact ⟨rfl, HB10.out⟩
    · obtain ⟨rfl, HRE⟩ := HEE.out rfl
      have HRE' := hideIt HRE
      clear HRE
      go_wp2_with fail
      refine (sameAll_any w10.heap.size _ _ mE NP (rowAt (partsL us)) (PL us) w10 (HRE'.out w10 H810.out) (HPP.out w10 H910.out) (Nat.le_refl _)).mono ?_
      rintro e w11 ⟨⟨bx, rfl, hbx⟩, hb11⟩
      obtain rfl : bx = true := hbx.2 HPE.out
      have HB11 := hideIt (Below.nextC HB10.out hb11 (by omega))
      clear hbx hb11
      go_wp2_with fail
      go_ret
      exact ⟨rfl, HB11.out⟩
  · obtain ⟨hok2, bb, r, rfl, rfl, hck, hnk⟩ := HK.out rfl
    have ck10 := hck w10 H710.out
    have HPK := hideIt (parts_rows _ KN w10 (hnk w10 H710.out) hok2)
    obtain ⟨_, aK2, cK2, rfl, _⟩ := hnk w10 H710.out
    rw [HCK.out hok2] at HPK
    obtain ⟨LK, hLK⟩ : ∃ LK, KN.length = LK := ⟨_, rfl⟩
    rw [hLK] at HPK ck10
    clear hck hnk hok2 HK hLK
    go_wp2_with fail
    refine HPK.out.mono ?_
    rintro e w11 ⟨⟨aQ, cQ, rfl, _⟩, hb11⟩
    have H811 := hideIt (Below.nextC H810.out hb11 (by omega))
    have H911 := hideIt (Below.nextC H910.out hb11 z10)
    have HB11 := hideIt (Below.nextC HB10.out hb11 (by omega))
    have z11 := hb11.size
    clear hb11
    cases gE
    · go_wp2_with fail
      go_ret
      exact ⟨rfl, HB11.out⟩
    · obtain ⟨rfl, HRE⟩ := HEE.out rfl
      have HRE' := hideIt HRE
      clear HRE
      go_wp2_with fail
      refine (sameAll_any w11.heap.size _ _ mE NP (rowAt (partsL us)) (PL us) w11 (HRE'.out w11 H811.out) (HPP.out w11 H911.out) (Nat.le_refl _)).mono ?_
      rintro e w12 ⟨⟨bx, rfl, hbx⟩, hb12⟩
      obtain rfl : bx = true := hbx.2 HPE.out
      have HB12 := hideIt (Below.nextC HB11.out hb12 (by omega))
      clear hbx hb12
      go_wp2_with fail
      go_ret
      exact ⟨rfl, HB12.out⟩
end Go.Proofs.YtcidjhnogldgmaaGreatDoor
