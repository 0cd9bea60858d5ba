/-
  The program's readFront, over whatever reads a value.
-/
import Derived.Test.YtokhindolimchaaRdF
import Derived.Test.YtokhindolimchaaRdM
import Derived.Test.YtokhindolimchaaSAdd
import Derived.Test.YtokhindolimchaaMarkN
import Derived.Test.YtokhindolimchaaProg
import Derived.BigQuiet
namespace Go.Proofs.Ytokhindolimchaa
open Go.RowKit
set_option linter.unusedSimpArgs false
set_option linter.unusedVariables false

/-- What is read of a text, and how much of it. -/
def frontV (L : List UInt8) (r : Option (VT × Nat)) : Option (List VN × Nat) := if 4000 < L.length then none else okOf (L.length + 1) r
def nsOf (r : Option (List VN × Nat)) : List VN := match r with
  | none => []
  | some (ns, _) => ns
def usedOf (r : Option (List VN × Nat)) : Nat := match r with
  | none => 0
  | some (_, q) => q

set_option maxRecDepth 100000 in
set_option maxHeartbeats 3200000 in
theorem readFront_any (G : FuncId) (R : Nat → Option (VT × Nat)) (rb : Nat) (s : ByteArray) (hG : s.size ≤ 4000 → GAll G s.data.toList R (s.size + 1) rb s) (hok : s.size ≤ 4000 → RdOk (s.size + 1) s.data.toList R) (hcf : ∀ w, (callFunc G #[.pointer (some ⟨rb, 0, none⟩)]).run Try.prog w = .ok (.enter G #[.pointer (some ⟨rb, 0, none⟩)]) w) (w : World) (h : BrAt w rb s 0) (hs : s.size ≤ 9223372036854775807) :
    Calls Try.prog 28 #[.pointer (some ⟨rb, 0, none⟩), .func (.func G) #[.pointer (some ⟨rb, 0, none⟩)] #[]] w fun e w' => ∃ r base KV IV, e = .returned (.tuple #[r, .int .i64 (usedOf (frontV s.data.toList (R 0))), .bool (frontV s.data.toList (R 0)).isSome]) ∧ w.heap.size ≤ base ∧ base ≤ w'.heap.size ∧ Nest base w' r (nsOf (frontV s.data.toList (R 0))) KV IV ∧ But rb w w' := by
  have H := hideIt h
  have hlen := len_is s
  have c0 := h.src
  have hrb := h.lt
  clear h
  by_cases hbig : 4000 < s.size
  · have hbig' : (4000 : Int) < (s.size : Int) := by omega
    have HV : Hid (frontV s.data.toList (R 0) = none) := by rw [Hid]; unfold frontV; rw [if_pos (by omega)]
    go_enter Try.func28, Try.ntmps28
    go_wp2_with fail
    refine bodyPost_ret (v := .tuple #[.slice none 0 0, .int .i64 0, .bool false]) (by simp [results, Try.results28, go_sem]) rfl ?_
    rw [HV.out]
    exact ⟨.slice none 0 0, w.heap.size, fun _ => undef, fun _ => undef, rfl, Nat.le_refl _, Nat.le_refl _, Nest.nil _ _ _ _, But.refl _ _⟩
  have hbig' : ¬ (4000 : Int) < (s.size : Int) := by omega
  have HG := hideIt (hG (by omega))
  have HOK := hideIt (hok (by omega))
  have HFV : Hid (frontV s.data.toList (R 0) = okOf (s.size + 1) (R 0)) := by rw [Hid]; unfold frontV; rw [if_neg (by omega), hlen]
  rw [HFV.out]
  have HBA : Hid (Below w.heap.size w (w.alloc (.cells #[.bool false] 4))) := (Below.refl _ _).alloc (Nat.le_refl _) _
  have HC := hideIt (HG.out 0 _ (H.out.below HBA.out) (by omega))
  have HLEN := hideIt hlen
  clear hG hok hlen
  have hz1 : (w.alloc (.cells #[.bool false] 4)).heap.size = w.heap.size + 1 := by simp
  have HKEEP : Hid (∀ w', But rb (w.alloc (.cells #[.bool false] 4)) w' → w'.cell? ⟨w.heap.size, 0, none⟩ = some (.bool false) ∧ w'.frozen? ⟨w.heap.size, 0, none⟩ = false) := fun w' hb => by
    have hh := (hb.block w.heap.size (by rw [hz1]; omega) (by omega)).trans (heap_alloc_new w (.cells #[.bool false] 4))
    exact ⟨by rw [Lib.cell_of_heap hh]; rfl, Lib.frozen_of_heap hh 0⟩
  cases hr : R 0 with
  | none =>
    have HO : Hid (okOf (s.size + 1) (none : Option (VT × Nat)) = none) := rfl
    rw [hr] at HC
    have hcn : Calls Try.prog G #[.pointer (some ⟨rb, 0, none⟩)] (w.alloc (.cells #[.bool false] 4)) fun e w' => e = gup ∧ But rb (w.alloc (.cells #[.bool false] 4)) w' := HC.out.mono (by
      rintro e w' (⟨t, q, x, h1, _⟩ | ⟨_, h2, h3⟩)
      · cases h1
      · exact ⟨h2, h3⟩)
    have HU := hideIt (unlessV_no G (.pointer (some ⟨rb, 0, none⟩)) w _ hcf hcn HKEEP.out)
    clear hcn HC
    go_enter Try.func28, Try.ntmps28
    go_wp2_with fail
    refine HU.out.mono ?_
    rintro e w1 ⟨rfl, w9, hb9, rfl⟩
    have HB1 : Hid (But rb w (w9.setCell ⟨w.heap.size, 0, none⟩ (.bool false))) := by
      have h1 := (But.of_below (rb := rb) HBA.out).trans hb9
      exact ⟨h1.os, h1.tape, h1.output, by simpa using h1.size, fun c hc hn => (Below.heap_setCell _ _ _ _ (by show c ≠ w.heap.size; omega)).trans (h1.block c hc hn)⟩
    clear hb9
    generalize w9.setCell ⟨w.heap.size, 0, none⟩ (.bool false) = w1 at HB1 ⊢
    go_wp2_with fail
    refine bodyPost_ret (v := .tuple #[.slice none 0 0, .int .i64 0, .bool false]) (by simp [results, Try.results28, go_sem]) rfl ?_
    rw [HO.out]
    exact ⟨.slice none 0 0, w.heap.size, fun _ => undef, fun _ => undef, rfl, Nat.le_refl _, HB1.out.size, Nest.nil _ _ _ _, HB1.out⟩
  | some tq =>
    obtain ⟨t, q⟩ := tq
    obtain ⟨hq1, hq2, hq3, hq4, _⟩ := HOK.out 0 t q hr
    have hqs : q ≤ 4000 := by have := HLEN.out; omega
    have hnn : (layT (s.size + 1) t 0).length ≤ 4000 := by omega
    have HFT := hideIt (fits_lay hq4 0 (by omega))
    rw [hr] at HC
    obtain ⟨ns, hns⟩ : ∃ ns, layT (s.size + 1) t 0 = ns := ⟨_, rfl⟩
    have HO : Hid (okOf (s.size + 1) (some (t, q)) = if okB ns = true then some (ns, q) else none) := by rw [Hid, ← hns]; rfl
    rw [hns] at hnn HFT
    have HNS := hideIt hns
    clear hq3 hq4 hns
    have hcy : Calls Try.prog G #[.pointer (some ⟨rb, 0, none⟩)] (w.alloc (.cells #[.bool false] 4)) fun e w' => ∃ x, e = .returned x ∧ TreeP (NewB (w.alloc (.cells #[.bool false] 4)) w') w' (s.size + 1) t x ∧ BrAt w' rb s q ∧ But rb (w.alloc (.cells #[.bool false] 4)) w' := HC.out.mono (by
      rintro e w' (⟨t', q', x, h1, h2, h3, h4, h5, _⟩ | ⟨h1, _⟩)
      · simp only [Option.some.injEq, Prod.mk.injEq] at h1
        obtain ⟨rfl, rfl⟩ := h1
        exact ⟨x, h2, h3, h4, h5⟩
      · cases h1)
    clear HC
    have HU := hideIt (unlessV_yes G (.pointer (some ⟨rb, 0, none⟩)) w (fun x w' => TreeP (NewB (w.alloc (.cells #[.bool false] 4)) w') w' (s.size + 1) t x ∧ BrAt w' rb s q ∧ But rb (w.alloc (.cells #[.bool false] 4)) w') hcf hcy (fun x w' hz => HKEEP.out w' hz.2.2))
    clear hcy
    go_enter Try.func28, Try.ntmps28
    go_wp2_with fail
    refine HU.out.mono ?_
    rintro e w1 ⟨x, rfl, w9, ⟨htr, hbr9, hb9⟩, rfl⟩
    have HB1 : Hid (But rb w (w9.setCell ⟨w.heap.size, 0, none⟩ (.bool true))) := by
      have h1 := (But.of_below (rb := rb) HBA.out).trans hb9
      exact ⟨h1.os, h1.tape, h1.output, by simpa using h1.size, fun c hc hn => (Below.heap_setCell _ _ _ _ (by show c ≠ w.heap.size; omega)).trans (h1.block c hc hn)⟩
    have HT1 : Hid (TreeAt (w9.setCell ⟨w.heap.size, 0, none⟩ (.bool true)).heap.size (w9.setCell ⟨w.heap.size, 0, none⟩ (.bool true)) (s.size + 1) t x) :=
      (htr.keep (P' := fun b => b < (w9.setCell ⟨w.heap.size, 0, none⟩ (.bool true)).heap.size) (fun b hb' => Below.heap_setCell _ _ _ _ (by show b ≠ w.heap.size; have := hb'.1; omega)) (fun b hb' => by simpa using hb'.2)).at (fun b hb' => hb')
    have HR1 : Hid (BrAt (w9.setCell ⟨w.heap.size, 0, none⟩ (.bool true)) rb s q) := hbr9.keep (Below.heap_setCell _ _ _ _ (by show rb ≠ w.heap.size; omega)) (by simp)
    clear htr hbr9 hb9
    generalize w9.setCell ⟨w.heap.size, 0, none⟩ (.bool true) = w1 at HB1 HT1 HR1 ⊢
    obtain ⟨ty, xx, rfl⟩ := HT1.out.iface
    have z1 := HB1.out.size
    have HRN := hideIt (rightNodes_any (s.size + 1) t _ ns w1 HT1.out HNS.out (by omega) HFT.out)
    go_wp2_with fail
    refine HRN.out.mono ?_
    rintro e w2 ⟨r, base, KV, IV, rfl, hb1, hb2, hn2, hbl2⟩
    have HR2 := hideIt (HR1.out.below hbl2)
    have c2 := HR2.out.place
    have HB2 := hideIt (HB1.out.next (hbl2.mono z1))
    have HN2 := hideIt hn2
    obtain ⟨ar, cr, er⟩ := own_slice hn2.row
    obtain ⟨M, hM⟩ : ∃ M, (rightNs ns).length = M := ⟨_, rfl⟩
    rw [hM] at er
    subst er
    clear hn2 hbl2 hM
    cases hok : okB ns
    · have HRN : Hid (rightNs ns = []) := by rw [Hid]; unfold rightNs; rw [hok]; rfl
      rw [hok] at HO
      go_wp2_with fail
      refine bodyPost_ret (v := .tuple #[.slice none 0 0, .int .i64 0, .bool false]) (by simp [results, Try.results28, go_sem]) rfl ?_
      rw [HO.out]
      exact ⟨.slice none 0 0, w2.heap.size, fun _ => undef, fun _ => undef, rfl, HB2.out.size, Nat.le_refl _, Nest.nil _ _ _ _, HB2.out⟩
    · have HRN : Hid (rightNs ns = ns) := by rw [Hid]; unfold rightNs; rw [hok]; rfl
      rw [hok] at HO
      rw [HRN.out] at HN2
      go_wp2_with fail
      go_quiet (fail)
      have HB3 := hideIt (HB2.out.trans (But.of_below (below_drewB (w := w2) nq)))
      have HN3 := hideIt (HN2.out.below (below_drewB (w := w2) nq))
      have hb3 : base ≤ (w2.drewN nq).heap.size := hb2
      generalize w2.drewN nq = w3 at HB3 HN3 hb3 ⊢
      go_wp2_with fail
      refine bodyPost_ret (v := .tuple #[.slice ar M cr, .int .i64 q, .bool true]) (by simp [results, Try.results28, go_sem]) rfl ?_
      rw [HO.out]
      exact ⟨.slice ar M cr, base, KV, IV, rfl, Nat.le_trans z1 hb1, hb3, HN3.out, HB3.out⟩
end Go.Proofs.Ytokhindolimchaa

/-
  The reader of codes from which values are drawn: what each draw may answer, and that it turns nothing but its own place.
-/
namespace Go.Proofs.Ytokhindolimchaa
open Go.RowKit
set_option linter.unusedSimpArgs false
set_option linter.unusedVariables false

/-- A reader in block rb, of n bytes, at place p. -/
structure RdAt (w : World) (rb n p : Nat) : Prop where
  lt : rb < w.heap.size
  src : ∃ a cap, w.cell? ⟨rb, 0, none⟩ = some (.slice a n cap) ∧ (0 < n → ∃ b o, a = some ⟨b, o, none⟩ ∧ b < rb ∧ ∀ i, i < n → ∃ x : Nat, x < 256 ∧ w.cell? ⟨b, o + i, none⟩ = some (.int .u8 x))
  place : w.cell? ⟨rb, 1, none⟩ = some (.int .i64 p)
  le : p ≤ n
  few : n ≤ 1048576
  free : w.frozen? ⟨rb, 1, none⟩ = false

/-- What a draw leaves: the reader at some place, nothing else turned. -/
structure Drawn (rb n : Nat) (w w' : World) : Prop where
  rd : ∃ p, RdAt w' rb n p
  only : Only (fun c => c = rb) w w'
  below : Below rb w w'

theorem frozen_same {w w' : World} {b o : Nat} (h : w'.heap[b]? = w.heap[b]?) : w'.frozen? ⟨b, o, none⟩ = w.frozen? ⟨b, o, none⟩ := by
  unfold World.frozen?
  rw [show w'.heap[(⟨b, o, none⟩ : Addr).block]? = w.heap[(⟨b, o, none⟩ : Addr).block]? from h]

theorem RdAt.below {w w' : World} {rb n p : Nat} (h : RdAt w rb n p) (hb : Below w.heap.size w w') : RdAt w' rb n p := by
  have hl := h.lt
  refine ⟨by have := hb.size; omega, ?_, (below_cell hb hl).trans h.place, h.le, h.few, (frozen_same (hb.block rb hl)).trans h.free⟩
  obtain ⟨a, cap, h1, h2⟩ := h.src
  refine ⟨a, cap, (below_cell hb hl).trans h1, fun hp => ?_⟩
  obtain ⟨b, o, e, hlt, hx⟩ := h2 hp
  exact ⟨b, o, e, hlt, fun i hi => by obtain ⟨x, h3, h4⟩ := hx i hi; exact ⟨x, h3, (below_cell hb (by omega)).trans h4⟩⟩

theorem RdAt.step {w : World} {rb n p : Nat} (h : RdAt w rb n p) (hp : p < n) : RdAt (w.setCell ⟨rb, 1, none⟩ (.int .i64 ((p + 1 : Nat) : Int))) rb n (p + 1) := by
  refine ⟨by simpa using h.lt, ?_, World.cell?_setCell_same _ _ _ h.place, by omega, h.few, by rw [World.frozen?_setCell]; exact h.free⟩
  obtain ⟨a, cap, h1, h2⟩ := h.src
  refine ⟨a, cap, by rw [World.cell?_setCell_other (h := by simp)]; exact h1, fun hp => ?_⟩
  obtain ⟨b, o, e, hlt, hx⟩ := h2 hp
  refine ⟨b, o, e, hlt, fun i hi => ?_⟩
  obtain ⟨x, h3, h4⟩ := hx i hi
  exact ⟨x, h3, by rw [World.cell?_setCell_other (h := by intro e2; injection e2 with e3; omega)]; exact h4⟩

theorem Drawn.refl {rb n p : Nat} {w : World} (h : RdAt w rb n p) : Drawn rb n w w := ⟨⟨p, h⟩, Only.refl _ _, Below.refl _ _⟩
theorem Drawn.trans {rb n : Nat} {a b c : World} (h : Drawn rb n a b) (k : Drawn rb n b c) : Drawn rb n a c := ⟨k.rd, h.only.trans k.only, h.below.trans k.below⟩
theorem Drawn.next {rb n : Nat} {a b c : World} (h : Drawn rb n a b) (k : Below b.heap.size b c) : Drawn rb n a c := by
  obtain ⟨p, hp⟩ := h.rd
  exact ⟨⟨p, hp.below k⟩, h.only.trans (Only.of_below k), h.below.trans (k.mono (Nat.le_of_lt hp.lt))⟩

set_option maxRecDepth 100000 in
set_option maxHeartbeats 1600000 in
theorem rdNext_any (rb n p : Nat) (w : World) (h : RdAt w rb n p) :
    Calls Try.prog 80 #[.pointer (some ⟨rb, 0, none⟩)] w fun e w' => (∃ x : Nat, x < 256 ∧ e = .returned (.int .i64 x)) ∧ Drawn rb n w w' := by
  have H := hideIt h
  obtain ⟨a, cap, h1, h2⟩ := h.src
  have h3 := h.place
  have h4 := h.le
  have h5 := h.few
  have h6 := h.lt
  have HS := hideIt h2
  clear h h2
  by_cases hp : p < n
  · obtain ⟨b, o, rfl, hlt, hx⟩ := HS.out (by omega)
    obtain ⟨x, hx1, hx2⟩ := hx p hp
    have hfz := H.out.free
    clear hx
    go_enter Try.func80, Try.ntmps80
    go_wp2_with fail
    go_quiet (fail)
    have hd1 := below_drewN (Below.refl w.heap.size w) nq
    have HR1 := hideIt (H.out.below hd1)
    have k1 : (w.drewN nq).cell? ⟨rb, 1, none⟩ = some (.int .i64 p) := HR1.out.place
    have k2 : (w.drewN nq).frozen? ⟨rb, 1, none⟩ = false := HR1.out.free
    have k3 := (below_cell hd1 (by omega)).trans h1
    have k4 := (below_cell hd1 (by omega)).trans hx2
    have HD1 := hideIt hd1
    generalize w.drewN nq = W1 at hd1 HR1 HD1 k1 k2 k3 k4 ⊢
    clear nq h3 h1 hx2 hfz hd1
    have z1 := HD1.out.size
    go_wp2_with fail
    have HR2 := hideIt (HR1.out.step hp)
    have l1 : (W1.setCell ⟨rb, 1, none⟩ (.int .i64 ((p : Int) + 1))).cell? ⟨rb, 1, none⟩ = some (.int .i64 ((p : Int) + 1)) := World.cell?_setCell_same _ _ _ k1
    have l3 : (W1.setCell ⟨rb, 1, none⟩ (.int .i64 ((p : Int) + 1))).cell? ⟨rb, 0, none⟩ = some (.slice (some ⟨b, o, none⟩) n cap) := by rw [World.cell?_setCell_other (h := by simp)]; exact k3
    have l4 : (W1.setCell ⟨rb, 1, none⟩ (.int .i64 ((p : Int) + 1))).cell? ⟨b, o + p, none⟩ = some (.int .u8 x) := by rw [World.cell?_setCell_other (h := by intro e2; injection e2 with e3; omega)]; exact k4
    have HDR : Hid (Drawn rb n w (W1.setCell ⟨rb, 1, none⟩ (.int .i64 ((p : Int) + 1)))) := by
      refine ⟨⟨p + 1, HR2.out⟩, (Only.of_below HD1.out).trans (Only.set (P := fun c => c = rb) _ rfl _), (HD1.out.mono (Nat.le_of_lt h6)).setCell (Nat.le_refl _) _⟩
    have p1 : (p : Int) + 1 - 1 = (p : Int) := by omega
    clear HR2
    generalize W1.setCell ⟨rb, 1, none⟩ (.int .i64 ((p : Int) + 1)) = W2 at l1 l3 l4 HDR ⊢
    clear k1 k2 k3 k4 HD1 HR1
    go_quiet (fail)
    go_wp2_with fail
    go_ret
    exact ⟨⟨x, hx1, by simp⟩, HDR.out.next (below_drewN (Below.refl _ _) nq)⟩
  · have hnp : ¬ ((p : Int) < (n : Int)) := by omega
    go_enter Try.func80, Try.ntmps80
    go_wp2_with fail
    go_quiet (fail)
    go_wp2_with fail
    go_ret
    exact ⟨⟨0, by omega, rfl⟩, (Drawn.refl H.out).next (below_drewN (Below.refl _ _) nq)⟩

/-! ### Draws of numbers below a bound, and of yes or no -/
set_option maxRecDepth 100000 in
set_option maxHeartbeats 1600000 in
theorem rdBelow_any (rb n m : Nat) (w : World) (h : ∃ p, RdAt w rb n p) (hm : 1 ≤ m) (hM : m ≤ 1048577) :
    Calls Try.prog 41 #[.pointer (some ⟨rb, 0, none⟩), .int .i64 m] w fun e w' => (∃ x : Nat, x < m ∧ e = .returned (.int .i64 x)) ∧ Drawn rb n w w' := by
  obtain ⟨p, h⟩ := h
  have H := hideIt h
  clear h
  by_cases h1 : m ≤ 1
  · have h1' : (m : Int) ≤ 1 := by omega
    go_enter Try.func41, Try.ntmps41
    go_wp2_with fail
    go_ret
    exact ⟨⟨0, by omega, rfl⟩, Drawn.refl H.out⟩
  · have h1' : ¬ (m : Int) ≤ 1 := by omega
    have hm0 : ¬ (m : Int) = 0 := by omega
    have hmb : ((m : Int) == 0) = false := by simp; omega
    by_cases h2 : m ≤ 256
    · have h2' : (m : Int) ≤ 256 := by omega
      go_enter Try.func41, Try.ntmps41
      go_wp2_with fail
      refine (rdNext_any rb n p w H.out).mono ?_
      rintro e w1 ⟨⟨x, hx, rfl⟩, hd⟩
      have HD := hideIt hd
      clear hd
      go_wp2_with fail
      go_ret
      exact ⟨⟨x % m, Nat.mod_lt _ (by omega), by simp⟩, HD.out⟩
    · have h2' : ¬ (m : Int) ≤ 256 := by omega
      go_enter Try.func41, Try.ntmps41
      go_wp2_with fail
      refine (rdNext_any rb n p w H.out).mono ?_
      rintro e w1 ⟨⟨x, hx, rfl⟩, hd⟩
      have HD := hideIt hd
      obtain ⟨p2, hp2⟩ := hd.rd
      have H2 := hideIt hp2
      clear hd hp2
      go_wp2_with fail
      refine (rdNext_any rb n p2 w1 H2.out).mono ?_
      rintro e w2 ⟨⟨y, hy, rfl⟩, hd2⟩
      have HD2 := hideIt (HD.out.trans hd2)
      clear hd2
      go_wp2_with fail
      go_ret
      exact ⟨⟨(x * 256 + y) % m, Nat.mod_lt _ (by omega), by simp⟩, HD2.out⟩

set_option maxRecDepth 100000 in
set_option maxHeartbeats 1600000 in
theorem rdOnce_any (rb n m : Nat) (w : World) (h : ∃ p, RdAt w rb n p) (hm : 1 ≤ m) (hM : m ≤ 1048577) :
    Calls Try.prog 40 #[.pointer (some ⟨rb, 0, none⟩), .int .i64 m] w fun e w' => (∃ x : Bool, e = .returned (.bool x)) ∧ Drawn rb n w w' := by
  have H := hideIt h
  clear h
  go_enter Try.func40, Try.ntmps40
  go_wp2_with fail
  refine (rdBelow_any rb n m w H.out hm hM).mono ?_
  rintro e w1 ⟨⟨x, hx, rfl⟩, hd⟩
  have HD := hideIt hd
  clear hd
  go_wp2_with fail
  go_ret
  exact ⟨⟨_, rfl⟩, HD.out⟩
end Go.Proofs.Ytokhindolimchaa
