/-
  The program's packReader.readBits: a number in bytes of its own, by a range over a function that reads.
-/
import Derived.RangeFuncBox
import Derived.RangeFuncNested
import Derived.RangeFuncBound
import Derived.RangeFuncCalls
import Derived.Shelf.Abstract
import Derived.WalkKit
import Derived.OwnWalkIn
import Derived.TacticsInMore
import Derived.LoopNIn
import Derived.LoopIn
import Derived.Test.YtokhindolimchaaStb
import Derived.Test.YtokhindolimchaaCbM
namespace Go.Proofs.Ytokhindolimchaa
open Go.RowKit Go.Shelf
set_option linter.unusedSimpArgs false
set_option linter.unusedVariables false

attribute [local go_sem] Oper.semAt_some

def encU (x : UInt8) : Array Value := #[.int .u8 (x.toNat : Int)]
/-- The number of so many bytes. -/
def bigL (l : List UInt8) : Nat := l.foldl (fun a x => 256 * a + x.toNat) 0
theorem bigL_snoc (l : List UInt8) (x : UInt8) : bigL (l ++ [x]) = 256 * bigL l + x.toNat := by unfold bigL; rw [List.foldl_append]; rfl
theorem bigL_range (L : List UInt8) (p : Nat) : ∀ m, bigL ((List.range m).map fun i => L.getD (p + i) 0) = bigN L p m := by
  intro m
  induction m with
  | zero => rfl
  | succ m ih => rw [List.range_succ, List.map_append, List.map_cons, List.map_nil, bigL_snoc, ih, bigN]; rfl
theorem bigL_cut {L : List UInt8} {p m : Nat} (h : p + m ≤ L.length) : bigL ((L.drop p).take m) = bigN L p m := by rw [cut_list h, bigL_range]
theorem bigL_low {l : List UInt8} (h : l.length < 8) : bigL l < 72057594037927936 := by
  have key : ∀ n (l : List UInt8), l.length = n → bigL l < 256 ^ n := by
    intro n
    induction n with
    | zero => intro l h; rw [List.eq_nil_of_length_eq_zero h]; decide
    | succ n ih =>
      intro l h
      obtain ⟨m, x, rfl⟩ : ∃ m x, l = m ++ [x] := ⟨l.dropLast, l.getLast (by intro e; rw [e] at h; cases h), (List.dropLast_concat_getLast _).symm⟩
      rw [List.length_append, List.length_cons, List.length_nil] at h
      have := ih m (by omega)
      have hx := x.toNat_lt
      rw [bigL_snoc, Nat.pow_succ]
      omega
  exact Nat.lt_of_lt_of_le (key _ l rfl) (Nat.pow_le_pow_right (by omega) (show l.length ≤ 7 by omega))
theorem take_next {L : List UInt8} {p j : Nat} (h : p + j < L.length) : (L.drop p).take (j + 1) = (L.drop p).take j ++ [L.getD (p + j) 0] := by
  rw [List.take_add_one, List.getElem?_drop, List.getElem?_eq_getElem h, List.getD_eq_getElem?_getD, List.getElem?_eq_getElem h]
  rfl

/-- What a round must keep for the iterator: the reader and the two variables that it has captured. -/
def KpN (rb b1 b2 : Nat) (W W' : World) : Prop := W.heap.size ≤ W'.heap.size ∧ W'.heap[rb]? = W.heap[rb]? ∧ W'.heap[b1]? = W.heap[b1]? ∧ W'.heap[b2]? = W.heap[b2]?
theorem KpN.trans {rb b1 b2 : Nat} {X Y Z : World} (h : KpN rb b1 b2 X Y) (k : KpN rb b1 b2 Y Z) : KpN rb b1 b2 X Z := ⟨Nat.le_trans h.1 k.1, k.2.1.trans h.2.1, k.2.2.1.trans h.2.2.1, k.2.2.2.trans h.2.2.2⟩
theorem But.box {rb c : Nat} {w w' : World} {t : TypeId} {v : Value} (h : But rb w w') (hc : Boxed w c t v) (hne : c ≠ rb) : Boxed w' c t v := by
  have hh : w.heap[c]? = some (.cells #[v] t (0, 0)) := hc
  exact (h.block c hc.lt hne).trans hh

set_option maxRecDepth 100000 in
set_option maxHeartbeats 4000000 in
theorem next1_in (k : Nat) (hn : 1 ≤ k) (l b1 b2 rb p m : Nat) (s : ByteArray) (hs : s.size ≤ 4000) (hm : m ≤ 8) (h1b : b1 ≠ rb) (h2b : b2 ≠ rb) (J : List UInt8 → World → Prop)
    (hJm : ∀ pre X Y, J pre X → But rb X Y → J pre Y)
    (hY : ∀ pre x W, J pre W → pre.length < m → YieldAt Fence.wide (k - 1) Try.prog l (encU x) W fun e W' => e = .returned (.bool true) ∧ J (pre ++ [x]) W' ∧ KpN rb b1 b2 W W')
    (W : World) (hc1 : Boxed W b1 3 (.int .i64 m)) (hc2 : Boxed W b2 119 (.pointer (some ⟨rb, 0, none⟩))) (hbr : BrAt W rb s p) (h0 : J [] W) :
    CallsIn Fence.wide k Try.prog 118 #[.func (.yield l) #[] #[], .pointer (some ⟨b1, 0, none⟩), .pointer (some ⟨b2, 0, none⟩)] W fun e W' =>
      ((∃ v, e = .returned v) ∧ ∃ xs, (xs = (s.data.toList.drop p).take m ∧ p + m ≤ s.size ∧ BrAt W' rb s (p + m)) ∧ J xs W') ∨ (e = gup ∧ ∃ pre, s.size < p + m ∧ J pre W') := by
  have hlen := len_is s
  have hp0 := hbr.le
  refine callsIn_of_wp Try.func118 rfl trivial ?_ rfl
  simp only [Try.ntmps118, List.size_toArray, List.length_cons, List.length_nil, Nat.reduceAdd, Nat.reduceSub, Array.replicate_succ, Array.replicate_zero, List.push_toArray, List.append_toArray, List.nil_append, List.cons_append]
  have d1 := hc1.cell
  have d2 := hc2.cell
  have HLEN := hideIt hlen
  clear hlen
  gi_wp2
  gi_loopw [5] (fun i wr => ∃ (j : Nat), j ≤ m ∧ i = .int .i64 j ∧ p + j ≤ s.size ∧ Hid (J ((s.data.toList.drop p).take j) wr) ∧ Hid (BrAt wr rb s (p + j)) ∧ Hid (Boxed wr b1 3 (.int .i64 m)) ∧ Hid (Boxed wr b2 119 (.pointer (some ⟨rb, 0, none⟩)))) (fun i _ => m - (intOf i).toNat)
  case atStart => exact ⟨0, by omega, rfl, by omega, h0, hbr, hc1, hc2⟩
  case round =>
    clear d1 d2
    obtain ⟨j, hj, rfl, hpj, HJ, HB, HC1, HC2⟩ := hrel
    have d2 := HC2.out.cell
    by_cases hjm : j < m
    · have hlt : (j : Int) < (m : Int) := by omega
      by_cases hend : p + j = s.size
      · have HN := hideIt (next_no (by rw [← hend]; exact HB.out) (by omega) (w := wr) (rb := rb))
        gi_wp2_with (refine ⟨trivial, ?_⟩; gi_at_call 57; refine (callsIn_wide.2 HN.out).mono ?_; rintro e w3 ⟨rfl, hb3, k3⟩)
        rename_i ch heq
        exact ⟨rfl, .inr ⟨heq.symm, _, by omega, hJm _ _ _ HJ.out k3⟩⟩
      · have hpl : p + j < s.size := by omega
        have HN := hideIt (next_yes HB.out hpl (by omega))
        obtain ⟨x, hx⟩ : ∃ x, s[p + j] = x := ⟨_, rfl⟩
        have HX : Hid ((s.data.toList.drop p).take (j + 1) = (s.data.toList.drop p).take j ++ [x]) := by
          rw [Hid, take_next (by rw [HLEN.out]; exact hpl), List.getD_eq_getElem?_getD, getK? hpl, ← hx]; rfl
        rw [hx] at HN
        have HY := hideIt (fun W h => hY ((s.data.toList.drop p).take j) x W h (by rw [List.length_take]; omega))
        unfold encU at HY
        clear hx hY
        gi_wp2_with (refine ⟨trivial, ?_⟩; gi_at_call 57; refine (callsIn_wide.2 HN.out).mono ?_; rintro e w3 ⟨rfl, hb3, k3⟩; obtain ⟨fn, tmps, assign, body, hy, hR⟩ := HY.out _ (hJm _ _ _ HJ.out k3))
        refine hR.mono ?_
        rintro e W4 ⟨rfl, hJ4, hk4⟩
        have HJ4 : Hid (J ((s.data.toList.drop p).take (j + 1)) W4) := by rw [Hid, HX.out]; exact hJ4
        have HB4 : Hid (BrAt W4 rb s (p + (j + 1))) := hb3.keep hk4.2.1 hk4.1
        have HC4 : Hid (Boxed W4 b1 3 (.int .i64 m)) := hk4.2.2.1.trans (k3.box HC1.out h1b)
        have HD4 : Hid (Boxed W4 b2 119 (.pointer (some ⟨rb, 0, none⟩))) := hk4.2.2.2.trans (k3.box HC2.out h2b)
        clear hR hy hJ4 hk4 hb3 k3
        gi_wp2
        go_roundw
        case rel => exact ⟨j + 1, by omega, by go_num, by omega, HJ4, HB4, HC4, HD4⟩
        case measure => simp [intOf]; omega
    · obtain rfl : j = m := by omega
      gi_wp2
      go_end0
      exact .inl ⟨⟨_, rfl⟩, _, ⟨rfl, hpj, HB.out⟩, HJ.out⟩

set_option maxHeartbeats 1000000 in
theorem nextBytes_in (k rb : Nat) (m : Int) (w : World) :
    CallsIn Fence.wide k Try.prog 115 #[.pointer (some ⟨rb, 0, none⟩), .int .i64 m] w fun e w' => e = .returned (.func (.func 118) #[] #[.pointer (some ⟨w.heap.size + 1, 0, none⟩), .pointer (some ⟨w.heap.size, 0, none⟩)]) ∧ w' = (w.alloc (.cells #[.pointer (some ⟨rb, 0, none⟩)] 119)).alloc (.cells #[.int .i64 m] 3) := by
  refine callsIn_of_wp Try.func115 rfl trivial ?_ rfl
  simp only [Try.ntmps115, List.size_toArray, List.length_cons, List.length_nil, Nat.reduceAdd, Nat.reduceSub, Array.replicate_succ, Array.replicate_zero, List.push_toArray, List.append_toArray, List.nil_append, List.cons_append]
  gi_wp2
  go_ret
  exact ⟨rfl, rfl⟩

theorem But.farN {rb : Nat} {w X Y : World} {row : Option Nat} (h : But rb w X) (hg : X.grownBy Y row) (hr : ∀ r, row = some r → w.heap.size ≤ r) : But rb w Y :=
  h.next ((Below.refl w.heap.size X).grown hg h.size hr)
theorem BrAt.far {rb p B : Nat} {s : ByteArray} {X Y : World} {row : Option Nat} (h : BrAt X rb s p) (hg : X.grownBy Y row) (hr : ∀ r, row = some r → B ≤ r) (hB : rb < B) : BrAt Y rb s p :=
  h.keep (hg.block rb h.lt (fun e => by have := hr rb e.symm; omega)) hg.size
theorem keeps_but {rb B : Nat} {X Y : World} (h : But rb X Y) (hB : rb < B) : KeepsFrom B X Y :=
  ⟨h.size, fun k o hk ho _ => (h.block k (Array.getElem?_eq_some_iff.1 ho).1 (by omega)).trans ho⟩

set_option maxRecDepth 100000 in
set_option maxHeartbeats 4000000 in
theorem readBits_any {rb p : Nat} {s : ByteArray} {w : World} (h : BrAt w rb s p) (hs : s.size ≤ 4000) (m : Nat) (hm : m ≤ 8) :
    Calls Try.prog 110 #[.pointer (some ⟨rb, 0, none⟩), .int .i64 m] w fun e w' => ((e = .returned (.int .u64 (bigN s.data.toList p m)) ∧ p + m ≤ s.size ∧ BrAt w' rb s (p + m)) ∨ (e = gup ∧ s.size < p + m)) ∧ But rb w w' := by
  have hlt := h.lt
  have hlen := len_is s
  refine (callsIn_wide (n := 6)).1 ?_
  refine callsIn_of_wp_marks Try.func110 rfl trivial ?_ rfl
  simp only [Try.ntmps110, List.size_toArray, List.length_cons, List.length_nil, Nat.reduceAdd, Nat.reduceSub, Array.replicate_succ, Array.replicate_zero, List.push_toArray, List.append_toArray, List.nil_append, List.cons_append]
  gi_wp2_with (refine ⟨trivial, ?_⟩; gi_at_call 115; refine (nextBytes_in _ _ _ _).mono ?_; rintro e w' ⟨rfl, rfl⟩)
  have R0 : BrAt (((w.alloc (.cells #[.int .u64 0] 135)).alloc (.cells #[.pointer (some ⟨rb, 0, none⟩)] 119)).alloc (.cells #[.int .i64 m] 3)) rb s p := ((h.below ((Below.refl _ _).alloc (Nat.le_refl _) _)).below ((Below.refl _ _).alloc (Nat.le_refl _) _)).below ((Below.refl _ _).alloc (Nat.le_refl _) _)
  have x1 : Boxed (((w.alloc (.cells #[.int .u64 0] 135)).alloc (.cells #[.pointer (some ⟨rb, 0, none⟩)] 119)).alloc (.cells #[.int .i64 m] 3)) w.heap.size 135 (.int .u64 0) := ((Boxed.new w _ _).alloc _).alloc _
  have x2 : Boxed (((w.alloc (.cells #[.int .u64 0] 135)).alloc (.cells #[.pointer (some ⟨rb, 0, none⟩)] 119)).alloc (.cells #[.int .i64 m] 3)) (w.heap.size + 1) 119 (.pointer (some ⟨rb, 0, none⟩)) := by
    have := (Boxed.new (w.alloc (.cells #[.int .u64 0] 135)) 119 (.pointer (some ⟨rb, 0, none⟩))).alloc (.cells #[.int .i64 m] 3)
    rw [World.size_alloc] at this
    exact this
  have x3 : Boxed (((w.alloc (.cells #[.int .u64 0] 135)).alloc (.cells #[.pointer (some ⟨rb, 0, none⟩)] 119)).alloc (.cells #[.int .i64 m] 3)) (w.heap.size + 1 + 1) 3 (.int .i64 m) := by
    have := Boxed.new ((w.alloc (.cells #[.int .u64 0] 135)).alloc (.cells #[.pointer (some ⟨rb, 0, none⟩)] 119)) 3 (.int .i64 m)
    rw [World.size_alloc, World.size_alloc] at this
    exact this
  have B0 : But rb w (((w.alloc (.cells #[.int .u64 0] 135)).alloc (.cells #[.pointer (some ⟨rb, 0, none⟩)] 119)).alloc (.cells #[.int .i64 m] 3)) := But.of_below ((((Below.refl _ w).alloc (Nat.le_refl _) _).alloc (by simp) _).alloc (by simp; omega) _)
  have sE : (((w.alloc (.cells #[.int .u64 0] 135)).alloc (.cells #[.pointer (some ⟨rb, 0, none⟩)] 119)).alloc (.cells #[.int .i64 m] 3)).heap.size = w.heap.size + 1 + 1 + 1 := by simp
  generalize (((w.alloc (.cells #[.int .u64 0] 135)).alloc (.cells #[.pointer (some ⟨rb, 0, none⟩)] 119)).alloc (.cells #[.int .i64 m] 3)) = W2 at *
  refine rangeFunc_moves (F := Fence.wide) (n := 6) rfl (by decide) (gf := 118) (lb := #[.pointer (some ⟨w.heap.size + 1 + 1, 0, none⟩), .pointer (some ⟨w.heap.size + 1, 0, none⟩)]) rfl trivial (enters_of Try.func118 (by kernel_rfl) rfl)
    (encs := encU) (Kp := KpN rb (w.heap.size + 1 + 1) (w.heap.size + 1)) (Mv := But rb) (S := fun xs W' => xs = (s.data.toList.drop p).take m ∧ p + m ≤ s.size ∧ BrAt W' rb s (p + m)) (Sp := fun _ _ => s.size < p + m) (N := m) (ch := [{ v := .iface 109 (.agg #[]), recovered := false }])
    ?seq (fun X Y hxy => keeps_but hxy (by omega)) ?own KpN.trans ?hKb (fun _ => rfl)
    (fun pre W => Boxed W w.heap.size 135 (.int .u64 (bigL pre)) ∧ But rb w W) ?hI ?hIm ⟨x1, B0⟩
    (fun x => { tmps := #[.pointer (some ⟨rb, 0, none⟩), .int .i64 m, undef, undef, .int .u64 0, .pointer (some ⟨w.heap.size, 0, none⟩), .int .u8 (x.toNat : Int), .pointer (some ⟨rb, 0, none⟩), .int .i64 m, .func (.func 118) #[] #[.pointer (some ⟨w.heap.size + 1 + 1, 0, none⟩), .pointer (some ⟨w.heap.size + 1, 0, none⟩)], .int .u8 (x.toNat : Int), undef, undef, undef, undef, undef, undef], defers := [] }) ?assign ?body ?done ?pan
  case seq =>
    intro l J W hbw hJ hY h0
    exact next1_in (6 - 1) (by decide) l (w.heap.size + 1 + 1) (w.heap.size + 1) rb p m s hs hm (by omega) (by omega) J hJ hY W ((hbw.block _ (by omega)).trans x3) ((hbw.block _ (by omega)).trans x2) (R0.keep (hbw.block _ (by omega)) hbw.size) h0
  case own =>
    rintro xs X Y row ⟨h1, h2, h3⟩ hg hr
    exact ⟨h1, h2, h3.far hg (fun r e => (hr r e).1) (by omega)⟩
  case hKb =>
    intro X k o o' hk ho _ _
    exact ⟨(grownBy_putObj' X k o').size, World.putObj_heap_other (by omega), World.putObj_heap_other (by omega), World.putObj_heap_other (by omega)⟩
  case hI =>
    rintro pre X Y row ⟨h1, h2⟩ hg hr
    exact ⟨h1.kept hg (fun e => by have := (hr _ e.symm).1; omega), h2.farN hg (fun r e => by have := (hr r e).1; omega)⟩
  case hIm =>
    rintro pre X Y ⟨h1, h2⟩ hxy
    exact ⟨hxy.box h1 (by omega), h2.trans hxy⟩
  case assign =>
    intro k x X K' hK'
    unfold encU
    gi_wp2
    exact hK'
  case body =>
    rintro k pre x X ⟨h1, h2⟩ hpl
    have c1 := h1.cell
    have c2 := h1.frozen
    have hv8 := bigL_low (l := pre) (by omega)
    have HNX := hideIt (bigL_snoc pre x)
    have HOR := hideIt (or_byte hv8 x.toNat_lt)
    have H1 := hideIt h1
    have H2 := hideIt h2
    obtain ⟨vj, hvj⟩ : ∃ v, bigL pre = v := ⟨_, rfl⟩
    have HPL := hideIt hpl
    rw [hvj] at hv8 HNX HOR c1
    have hx8 := x.toNat_lt
    obtain ⟨xn, hxn⟩ : ∃ v, x.toNat = v := ⟨_, rfl⟩
    rw [hxn] at HNX HOR hx8 ⊢
    clear h1 h2 hpl hvj hxn
    gi_wp2
    refine ⟨KeepsFrom.of_grownBy (grownBy_setCell' X _ _) (fun j e => by cases e; omega), ⟨by simp, Below.heap_setCell _ _ _ _ (by show rb ≠ w.heap.size; omega), Below.heap_setCell _ _ _ _ (by show w.heap.size + 1 + 1 ≠ w.heap.size; omega), Below.heap_setCell _ _ _ _ (by show w.heap.size + 1 ≠ w.heap.size; omega)⟩, ?_, H2.out.farN (grownBy_setCell' X _ _) (fun r e => by cases e; exact Nat.le_refl _)⟩
    rw [HNX.out, ← HOR.out]
    exact H1.out.set _
  case done =>
    rintro D ys X hD ⟨rfl, hfit, hbr⟩ ⟨h1, h2⟩ hK
    have c1 := h1.cell
    rw [bigL_cut (by omega)] at c1
    gi_wp2
    refine ⟨by simp, .inl ⟨_, _, rfl, run_takeDeferred hK, ?_⟩⟩
    exact ⟨_, by simp [results, Try.results110, go_sem], .inl ⟨rfl, hfit, hbr.far (grownBy_putObj' X D (.deferred none)) (fun r e => by cases e; exact hD) (by omega)⟩, h2.farN (grownBy_putObj' X D (.deferred none)) (fun r e => by cases e; omega)⟩
  case pan =>
    rintro D pre X hD hno ⟨h1, h2⟩ hK
    refine ⟨by simp, .inl ⟨_, _, rfl, run_takeDeferred hK, ?_⟩⟩
    exact ⟨.inr ⟨rfl, hno⟩, h2.farN (grownBy_putObj' X D (.deferred none)) (fun r e => by cases e; omega)⟩
end Go.Proofs.Ytokhindolimchaa
