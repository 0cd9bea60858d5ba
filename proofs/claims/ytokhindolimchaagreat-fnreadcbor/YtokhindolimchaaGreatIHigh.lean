/-
  ReadCbor: the program's and the specification's.
-/
import Derived.Test.YtokhindolimchaaGreatRdFr
import Derived.Test.YtokhindolimchaaGreatScM
import Derived.Test.YtokhindolimchaaGreatScW
import Derived.Test.YtokhindolimchaaGreatProg
import Derived.Test.YtokhindolimchaaGreatEscP
import Derived.WideShapes
import Derived.Below
import Derived.Lib.FrozenHead
import Derived.RangeFuncBox
import Derived.RangeFuncNested
import Derived.RangeFuncBound
import Derived.RangeFuncCalls
import Derived.RangeFuncLeaves
import Derived.Shelf.Abstract
import Derived.WalkKit
import Derived.OwnWalkIn
import Derived.TacticsInMore
import Derived.LoopNIn
import Derived.LoopIn
namespace Go.Proofs.YtokhindolimchaaGreat
open Go.RowKit
set_option linter.unusedSimpArgs false
set_option linter.unusedVariables false

def cborF (s : ByteArray) : Option (List VN × Nat) := frontV s.data.toList (rdC s.data.toList (s.size + 1) 0)
theorem cborF_is {s : ByteArray} (hs : s.size ≤ 4000) : cborF s = (match spC s.data.toList (s.size + 1) 0 0 0 with | none => none | some (ns, q, _) => if okB ns = true then some (ns, q) else none) := by
  have hl := len_is s
  refine Eq.trans ?_ (same_read (relV_cbor s.data.toList (s.size + 1) 0)).symm
  unfold cborF frontV
  rw [if_neg (by omega), hl]
theorem cborF_big {s : ByteArray} (hs : 4000 < s.size) : cborF s = none := by
  have hl := len_is s
  unfold cborF frontV
  rw [if_pos (by omega)]
theorem cborF_small (s : ByteArray) : nsOf (cborF s) = [] ∨ SmNs (nsOf (cborF s)) := by
  by_cases hs : s.size ≤ 4000
  · rw [cborF_is hs]
    cases e : spC s.data.toList (s.size + 1) 0 0 0 with
    | none => exact .inl rfl
    | some x =>
      obtain ⟨ns, q, d⟩ := x
      have := (ok_cbor s.data.toList (s.size + 1) 0 0 0 ns q d (by omega) e).1
      dsimp only
      split
      · exact .inr this
      · exact .inl rfl
  · rw [cborF_big (by omega)]; exact .inl rfl

set_option maxRecDepth 100000 in
set_option maxHeartbeats 3200000 in
theorem implReadCbor_any (s : ByteArray) (hs : s.size ≤ 9223372036854775807) : Fronts 8 s (cborF s) := by
  intro w
  have hmf : ∀ (fn : Fn) (first cap : Array Value) (w : World), (Instr.makeFunc fn first cap).run Tryz.prog w = .ok (.func fn first cap) w := fun _ _ _ _ => rfl
  have HBA : Hid (Below w.heap.size w (w.alloc (.cells #[.string s, .int .i64 0] 43))) := (Below.refl _ _).alloc (Nat.le_refl _) _
  have HA : Hid (BrAt (w.alloc (.cells #[.string s, .int .i64 0] 43)) w.heap.size s 0) := ⟨by simp, by simp, by simp, by simp, Nat.zero_le _⟩
  have HC := hideB (readFront_any 28 (rdC s.data.toList (s.size + 1)) w.heap.size s (fun h4 => cread_any w.heap.size s h4 (s.size + 1)) (fun h4 => rdC_ok s.data.toList (by rw [len_is]; exact h4) (s.size + 1)) (call_cread _) _ HA.out hs)
  have HV : Hid (frontV s.data.toList (rdC s.data.toList (s.size + 1) 0) = cborF s) := rfl
  rw [HV.out] at HC
  obtain ⟨V, hV⟩ : ∃ V, cborF s = V := ⟨_, rfl⟩
  rw [hV] at HC ⊢
  clear hV HV
  have HZ : Hid ((w.alloc (.cells #[.string s, .int .i64 0] 43)).heap.size = w.heap.size + 1) := by rw [Hid]; simp
  go_enter Tryz.func8, Tryz.ntmps8
  go_wp2_with fail
  refine HC.out.mono ?_
  rintro e w1 ⟨r, base, KV, IV, rfl, hb1, hb2, hn, hbt⟩
  have HN := hideB hn
  have HB : Hid (w.heap.size ≤ base ∧ base ≤ w1.heap.size) := ⟨by have := HZ.out; omega, hb2⟩
  have HBL : Hid (Below w.heap.size w w1) := HBA.out.trans (hbt.below (by rw [HZ.out]; omega))
  obtain ⟨ar, cr, er⟩ := own_slice hn.row
  obtain ⟨M, hM⟩ : ∃ M, (nsOf V).length = M := ⟨_, rfl⟩
  rw [hM] at er
  subst er
  clear hn hbt hM hb1 hb2
  go_wp2_with fail
  refine bodyPost_ret (v := .tuple #[.slice ar M cr, .int .i64 (usedOf V), .bool V.isSome]) (by simp [results, Tryz.results8, go_sem]) rfl ?_
  exact ⟨_, base, KV, IV, rfl, HB.out.1, HB.out.2, HN.out, HBL.out⟩

set_option maxRecDepth 100000 in
set_option maxHeartbeats 3200000 in
theorem specReadCbor_any (s : ByteArray) (hs : s.size ≤ 9223372036854775807) : Fronts 9 s (cborF s) := by
  intro w
  by_cases hbig : 4000 < s.size
  · rw [cborF_big hbig]
    have hb' : (4000 : Int) < (s.size : Int) := by omega
    go_enter Tryz.func9, Tryz.ntmps9
    go_wp2_with fail
    refine bodyPost_ret (v := .tuple #[.slice none 0 0, .int .i64 0, .bool false]) (by simp [results, Tryz.results9, go_sem]) rfl ?_
    exact ⟨_, w.heap.size, fun _ => undef, fun _ => undef, rfl, Nat.le_refl _, Nat.le_refl _, Nest.nil _ _ _ _, Below.refl _ _⟩
  have hb' : ¬ (4000 : Int) < (s.size : Int) := by omega
  have HIS := hideB (cborF_is (s := s) (by omega))
  have HBA : Hid (Below w.heap.size w (w.alloc (.cells #[.string s, .int .i64 0, .bool false, .int .i64 0] 49))) := (Below.refl _ _).alloc (Nat.le_refl _) _
  have HA : Hid (ScAt (w.alloc (.cells #[.string s, .int .i64 0, .bool false, .int .i64 0] 49)) w.heap.size s 0 false 0) := ⟨heap_alloc_new w _, Nat.zero_le _, by omega⟩
  have HC := hideB (value_any (rb := w.heap.size) (s := s) (by omega) (s.size + 1) 0 0 0 _ HA.out (by omega) (by omega) (by omega))
  have HZ : Hid ((w.alloc (.cells #[.string s, .int .i64 0, .bool false, .int .i64 0] 49)).heap.size = w.heap.size + 1) := by rw [Hid]; simp
  go_enter Tryz.func9, Tryz.ntmps9
  go_wp2_with fail
  refine HC.out.mono ?_
  rintro e w1 ⟨ar, M, cr, rfl, hbt, hor⟩
  have HBL : Hid (Below w.heap.size w w1) := HBA.out.trans (hbt.below (by rw [HZ.out]; omega))
  have z1 := HBL.out.size
  have HZ1 : Hid (w.heap.size + 1 ≤ w1.heap.size) := by have := hbt.size; have := HZ.out; rw [Hid]; omega
  clear hbt HC
  rcases hor with ⟨ns, q, d, KV, IV, hS, hM, hn, hsc⟩ | ⟨hS, d, _, p', hsc⟩
  rotate_left
  · have HNO : Hid (cborF s = none) := by rw [Hid, HIS.out, hS]
    have k2 := hsc.cells.2.2.1
    clear hS hsc HIS
    go_wp2_with fail
    rw [HNO.out]
    refine bodyPost_ret (v := .tuple #[.slice none 0 0, .int .i64 0, .bool false]) (by simp [results, Tryz.results9, go_sem]) rfl ?_
    exact ⟨_, w1.heap.size, fun _ => undef, fun _ => undef, rfl, z1, Nat.le_refl _, Nest.nil _ _ _ _, HBL.out⟩
  have HSM := hideB (ok_cbor s.data.toList (s.size + 1) 0 0 0 ns q d (by omega) hS).1
  have HN := hideB hn
  have HSC := hideB hsc
  have k2 := hsc.cells.2.2.1
  rw [hS] at HIS
  have HCO := hideB (specOk_any w1.heap.size (.slice ar M cr) ns w1 (hn.nodes (by have := HSM.out.2.1; omega) (fun j hj => HSM.out.few.2 j hj)) (Nat.le_refl _))
  clear hS hn hsc hM
  go_wp2_with fail
  refine HCO.out.mono ?_
  rintro e w2 ⟨rfl, hb2⟩
  have HB2 := hideB (HBL.out.trans (hb2.mono z1))
  have HN2 := hideB (HN.out.below hb2)
  have HSC2 := hideB (HSC.out.below hb2)
  have z2 := hb2.size
  clear hb2 k2
  cases hok : okB ns
  · have HNO : Hid (cborF s = none) := by rw [Hid, HIS.out]; simp [hok]
    go_wp2_with fail
    rw [HNO.out]
    refine bodyPost_ret (v := .tuple #[.slice none 0 0, .int .i64 0, .bool false]) (by simp [results, Tryz.results9, go_sem]) rfl ?_
    exact ⟨_, w2.heap.size, fun _ => undef, fun _ => undef, rfl, HB2.out.size, Nat.le_refl _, Nest.nil _ _ _ _, HB2.out⟩
  · have HYES : Hid (cborF s = some (ns, q)) := by rw [Hid, HIS.out]; simp [hok]
    obtain ⟨c0, c1, c2, c3⟩ := HSC2.out.cells
    go_wp2_with fail
    go_quiet (fail)
    have HB3 := hideB (HB2.out.trans ((below_drewB (w := w2) nq).mono HB2.out.size))
    have HN3 := hideB (HN2.out.below (below_drewB (w := w2) nq))
    have z3 : w2.heap.size ≤ (w2.drewN nq).heap.size := (below_drewB (w := w2) nq).size
    generalize w2.drewN nq = w3 at HB3 HN3 z3 ⊢
    clear nq c0 c1 c2 c3
    go_wp2_with fail
    rw [HYES.out]
    refine bodyPost_ret (v := .tuple #[.slice ar M cr, .int .i64 q, .bool true]) (by simp [results, Tryz.results9, go_sem]) rfl ?_
    exact ⟨_, w.heap.size + 1, KV, IV, rfl, by omega, by have := HZ1.out; omega, by have := HN3.out; rw [HZ.out] at this; exact this, HB3.out⟩
end Go.Proofs.YtokhindolimchaaGreat

/-
  Rows of bytes laid by appending.
-/
namespace Go.Proofs.YtokhindolimchaaGreat
open Go.RowKit Go.WideShapes
set_option linter.unusedSimpArgs false
set_option linter.unusedVariables false

/-- 'v' is a row of one's own (its memory from block 'base' on) that holds the bytes 'l'. -/
def RowB (base : Nat) (w : World) (v : Value) (l : List UInt8) : Prop := w.ownsRow base 5 1 v l.length (Lib.byteCells l)
theorem RowB.slice {base : Nat} {w : World} {v : Value} {l : List UInt8} (h : RowB base w v l) : ∃ a c, v = .slice a l.length c := by
  rcases h.2 with ⟨rfl, h0⟩ | ⟨g, cap, cur, rfl, _⟩
  · rw [h0]; exact ⟨_, _, rfl⟩
  · exact ⟨_, _, rfl⟩
theorem rowB_new (w : World) : RowB w.heap.size (w.alloc (.cells #[] 5)) (.slice (some ⟨w.heap.size, 0, none⟩) 0 0) [] := by
  have := World.ownsRow_lit (base := w.heap.size) (e := 5) (size := 1) w #[] 0 (Nat.le_refl _) (by simp [maxLen]) rfl
  simpa [RowB, Lib.byteCells] using this
theorem info_byte : (Tryz.prog.info? 5).map (fun i => (i.zero, i.size, i.bytes)) = some (some (.int .u8 0), 1, 1) := by kernel_rfl
theorem info_three {P : Program} {t : TypeId} {z : Option Value} {s b : Nat} (h : (P.info? t).map (fun i => (i.zero, i.size, i.bytes)) = some (z, s, b)) : ∃ i, P.info? t = some i ∧ i.zero = z ∧ i.size = s ∧ i.bytes = b := by
  cases hi : P.info? t with
  | none => simp [hi] at h
  | some i => simp [hi] at h; exact ⟨i, rfl, h.1, h.2.1, h.2.2⟩
theorem byte_new (w : World) (c : UInt8) : ∀ j u, [Value.int .u8 (c.toNat : Int)][j]? = some u → (w.alloc (.cells #[.int .u8 (c.toNat : Int)] 5)).cell? ((⟨w.heap.size, 0, none⟩ : Addr).add j) = some u := by
  intro j u hj
  match j, hj with
  | 0, hj => simp at hj; subst hj; simp [Addr.add]
theorem row_end {base : Nat} {w w' : World} {v v' : Value} {l : List UInt8} {c : UInt8} (hbase : base ≤ w.heap.size) (hrow : RowB base w v l)
    (hown : w'.ownsRow base 5 1 v' (l.length + 1) (Lib.byteCells l ++ [.int .u8 (c.toNat : Int)])) (hgrow : (w.alloc (.cells #[.int .u8 (c.toNat : Int)] 5)).grownBy w' v.ownBlock) : RowB base w' v' (l ++ [c]) ∧ Below base w w' := by
  refine ⟨?_, ?_⟩
  · unfold RowB
    have e : Lib.byteCells (l ++ [c]) = Lib.byteCells l ++ [.int .u8 (c.toNat : Int)] := by simp [Lib.byteCells]
    rw [e, List.length_append]
    exact hown
  · exact ((Below.refl base w).alloc hbase _).grown hgrow (by simp; omega) (fun k hk => (hrow.lt k hk).1)
/-- append(row, c) -/
theorem wpList_push {ops : Array Oper} {rest : List Oper} {o : Oper} {a : Act} {Q : Exit → Act → World → Prop} {w : World} (hgd : o.guard = none) (s x : Operand)
    (ho : o.op = .call { callee := .builtin .append, args := #[s, x], argTypes := #[22, 22] }) (base : Nat) (l : List UInt8) (v : Value) (hs : a.eval s = v) (hrow : RowB base w v l) (c : UInt8)
    (hx : a.eval x = .slice (some ⟨w.heap.size, 0, none⟩) 1 1) (hlen : l.length + 1 ≤ 70368744177664) (hbase : base ≤ w.heap.size)
    (h : ∀ v' w', RowB base w' v' (l ++ [c]) → Below base w w' → wpList Tryz.prog ops Q rest (a.put o.dst v') w') : wpList Tryz.prog ops Q (o :: rest) a (w.alloc (.cells #[.int .u8 (c.toNat : Int)] 5)) := by
  obtain ⟨i0, hi0, hz0, hs0, hy0⟩ := info_three info_byte
  refine wpList_append_own _ hgd s x 22 ho base 5 i0 (.int .u8 0) 1 1 Tryz.underlying22 hi0 hz0 hs0 hy0 rfl (by decide) v l.length (Lib.byteCells l) hs (hrow.alloc _) ⟨w.heap.size, 0, none⟩ 1 1 [.int .u8 (c.toNat : Int)] hx rfl (byte_new w c) (by intro u hu; simp at hu; subst hu; rfl) (by unfold maxLen; omega) (by omega) (by simp; omega) ?_
  intro v' w' hown hgrow _
  have := row_end hbase hrow hown hgrow
  exact h v' w' this.1 this.2
/-- append(row, c), as a step of a statement whose order is open. -/
theorem step_push {ops : Array Oper} {o : Oper} {a : Act} {K : Act → World → Prop} {Q : Exit → Act → World → Prop} {E : Prop} {w : World} (hgd : o.guard = none) (s x : Operand)
    (ho : o.op = .call { callee := .builtin .append, args := #[s, x], argTypes := #[22, 22] }) (base : Nat) (l : List UInt8) (v : Value) (hs : a.eval s = v) (hrow : RowB base w v l) (c : UInt8)
    (hx : a.eval x = .slice (some ⟨w.heap.size, 0, none⟩) 1 1) (hlen : l.length + 1 ≤ 70368744177664) (hbase : base ≤ w.heap.size)
    (h : ∀ v' w', RowB base w' v' (l ++ [c]) → Below base w w' → K (a.put o.dst v') w') : if Region.wanted o (yielded ops a.tmps) = true then Oper.wp Tryz.prog o a (w.alloc (.cells #[.int .u8 (c.toNat : Int)] 5)) K Q else E := by
  obtain ⟨i0, hi0, hz0, hs0, hy0⟩ := info_three info_byte
  refine step_append_lies _ hgd s x 22 ho base 5 i0 (.int .u8 0) 1 1 Tryz.underlying22 hi0 hz0 hs0 hy0 rfl (by decide) v l.length (Lib.byteCells l) hs (hrow.alloc _) ⟨w.heap.size, 0, none⟩ 1 1 [.int .u8 (c.toNat : Int)] hx rfl (byte_new w c) (by intro u hu; simp at hu; subst hu; rfl) (by omega) (by unfold maxLen; omega) (by omega) (by simp; omega) (w.heap.size + 1) (by simp) ?_
  intro g cap w' hown hgrow _ _
  have := row_end hbase hrow hown hgrow
  exact h _ w' this.1 this.2
/-- string(row) -/
theorem RowB.text {base : Nat} {w : World} {a : Option Addr} {cap : Nat} {l : List UInt8} {n : Nat} (hn : l.length = n) (h : RowB base w (.slice a n cap) l) :
    (convert 22 9 (.slice a n cap)).run Tryz.prog w = .ok (.string (txt l)) w := by
  subst hn
  rcases h.2 with ⟨hv, h0⟩ | ⟨g, cap', cur, hv, _⟩
  · obtain rfl : l = [] := List.eq_nil_of_length_eq_zero h0
    cases hv
    kernel_rfl
  · cases hv
    exact run_convert_bytes_back (P := Tryz.prog) w 22 9 5 ⟨g, 0, none⟩ cap l Tryz.underlying22 Tryz.underlying5 Tryz.underlying9 (fun j hj => h.cells rfl j _ (by simp [Lib.byteCells, hj]))
theorem RowB.drew {base : Nat} {w : World} {v : Value} {l : List UInt8} (h : RowB base w v l) : RowB base w.drew v l := h
theorem RowB.below {base : Nat} {w w' : World} {v : Value} {l : List UInt8} (h : RowB base w v l) (hb : Below w.heap.size w w') : RowB base w' v l := by
  refine ⟨h.1, ?_⟩
  rcases h.2 with ⟨hv, h0⟩ | ⟨g, cap, cur, hv, h1, h2, h3⟩
  · exact .inl ⟨hv, h0⟩
  · refine .inr ⟨g, cap, cur, hv, h1, ?_, h3⟩
    rw [hb.block g ?_]
    · exact h2
    · rcases Nat.lt_or_ge g w.heap.size with h' | h'
      · exact h'
      · rw [Array.getElem?_eq_none h'] at h2; cases h2
end Go.Proofs.YtokhindolimchaaGreat

/-
  The specification's l3Big: a number in so many bytes.
-/
namespace Go.Proofs.YtokhindolimchaaGreat
open Go.RowKit Go.WideShapes
set_option linter.unusedSimpArgs false
set_option linter.unusedVariables false

/-- What stands before the last 'j' bytes. -/
def bigTo (n : Int) (m j : Nat) : List UInt8 := (bigB n m).take (m - j)
theorem bigTo_all (n : Int) (m : Nat) : bigTo n m 0 = bigB n m := by unfold bigTo; rw [List.take_of_length_le]; rw [bigB_len]; omega
theorem bigTo_none (n : Int) (m : Nat) : bigTo n m m = [] := by unfold bigTo; simp
theorem bigB_drop (n : Int) (m j : Nat) (h : j ≤ m) : (bigB n m).drop (m - j) = bigB n j := by
  induction m with
  | zero => obtain rfl : j = 0 := by omega
            rfl
  | succ m ih =>
    by_cases e : j = m + 1
    · subst e; simp
    · have : m + 1 - j = (m - j) + 1 := by omega
      rw [this, bigB, List.drop_succ_cons]
      exact ih (by omega)
theorem bigTo_step (n : Int) (m j : Nat) (h : j < m) : bigTo n m j = bigTo n m (j + 1) ++ [byI (n / 256 ^ j)] := by
  unfold bigTo
  have e1 : m - j = (m - (j + 1)) + 1 := by omega
  rw [e1]
  have hl : m - (j + 1) < (bigB n m).length := by rw [bigB_len]; omega
  rw [List.take_succ_eq_append_getElem hl]
  congr 2
  have hd := bigB_drop n m (j + 1) (by omega)
  have : (bigB n m).drop (m - (j + 1)) = (bigB n m)[m - (j + 1)] :: (bigB n m).drop (m - (j + 1) + 1) := List.drop_eq_getElem_cons hl
  rw [hd, bigB] at this
  exact (List.cons.inj this).1.symm

set_option maxRecDepth 100000 in
set_option maxHeartbeats 1600000 in
theorem l3Big_any (n : Int) (m : Nat) (w : World) (h0 : -9223372036854775808 ≤ n) (h1 : n ≤ 9223372036854775807) (hm : m ≤ 8) : Calls Tryz.prog 107 #[.int .i64 n, .int .i64 m] w fun e w' => e = .returned (.string (txt (bigB n m))) ∧ Below w.heap.size w w' := by
  go_enter Tryz.func107, Tryz.ntmps107
  go_wp2_with fail
  go_loopw [5, 6] (fun v i wr => ∃ (j : Nat), j ≤ m ∧ i = .int .i64 ((j : Int) - 1) ∧ RowB w.heap.size wr v (bigTo n m j) ∧ Below w.heap.size w wr) (fun _ i _ => (intOf i + 1).toNat)
  case atStart => exact ⟨m, Nat.le_refl _, by go_num, by rw [bigTo_none]; exact rowB_new w, (Below.refl _ _).alloc (Nat.le_refl _) _⟩
  case round =>
    obtain ⟨j, hj, rfl, hrow, hbel⟩ := hrel
    obtain ⟨ao, co, eo⟩ := hrow.slice
    obtain ⟨q, hq⟩ : ∃ q, (bigTo n m j).length = q := ⟨_, rfl⟩
    have HR := hideB hrow
    have HB := hideB hbel
    have hz := hbel.size
    have hq8 : q ≤ 8 := by rw [← hq]; unfold bigTo; rw [List.length_take, bigB_len]; omega
    rw [hq] at eo
    have HQ := hideB hq
    subst eo
    clear hrow hbel hq
    by_cases hlt : 0 < j
    · obtain ⟨k, rfl⟩ : ∃ k, j = k + 1 := ⟨j - 1, by omega⟩
      have e0 : ((k + 1 : Nat) : Int) - 1 = (k : Int) := by omega
      rw [e0]
      have hk8 : (k : Int) ≤ 7 := by omega
      have hk0 : 0 ≤ (k : Int) := by omega
      have e1 := byI_shift n k
      have HS := hideB (bigTo_step n m k (by omega))
      go_wp2_with (at_builtin; refine wpList_push rfl _ _ rfl w.heap.size _ _ rfl HR.out (byI (n / 256 ^ k)) rfl (by rw [HQ.out]; omega) hz ?_)
      intro v' w' hr' hb'
      go_wp2_with fail
      refine ⟨⟨k, by omega, rfl, by rw [HS.out]; exact hr', HB.out.trans hb'⟩, by simp [intOf]⟩
    · obtain rfl : j = 0 := by omega
      have hc0 := HR.out.text HQ.out
      go_wp2_with fail
      go_ret
      exact ⟨ret_txt (bigTo_all n m), HB.out⟩
end Go.Proofs.YtokhindolimchaaGreat

/-
  The program's highestFirst: its function value hands the bytes of a number over, the highest first.
-/
namespace Go.Proofs.YtokhindolimchaaGreat
open Go.RowKit Go.Shelf
set_option linter.unusedSimpArgs false
set_option linter.unusedVariables false

attribute [local go_sem] Oper.semAt_some

/-- What a round must keep for the iterator: the two variables that it has captured. -/
def KpH (b1 b2 : Nat) (W W' : World) : Prop := W'.cell? ⟨b1, 0, none⟩ = W.cell? ⟨b1, 0, none⟩ ∧ W'.cell? ⟨b2, 0, none⟩ = W.cell? ⟨b2, 0, none⟩
theorem KpH.trans {b1 b2 : Nat} {X Y Z : World} (h : KpH b1 b2 X Y) (k : KpH b1 b2 Y Z) : KpH b1 b2 X Z := ⟨k.1.trans h.1, k.2.trans h.2⟩
def encB (x : UInt8) : Array Value := #[.int .u8 (x.toNat : Int)]
theorem bigTo_len (n : Int) (m j : Nat) : (bigTo n m j).length = m - j := by unfold bigTo; rw [List.length_take, bigB_len]; omega

set_option maxRecDepth 100000 in
set_option maxHeartbeats 2000000 in
theorem high1_in (F : Fence) (k : Nat) (h7 : F.fn 120) (hro : F.round = none) (hn : 1 ≤ k) (l b1 b2 : Nat) (n : Int) (m : Nat) (hm : m ≤ 8) (h0n : 0 ≤ n) (h1n : n ≤ 18446744073709551615) (J Jx : List UInt8 → World → Prop)
    (hY : ∀ pre x W, J pre W → pre.length < m → YieldAt F (k - 1) Tryz.prog l (encB x) W fun e W' =>
      (e = .returned (.bool true) ∧ J (pre ++ [x]) W' ∧ KpH b1 b2 W W') ∨ (e = .returned (.bool false) ∧ Jx (pre ++ [x]) W'))
    (W : World) (hc1 : W.cell? ⟨b1, 0, none⟩ = some (.int .i64 m)) (hc2 : W.cell? ⟨b2, 0, none⟩ = some (.int .u64 n)) (h0 : J [] W) :
    CallsIn F k Tryz.prog 120 #[.func (.yield l) #[] #[], .pointer (some ⟨b1, 0, none⟩), .pointer (some ⟨b2, 0, none⟩)] W fun e W' => (∃ v, e = .returned v) ∧
      ((∃ ys, ys = bigB n m ∧ J ys W') ∨ (∃ pre, True ∧ Jx pre W')) := by
  refine callsIn_of_wp Tryz.func120 rfl h7 ?_ hro
  simp only [Tryz.ntmps120, List.size_toArray, List.length_cons, List.length_nil, Nat.reduceAdd, Nat.reduceSub, Array.replicate_succ, Array.replicate_zero, List.push_toArray, List.append_toArray, List.nil_append, List.cons_append]
  gi_wp2
  gi_loopw [4] (fun i wr => ∃ (r : Nat) (z : Int), r ≤ m ∧ i = .int .i64 z ∧ z = (r : Int) - 1 ∧ J (bigTo n m r) wr ∧ KpH b1 b2 W wr) (fun i _ => (intOf i + 1).toNat)
  case atStart => exact ⟨m, _, Nat.le_refl _, rfl, rfl, by rw [bigTo_none]; exact h0, rfl, rfl⟩
  case round =>
    obtain ⟨r, z, hr, rfl, hz, hJs, hnx⟩ := hrel
    have hb1 := hnx.1.trans hc1
    have hb2 := hnx.2.trans hc2
    by_cases hr0 : r = 0
    · subst hr0
      obtain rfl : z = -1 := by omega
      clear hz
      gi_wp2
      go_end0
      exact ⟨⟨_, rfl⟩, .inl ⟨_, bigTo_all n m, hJs⟩⟩
    · obtain ⟨q, rfl⟩ : ∃ q, r = q + 1 := ⟨r - 1, by omega⟩
      obtain rfl : z = (q : Int) := by omega
      obtain ⟨fn, tmps, assign, body, hy, hR⟩ := hY _ (byI (n / 256 ^ q)) wr hJs (by rw [bigTo_len]; omega)
      have HJ : Hid (bigTo n m q = bigTo n m (q + 1) ++ [byI (n / 256 ^ q)]) := bigTo_step n m q (by omega)
      unfold encB at hy
      (try dsimp only at hy)
      have e1 := byI_shift n q
      have hq8 : (q : Int) ≤ 7 := by omega
      have hq0 : (0 : Int) ≤ (q : Int) := by omega
      clear hz hY hr0
      gi_wp2
      refine hR.mono ?_
      rintro e W3 (⟨rfl, hJ3, hk3⟩ | ⟨rfl, hJx3⟩)
      · gi_wp2
        go_roundw
        case rel => exact ⟨q, _, by omega, rfl, rfl, by rw [HJ.out]; exact hJ3, hnx.trans hk3⟩
        case measure => simp [intOf]
      · gi_wp2
        refine bodyPost_ret (results_none rfl _ _ _) rfl ?_
        exact ⟨⟨_, rfl⟩, .inr ⟨_, trivial, hJx3⟩⟩

set_option maxHeartbeats 1000000 in
theorem high_in (F : Fence) (k : Nat) (h5 : F.fn 115) (hro : F.round = none) (n m : Int) (w : World) :
    CallsIn F k Tryz.prog 115 #[.int .u64 n, .int .i64 m] w fun e w' => e = .returned (.func (.func 120) #[] #[.pointer (some ⟨w.heap.size + 1, 0, none⟩), .pointer (some ⟨w.heap.size, 0, none⟩)]) ∧ w' = (w.alloc (.cells #[.int .u64 n] 136)).alloc (.cells #[.int .i64 m] 3) := by
  refine callsIn_of_wp Tryz.func115 rfl h5 ?_ hro
  simp only [Tryz.ntmps115, List.size_toArray, List.length_cons, List.length_nil, Nat.reduceAdd, Nat.reduceSub, Array.replicate_succ, Array.replicate_zero, List.push_toArray, List.append_toArray, List.nil_append, List.cons_append]
  gi_wp2
  go_ret
  exact ⟨rfl, rfl⟩

theorem high_stops (F : Fence) (k : Nat) (h7 : F.fn 120) (hro : F.round = none) (hn : 1 ≤ k) (b1 b2 : Nat) (n : Int) (m : Nat) (hm : m ≤ 8) (h0n : 0 ≤ n) (h1n : n ≤ 18446744073709551615) (w : World) (hb1 : b1 < w.heap.size) (hb2 : b2 < w.heap.size)
    (hc1 : w.cell? ⟨b1, 0, none⟩ = some (.int .i64 m)) (hc2 : w.cell? ⟨b2, 0, none⟩ = some (.int .u64 n)) :
    SeqStopsK F k Tryz.prog 120 #[.pointer (some ⟨b1, 0, none⟩), .pointer (some ⟨b2, 0, none⟩)] encB (KpH b1 b2) (fun ys => ys = bigB n m) (fun pre => True) m w := fun l J Jx W hW _ _ hY h0 =>
  high1_in F k h7 hro hn l b1 b2 n m hm h0n h1n J Jx hY W ((hW.cell (p := ⟨b1, 0, none⟩) hb1).trans hc1) ((hW.cell (p := ⟨b2, 0, none⟩) hb2).trans hc2) h0
end Go.Proofs.YtokhindolimchaaGreat
