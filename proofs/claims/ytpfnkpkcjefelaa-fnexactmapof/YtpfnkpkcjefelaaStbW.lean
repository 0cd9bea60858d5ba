/-
  append of a slice that came in, nil or not, onto a row of one's own: what the row is then, and where it lies.
-/
import Derived.Test.YtpfnkpkcjefelaaNest
import Derived.Maps.AppendAt
import Derived.Laws.OwnMore
import Derived.Test.YtpfnkpkcjefelaaStepC
import Derived.Test.YtpfnkpkcjefelaaMark
import Derived.Test.YtpfnkpkcjefelaaProg
import Derived.BigQuiet
import Derived.BigRegion
namespace Go.Proofs.Ytpfnkpkcjefelaa
open Go.RowKit
set_option linter.unusedSimpArgs false
set_option linter.unusedVariables false

theorem run_append_none_any {P : Program} {w : World} (base : Nat) (t ty e : TypeId) (i : TypeInfo) (size c : Nat) (ht : P.underlying t = some (.slice e)) (hi : P.info? e = some i)
    (v : Value) (n : Nat) (xs : List Value) (hown : w.ownsRow base e size v n xs) :
    (Builtin.append_ #[t, t] ty #[v, .slice none 0 c]).run P w = .ok v w := by
  rcases hown.2 with ⟨rfl, rfl⟩ | ⟨g, cap, cur, rfl, _, _, hnc, _⟩
  · simp [Builtin.append_, run_underlying ht, sizeOf, typeInfo, hi, Builtin.lenOf, Builtin.firstCells]
  · simp [Builtin.append_, run_underlying ht, sizeOf, typeInfo, hi, Builtin.lenOf, Builtin.firstCells, hnc, storeCells]

theorem wpList_append_src {P : Program} {w : World} {ops : Array Oper} {rest : List Oper} {o : Oper} {a : Act} {Q : Exit → Act → World → Prop} (hgd : o.guard = none) (s x : Operand) (t : TypeId)
    (ho : o.op = .call { callee := .builtin .append, args := #[s, x], argTypes := #[t, t] })
    (base : Nat) (e : TypeId) (i : TypeInfo) (z : Value) (size bytes : Nat) (ht : P.underlying t = some (.slice e)) (hi : P.info? e = some i) (hz : i.zero = some z)
    (hsize : i.size = size) (hby : i.bytes = bytes) (hzs : z.cells.size = size) (hsz : 0 < size)
    (v : Value) (n : Nat) (xs : List Value) (hs : a.eval s = v) (hown : w.ownsRow base e size v n xs)
    (ax : Option Addr) (m c : Nat) (news : List Value) (hx : a.eval x = .slice ax m c) (hl : news.length = m * size) (hsrc : 0 < m → ∃ ad, ax = some ad ∧ ∀ j u, news[j]? = some u → w.cell? (ad.add j) = some u) (h1 : ∀ u ∈ news, u.oneCell' = true)
    (h63 : n + m ≤ maxLen) (hbytes : (n + m) * bytes ≤ 140737488355328) (hbase : base ≤ w.heap.size)
    (h : ∀ v' w', w'.ownsRow base e size v' (n + m) (xs ++ news) → w.grownBy w' v.ownBlock → (v'.ownBlock = v.ownBlock ∨ v'.ownBlock = some w.heap.size) → wpList P ops Q rest (a.put o.dst v') w') : wpList P ops Q (o :: rest) a w := by
  rcases Nat.eq_zero_or_pos m with e0 | e0
  · subst e0
    obtain rfl : news = [] := List.eq_nil_of_length_eq_zero (by simpa using hl)
    cases ax with
    | none =>
      refine wpList_plain hgd fun K hK => ?_
      have hrun := run_append_none_any (P := P) (w := w) base t o.type e i size c ht hi v n xs hown
      unfold Oper.wp
      simp [execOp, ho, resolve, invoke, builtin, hs, hx, hrun, Result.andThen]
      exact hK _ _ (h v w (by simpa using hown) ⟨rfl, rfl, rfl, Nat.le_refl _, fun _ _ _ => rfl⟩ (Or.inl rfl))
    | some ad =>
      exact wpList_append_own_at w hgd s x t ho base e i z size bytes ht hi hz hsize hby hzs hsz v n xs hs hown ad 0 c [] hx hl (fun j u hj => by simp at hj) h1 h63 hbytes hbase (fun v' w' h2 h3 _ h5 => h v' w' h2 h3 h5)
  · obtain ⟨ad, rfl, hc⟩ := hsrc e0
    exact wpList_append_own_at w hgd s x t ho base e i z size bytes ht hi hz hsize hby hzs hsz v n xs hs hown ad m c news hx hl hc h1 h63 hbytes hbase (fun v' w' h2 h3 _ h5 => h v' w' h2 h3 h5)
end Go.Proofs.Ytpfnkpkcjefelaa

/-
  All blocks from one on are kept. No walk.
-/
namespace Go.Proofs.Ytpfnkpkcjefelaa
open Go.RowKit
set_option linter.unusedSimpArgs false
set_option linter.unusedVariables false

/-- All blocks from base on are as they were. -/
def From (base : Nat) (w w' : World) : Prop := w.heap.size ≤ w'.heap.size ∧ ∀ c, base ≤ c → c < w.heap.size → w'.heap[c]? = w.heap[c]?
theorem From.below {base : Nat} {a w w' : World} (h : From base a w) (hb : Below w.heap.size w w') : From base a w' :=
  ⟨Nat.le_trans h.1 hb.size, fun c h1 h2 => (hb.block c (by have := h.1; omega)).trans (h.2 c h1 h2)⟩
theorem From.refl (base : Nat) (w : World) : From base w w := ⟨Nat.le_refl _, fun _ _ _ => rfl⟩
theorem From.mono {base base' : Nat} {w w' : World} (h : From base w w') (hb : base ≤ base') : From base' w w' := ⟨h.1, fun c h1 h2 => h.2 c (by omega) h2⟩

theorem own_from {w w' : World} {base e s n : Nat} {v : Value} {xs : List Value} (h : w.ownsRow base e s v n xs) (hf : From base w w') : w'.ownsRow base e s v n xs := by
  refine ⟨h.1, ?_⟩
  rcases h.2 with hn | ⟨g, cap, cur, rfl, hg, hgg, rest⟩
  · exact .inl hn
  · exact .inr ⟨g, cap, cur, rfl, hg, (hf.2 g hg (h.lt g rfl).2).trans hgg, rest⟩

end Go.Proofs.Ytpfnkpkcjefelaa

/-
  slices' swapRange and rotate at rows of numbers: what stands where behind them.
-/
namespace Go.Proofs.Ytpfnkpkcjefelaa
open Go.RowKit
set_option linter.unusedSimpArgs false
set_option linter.unusedVariables false

def nums (f : Nat → Int) (j : Nat) : Value := .int .i64 (f j)

theorem nums_set2 {w : World} {g t N : Nat} {f : Nat → Int} (h : w.rowIs g t N (nums f)) (x y : Nat) (u v : Int) : ((w.setCell ⟨g, x, none⟩ (.int .i64 u)).setCell ⟨g, y, none⟩ (.int .i64 v)).rowIs g t N (nums (fun p => if p = y then v else if p = x then u else f p)) := by
  refine ((h.set x _).set y _).congr fun p _ => ?_
  unfold nums
  by_cases e1 : p = y
  · simp [e1]
  · by_cases e2 : p = x
    · subst e2; simp [e1]
    · simp [e1, e2]

/-- Nothing but block g has turned; there may be more blocks. -/
def Sw (g : Nat) (w w' : World) : Prop := w'.os = w.os ∧ w'.tape = w.tape ∧ w'.output = w.output ∧ Only (· = g) w w'

theorem Sw.refl (g : Nat) (w : World) : Sw g w w := ⟨rfl, rfl, rfl, Only.refl _ _⟩
theorem Sw.trans {g : Nat} {a b c : World} (h : Sw g a b) (k : Sw g b c) : Sw g a c := ⟨k.1.trans h.1, k.2.1.trans h.2.1, k.2.2.1.trans h.2.2.1, h.2.2.2.trans k.2.2.2⟩
theorem Sw.set {g : Nat} {a b : World} (h : Sw g a b) (o : Nat) (v : Value) : Sw g a (b.setCell ⟨g, o, none⟩ v) := by
  have hb : Below g b (b.setCell ⟨g, o, none⟩ v) := (Below.refl _ _).setCell (p := ⟨g, o, none⟩) (Nat.le_refl _) v
  exact h.trans ⟨hb.os, hb.tape, hb.output, Only.set (P := (· = g)) b rfl v⟩
theorem Sw.drew {g : Nat} {a b : World} (h : Sw g a b) : Sw g a b.drew := ⟨h.1, h.2.1, h.2.2.1, h.2.2.2⟩
theorem Sw.drewN {g : Nat} {a b : World} (h : Sw g a b) (n : Nat) : Sw g a (b.drewN n) := ⟨h.1, h.2.1, h.2.2.1, h.2.2.2⟩
theorem Sw.below {g B : Nat} {a b : World} (h : Sw g a b) (hB : B ≤ g) (hs : B ≤ a.heap.size) : Below B a b := ⟨h.1, h.2.1, h.2.2.1, h.2.2.2.1, fun k hk => h.2.2.2.2 k (by omega) (by omega)⟩

set_option maxRecDepth 100000 in
set_option maxHeartbeats 4000000 in
theorem swapRange_any (g N cap : Nat) (f : Nat → Int) (a b n : Nat) (cf : Value) (w : World) (h : w.rowIs g 3 N (nums f)) (ha : a + n ≤ N) (hb : b + n ≤ N) (hd : a + n ≤ b ∨ b + n ≤ a) (hN : N ≤ 1099511627776) :
    Calls Try.prog 128 #[.slice (some ⟨g, 0, none⟩) N cap, .int .i64 a, .int .i64 b, .int .i64 n, cf] w fun e w' => e = .returned (.tuple #[]) ∧ w'.rowIs g 3 N (nums (swp a b n f)) ∧ Sw g w w' := by
  have HR := hideIt h
  clear h
  go_enter Try.func128, Try.ntmps128
  go_wp2_with fail
  go_loopw [10] (fun i wr => ∃ k : Nat, k ≤ n ∧ i = .int .i64 k ∧ wr.rowIs g 3 N (nums (swp a b k f)) ∧ Sw g w wr) (fun i _ => n - (intOf i).toNat)
  case atStart => exact ⟨0, Nat.zero_le _, rfl, HR.out.congr fun j _ => by unfold nums; rw [swp_zero], Sw.refl _ _⟩
  case round =>
    obtain ⟨k, hk, rfl, hrow, honly⟩ := hrel
    by_cases hlt : k < n
    · have c1 := hrow.cell (i := a + k) (by omega)
      have c2 := hrow.cell (i := b + k) (by omega)
      have f1 := hrow.frozen (a + k)
      have f2 := hrow.frozen (b + k)
      have hak : a + k < N := by omega
      have hbk : b + k < N := by omega
      have hakI : (a : Int) + (k : Int) < (N : Int) := by omega
      have hbkI : (b : Int) + (k : Int) < (N : Int) := by omega
      have ta : ((a : Int) + (k : Int)).toNat = a + k := by omega
      have tb : ((b : Int) + (k : Int)).toNat = b + k := by omega
      unfold nums at c1 c2
      have hnab : a + k ≠ b + k := by omega
      have hnba : b + k ≠ a + k := by omega
      have HNEW : Hid (((wr.setCell ⟨g, a + k, none⟩ (.int .i64 (swp a b k f (b + k)))).setCell ⟨g, b + k, none⟩ (.int .i64 (swp a b k f (a + k)))).drew.rowIs g 3 N (nums (swp a b (k + 1) f))) := by
        refine (nums_set2 hrow (a + k) (b + k) (swp a b k f (b + k)) (swp a b k f (a + k))).congr fun p _ => ?_
        unfold nums
        rw [swp_succ (by omega)]
      have HO := hideIt ((honly.set (a + k) (.int .i64 (swp a b k f (b + k)))).set (b + k) (.int .i64 (swp a b k f (a + k)))).drew
      clear hrow honly
      go_wp2_with fail
      go_region
      all_goals
        go_wp2_with fail
        go_roundw
        case rel => exact ⟨k + 1, by omega, by go_num, HNEW.out, HO.out⟩
        case measure => simp [intOf]; omega
    · obtain rfl : k = n := by omega
      go_wp2_with fail
      refine ⟨rfl, .tuple #[], results_none rfl _ _ _, rfl, hrow, honly⟩

set_option maxRecDepth 100000 in
set_option maxHeartbeats 4000000 in
theorem rotate_any (g N cap : Nat) (f : Nat → Int) (a m b : Nat) (cf : Value) (w : World) (h : w.rowIs g 3 N (nums f)) (h1 : a < m) (h2 : m < b) (h3 : b ≤ N) (hN : N ≤ 1099511627776) :
    Calls Try.prog 127 #[.slice (some ⟨g, 0, none⟩) N cap, .int .i64 a, .int .i64 m, .int .i64 b, cf] w fun e w' => e = .returned (.tuple #[]) ∧ w'.rowIs g 3 N (nums (rot a m b f)) ∧ Sw g w w' := by
  have HR := hideIt h
  clear h
  have i0 : (m : Int) - (a : Int) = ((m - a : Nat) : Int) := by omega
  have j0 : (b : Int) - (m : Int) = ((b - m : Nat) : Int) := by omega
  go_enter Try.func127, Try.ntmps127
  go_wp2_with fail
  go_loopw [10, 11] (fun vi vj wr => ∃ (s i j : Nat) (fk : Nat → Int), vi = .int .i64 i ∧ vj = .int .i64 j ∧ 0 < i ∧ 0 < j ∧ Hid (s + i = m) ∧ i ≤ m ∧ m + j ≤ b ∧ Hid (∀ p, rot s (s + i) (s + i + j) fk p = rot a m b f p) ∧ wr.rowIs g 3 N (nums fk) ∧ Sw g w wr) (fun vi vj _ => (intOf vi).toNat + (intOf vj).toNat)
  case atStart => exact ⟨a, m - a, b - m, f, by go_num, by go_num, by omega, by omega, (by rw [Hid]; omega), by omega, by omega, (fun p => by rw [show a + (m - a) = m by omega, show m + (b - m) = b by omega]), HR.out, Sw.refl _ _⟩
  case round =>
    obtain ⟨s, i, j, fk, rfl, rfl, hi, hj, HS, him, hjb, HT, hrow, hsw⟩ := hrel
    have HROW := hideIt hrow
    have HSW := hideIt hsw
    clear hrow hsw i0 j0
    have es : (m : Int) - (i : Int) = (s : Int) := by have := HS.out; omega
    by_cases e : i = j
    · have q : ((i : Int) != (j : Int)) = false := by rw [e]; simp
      have HE := hideIt e
      clear e
      go_wp2_with fail
      refine (swapRange_any g N cap fk s m i cf wr HROW.out (by have := HS.out; omega) (by have := HE.out; omega) (Or.inl (by have := HS.out; omega)) hN).mono ?_
      rintro e w1 ⟨rfl, hr1, hs1⟩
      go_wp2_with fail
      refine ⟨rfl, .tuple #[], results_none rfl _ _ _, rfl, hr1.congr fun p _ => ?_, HSW.out.trans hs1⟩
      unfold nums
      rw [← HT.out p, ← HS.out, ← HE.out, rot_same]
    · have q : ((i : Int) != (j : Int)) = true := by rw [bne_iff_ne]; omega
      have HE := hideIt e
      clear e
      by_cases c : j < i
      · have c' : (j : Int) < (i : Int) := by omega
        have es2 : (i : Int) - (j : Int) = ((i - j : Nat) : Int) := by omega
        have HT2 : Hid (∀ p, rot (s + j) (s + j + (i - j)) (s + j + (i - j) + j) (swp s m j fk) p = rot a m b f p) := fun p => by
          rw [← HT.out p, ← rot_more c hj fk p, ← HS.out, show s + j + (i - j) = s + i by omega]
        go_wp2_with fail
        refine (swapRange_any g N cap fk s m j cf wr HROW.out (by have := HS.out; omega) (by omega) (Or.inl (by have := HS.out; omega)) hN).mono ?_
        rintro e w1 ⟨rfl, hr1, hs1⟩
        go_wp2_with fail
        go_roundw
        case rel => exact ⟨s + j, i - j, j, swp s m j fk, by go_num, by go_num, by omega, hj, (by have := HS.out; rw [Hid]; omega), by omega, hjb, HT2, hr1, HSW.out.trans hs1⟩
        case measure => simp [intOf]; omega
      · have c' : ¬ (j : Int) < (i : Int) := by omega
        have es2 : (j : Int) - (i : Int) = ((j - i : Nat) : Int) := by have := HE.out; omega
        have es3 : (m : Int) + (j : Int) - (i : Int) = ((s + j : Nat) : Int) := by have := HS.out; omega
        have HT2 : Hid (∀ p, rot s (s + i) (s + i + (j - i)) (swp s (s + j) i fk) p = rot a m b f p) := fun p => by
          have := HE.out
          rw [← HT.out p, ← rot_less (show i < j by omega) hi fk p, show s + i + (j - i) = s + j by omega]
        go_wp2_with fail
        refine (swapRange_any g N cap fk s (s + j) i cf wr HROW.out (by have := HS.out; omega) (by have := HS.out; omega) (Or.inl (by have := HE.out; omega)) hN).mono ?_
        rintro e w1 ⟨rfl, hr1, hs1⟩
        go_wp2_with fail
        go_roundw
        case rel => exact ⟨s, i, j - i, swp s (s + j) i fk, by go_num, by go_num, hi, by have := HE.out; omega, HS, him, by omega, HT2, hr1, HSW.out.trans hs1⟩
        case measure => simp [intOf]; omega
end Go.Proofs.Ytpfnkpkcjefelaa
