/-
  append of a slice that came in, nil or not, onto a row of one's own: what the row is then, and where it lies.
-/
import Derived.Test.YtpfnkpkcjefelaaNest
import Derived.Maps.AppendAt
import Derived.Laws.OwnMore
import Derived.Test.YtpfnkpkcjefelaaStbS
import Derived.Test.YtpfnkpkcjefelaaPsZ
import Derived.Test.YtpfnkpkcjefelaaStbQ
namespace Go.Proofs.Ytpfnkpkcjefelaa
open Go.RowKit
set_option linter.unusedSimpArgs false
set_option linter.unusedVariables false

theorem run_append_none_any {P : Program} {w : World} (base : Nat) (t ty e : TypeId) (i : TypeInfo) (size c : Nat) (ht : P.underlying t = some (.slice e)) (hi : P.info? e = some i)
    (v : Value) (n : Nat) (xs : List Value) (hown : w.ownsRow base e size v n xs) :
    (Builtin.append_ #[t, t] ty #[v, .slice none 0 c]).run P w = .ok v w := by
  rcases hown.2 with ⟨rfl, rfl⟩ | ⟨g, cap, cur, rfl, _, _, hnc, _⟩
  · simp [Builtin.append_, run_underlying ht, sizeOf, typeInfo, hi, Builtin.lenOf, Builtin.firstCells]
  · simp [Builtin.append_, run_underlying ht, sizeOf, typeInfo, hi, Builtin.lenOf, Builtin.firstCells, hnc, storeCells]

theorem wpList_append_src {P : Program} {w : World} {ops : Array Oper} {rest : List Oper} {o : Oper} {a : Act} {Q : Exit → Act → World → Prop} (hgd : o.guard = none) (s x : Operand) (t : TypeId)
    (ho : o.op = .call { callee := .builtin .append, args := #[s, x], argTypes := #[t, t] })
    (base : Nat) (e : TypeId) (i : TypeInfo) (z : Value) (size bytes : Nat) (ht : P.underlying t = some (.slice e)) (hi : P.info? e = some i) (hz : i.zero = some z)
    (hsize : i.size = size) (hby : i.bytes = bytes) (hzs : z.cells.size = size) (hsz : 0 < size)
    (v : Value) (n : Nat) (xs : List Value) (hs : a.eval s = v) (hown : w.ownsRow base e size v n xs)
    (ax : Option Addr) (m c : Nat) (news : List Value) (hx : a.eval x = .slice ax m c) (hl : news.length = m * size) (hsrc : 0 < m → ∃ ad, ax = some ad ∧ ∀ j u, news[j]? = some u → w.cell? (ad.add j) = some u) (h1 : ∀ u ∈ news, u.oneCell' = true)
    (h63 : n + m ≤ maxLen) (hbytes : (n + m) * bytes ≤ 140737488355328) (hbase : base ≤ w.heap.size)
    (h : ∀ v' w', w'.ownsRow base e size v' (n + m) (xs ++ news) → w.grownBy w' v.ownBlock → (v'.ownBlock = v.ownBlock ∨ v'.ownBlock = some w.heap.size) → wpList P ops Q rest (a.put o.dst v') w') : wpList P ops Q (o :: rest) a w := by
  rcases Nat.eq_zero_or_pos m with e0 | e0
  · subst e0
    obtain rfl : news = [] := List.eq_nil_of_length_eq_zero (by simpa using hl)
    cases ax with
    | none =>
      refine wpList_plain hgd fun K hK => ?_
      have hrun := run_append_none_any (P := P) (w := w) base t o.type e i size c ht hi v n xs hown
      unfold Oper.wp
      simp [execOp, ho, resolve, invoke, builtin, hs, hx, hrun, Result.andThen]
      exact hK _ _ (h v w (by simpa using hown) ⟨rfl, rfl, rfl, Nat.le_refl _, fun _ _ _ => rfl⟩ (Or.inl rfl))
    | some ad =>
      exact wpList_append_own_at w hgd s x t ho base e i z size bytes ht hi hz hsize hby hzs hsz v n xs hs hown ad 0 c [] hx hl (fun j u hj => by simp at hj) h1 h63 hbytes hbase (fun v' w' h2 h3 _ h5 => h v' w' h2 h3 h5)
  · obtain ⟨ad, rfl, hc⟩ := hsrc e0
    exact wpList_append_own_at w hgd s x t ho base e i z size bytes ht hi hz hsize hby hzs hsz v n xs hs hown ad m c news hx hl hc h1 h63 hbytes hbase (fun v' w' h2 h3 _ h5 => h v' w' h2 h3 h5)
end Go.Proofs.Ytpfnkpkcjefelaa

/-
  All blocks from one on are kept. No walk.
-/
namespace Go.Proofs.Ytpfnkpkcjefelaa
open Go.RowKit
set_option linter.unusedSimpArgs false
set_option linter.unusedVariables false

/-- All blocks from base on are as they were. -/
def From (base : Nat) (w w' : World) : Prop := w.heap.size ≤ w'.heap.size ∧ ∀ c, base ≤ c → c < w.heap.size → w'.heap[c]? = w.heap[c]?
theorem From.below {base : Nat} {a w w' : World} (h : From base a w) (hb : Below w.heap.size w w') : From base a w' :=
  ⟨Nat.le_trans h.1 hb.size, fun c h1 h2 => (hb.block c (by have := h.1; omega)).trans (h.2 c h1 h2)⟩
theorem From.refl (base : Nat) (w : World) : From base w w := ⟨Nat.le_refl _, fun _ _ _ => rfl⟩
theorem From.mono {base base' : Nat} {w w' : World} (h : From base w w') (hb : base ≤ base') : From base' w w' := ⟨h.1, fun c h1 h2 => h.2 c (by omega) h2⟩

theorem own_from {w w' : World} {base e s n : Nat} {v : Value} {xs : List Value} (h : w.ownsRow base e s v n xs) (hf : From base w w') : w'.ownsRow base e s v n xs := by
  refine ⟨h.1, ?_⟩
  rcases h.2 with hn | ⟨g, cap, cur, rfl, hg, hgg, rest⟩
  · exact .inl hn
  · exact .inr ⟨g, cap, cur, rfl, hg, (hf.2 g hg (h.lt g rfl).2).trans hgg, rest⟩

end Go.Proofs.Ytpfnkpkcjefelaa

/-
  One node alone, in new memory.
-/
namespace Go.Proofs.Ytpfnkpkcjefelaa
open Go.RowKit
set_option linter.unusedSimpArgs false
set_option linter.unusedVariables false

def leafN (kind n : Int) (s : ByteArray) : List VN := [{ kind := kind, n := n, s := s, keys := [], kids := [] }]

theorem leaf_nest (w : World) (kind n : Int) (s : ByteArray) : Nest w.heap.size (w.alloc (.cells #[.int .i64 kind, .int .i64 n, .string s, .slice none 0 0, .slice none 0 0] 41)) (.slice (some ⟨w.heap.size, 0, none⟩) 1 1) (leafN kind n s) (fun _ => .slice none 0 0) (fun _ => .slice none 0 0) := by
  refine ⟨?_, fun i hi => ?_, fun i hi => ?_, fun i j hi hj hne => ?_, fun i j hi hj hne => ?_⟩
  · have := World.ownsRow_lit (base := w.heap.size) (e := 41) (size := 5) w #[.int .i64 kind, .int .i64 n, .string s, .slice none 0 0, .slice none 0 0] 1 (Nat.le_refl _) (by simp [maxLen]) rfl
    have eu : upd (fun _ => Value.slice none 0 0) 0 (.slice none 0 0) = fun _ => .slice none 0 0 := by funext i; unfold upd; split <;> rfl
    have e : nestCells (leafN kind n s) (fun _ => .slice none 0 0) (fun _ => .slice none 0 0) = [.int .i64 kind, .int .i64 n, .string s, .slice none 0 0, .slice none 0 0] := by
      have h := nestCells_snoc [] { kind := kind, n := n, s := s, keys := [], kids := [] } (fun _ => .slice none 0 0) (fun _ => .slice none 0 0) (.slice none 0 0) (.slice none 0 0)
      simp only [List.length_nil, eu, List.nil_append] at h
      exact h
    rw [e]
    exact this
  · obtain rfl : i = 0 := by simp [leafN] at hi; omega
    exact World.ownsRow_nil _ _ _ _
  · obtain rfl : i = 0 := by simp [leafN] at hi; omega
    exact World.ownsRow_nil _ _ _ _
  · simp [leafN] at hi hj; omega
  · simp [leafN] at hi hj; omega
end Go.Proofs.Ytpfnkpkcjefelaa

/-
  slices' insertionSort at rows of numbers, with the closure of sortedPlaces.
-/
namespace Go.Proofs.Ytpfnkpkcjefelaa
open Go.RowKit
set_option linter.unusedSimpArgs false
set_option linter.unusedVariables false

/-- What is asked of a sort of [a, b): the cells stand in the order of their numbers. -/
structure AskedI (R : Int → Int → Prop) (cf : Int → Int → Int) (g N : Nat) (w0 : World) (c1 c2 : Value) (f : Nat → Int) (a b : Nat) (w : World) : Prop where
  tot : Tot R
  cmp : CmpAt g N w0 c1 c2 cf
  cr : ∀ x y : Int, x < y → (cf y x < 0 ↔ R y x)
  row : w.rowIs g 3 N (nums f)
  sw : Sw g w0 w
  val : NumsIn f N
  ab : a ≤ b
  bN : b ≤ N
  NN : N ≤ 1099511627776
  up : ∀ p q, a ≤ p → p < q → q < b → f p < f q

/-- One more has been put into its place. -/
theorem ins_step {R : Int → Int → Prop} (hR : Tot R) {f fk : Nat → Int} {a i j : Nat} (h1 : a ≤ j) (h2 : j ≤ i) (hm : Merged R f fk a i) (hfi : ∀ p, i ≤ p → fk p = f p)
    (hbig : ∀ p, j ≤ p → p < i → R (f i) (fk p)) (hlow : a < j → R (fk (j - 1)) (f i)) : Merged R f (rot j i (i + 1) fk) a (i + 1) := by
  have hl : ∀ p, a ≤ p → p < j → R (fk p) (f i) := fun p hp hpj => by
    have := hlow (by omega)
    by_cases e : p = j - 1
    · rw [e]; exact this
    · exact hR.tr _ _ _ (hm.ris p (j - 1) hp (by omega) (by omega)) this
  have m2 : Merged R fk (rot j i (i + 1) fk) a (i + 1) := merged_2 h1 h2 (by omega) hm.ris (fun p q h1 h2 h3 => by omega) (fun p q h3 h4 h5 h6 => by
      obtain rfl : q = i := by omega
      rw [hfi q (Nat.le_refl _)]; exact hl p h3 h4) (fun p q h3 h4 h5 h6 => by
      obtain rfl : q = i := by omega
      rw [hfi q (Nat.le_refl _)]; exact hbig p h3 h4)
  refine ⟨fun p hp => ?_, fun p h3 h4 => ?_, m2.ris⟩
  · rw [m2.out p hp]
    rcases hp with c | c
    · exact hm.out p (Or.inl c)
    · exact hfi p (by omega)
  · obtain ⟨q, q1, q2, q3⟩ := m2.inn p h3 h4
    by_cases c : q < i
    · obtain ⟨r, r1, r2, r3⟩ := hm.inn q q1 c
      exact ⟨r, r1, by omega, by rw [q3, r3]⟩
    · exact ⟨q, q1, q2, by rw [q3, hfi q (by omega)]⟩

set_option maxRecDepth 100000 in
set_option maxHeartbeats 6400000 in
theorem insertion_any (R : Int → Int → Prop) (cf : Int → Int → Int) (g N cap : Nat) (w0 : World) (c1 c2 : Value) (f : Nat → Int) (a b : Nat) (w : World) (h : AskedI R cf g N w0 c1 c2 f a b w) :
    Calls Try.prog 125 #[.slice (some ⟨g, 0, none⟩) N cap, .int .i64 a, .int .i64 b, .func (.func 116) #[] #[c1, c2]] w fun e w' => e = .returned (.tuple #[]) ∧ ∃ f', w'.rowIs g 3 N (nums f') ∧ Merged R f f' a b ∧ Sw g w0 w' := by
  have H := hideIt h
  have hab := h.ab
  have hbN := h.bN
  have hNN := h.NN
  clear h
  go_enter Try.func125, Try.ntmps125
  go_wp2_with fail
  go_loopw [8] (fun vi wr => ∃ (i : Nat) (fk : Nat → Int), vi = .int .i64 i ∧ a < i ∧ i ≤ b + 1 ∧ wr.rowIs g 3 N (nums fk) ∧ Hid (Merged R f fk a (min i b)) ∧ Hid (∀ p, min i b ≤ p → fk p = f p) ∧ Sw g w0 wr) (fun vi _ => b + 1 - (intOf vi).toNat)
  case atStart =>
    refine ⟨a + 1, f, by go_num, by omega, by omega, H.out.row, merged_self fun p q h1 h2 h3 => ?_, fun p _ => rfl, H.out.sw⟩
    exfalso; omega
  case round =>
    obtain ⟨i, fk, rfl, hai, hib, hrow, HM, HF, hsw⟩ := hrel
    by_cases hlt : i < b
    case neg =>
      have hmin : min i b = b := by omega
      rw [hmin] at HM
      go_wp2_with fail
      exact ⟨rfl, .tuple #[], results_none rfl _ _ _, rfl, fk, hrow, HM.out, hsw⟩
    case pos =>
    have hmin : min i b = i := by omega
    rw [hmin] at HM HF
    clear hmin
    obtain ⟨W0, rfl⟩ : ∃ W0, W0 = wr := ⟨_, rfl⟩
    have HROW := hideIt hrow
    have HSW := hideIt hsw
    have HV := hideIt (HM.out.vals H.out.val (by omega))
    clear hrow hsw
    go_wp2_with fail
    go_loopw [9] (fun vj wr => ∃ j : Nat, vj = .int .i64 j ∧ a ≤ j ∧ j ≤ i ∧ wr.rowIs g 3 N (nums (rot j i (i + 1) fk)) ∧ Hid (∀ p, j ≤ p → p < i → R (f i) (fk p)) ∧ Sw g w0 wr) (fun vj _ => (intOf vj).toNat)
    case atStart => exact ⟨i, rfl, by omega, Nat.le_refl _, HROW.out.congr fun p _ => by unfold nums; rw [rot_none (Or.inl rfl) (Nat.le_refl _) (by omega)], fun p h1 h2 => absurd h1 (by omega), HSW.out⟩
    case round =>
      obtain ⟨j, rfl, haj, hji, hrow, HB, hsw⟩ := hrel
      by_cases hja : a < j
      case neg =>
        obtain rfl : j = a := by omega
        have hd : decide ((j : Int) < (j : Int)) = false := by simp
        have HM2 := hideIt (ins_step H.out.tot (Nat.le_refl _) hji HM.out HF.out HB.out (fun h => absurd h (by omega)))
        have HF2 : Hid (∀ p, i + 1 ≤ p → rot j i (i + 1) fk p = f p) := fun p hp => by rw [rot_lo (by omega) hji (by omega)]; exact HF.out p (by omega)
        have hjj : ¬ (j : Int) < (j : Int) := by omega
        go_wp2_with fail
        go_quiet (fail)
        go_wp2_with fail
        go_roundw
        case rel =>
          refine ⟨i + 1, rot j i (i + 1) fk, by go_num, by omega, by omega, hrow, ?_, ?_, hsw.drewN nq⟩
          · rw [show min (i + 1) b = i + 1 by omega]; exact HM2
          · rw [show min (i + 1) b = i + 1 by omega]; exact HF2
        case measure => simp [intOf]; omega
      case pos =>
      obtain ⟨z, hz⟩ : ∃ z, j = z + 1 := ⟨j - 1, by omega⟩
      have e1 : (j : Int) - 1 = (z : Int) := by omega
      have hjN : j < N := by omega
      have hzN : z < N := by omega
      have q1 := hrow.cell (i := j) hjN
      have q2 := hrow.cell (i := z) hzN
      have f1 := hrow.frozen j
      have f2 := hrow.frozen z
      unfold nums at q1 q2
      have HEJ : Hid (rot j i (i + 1) fk j = f i) := by rw [Hid, rot_1 (Nat.le_refl _) (by omega), show i + (j - j) = i by omega]; exact HF.out i (Nat.le_refl _)
      have HEZ : Hid (rot j i (i + 1) fk z = fk z) := by rw [Hid, rot_lo (by omega) hji (by omega)]
      rw [HEJ.out] at q1
      rw [HEZ.out] at q2
      obtain ⟨v11, v12⟩ := H.out.val i (by omega)
      obtain ⟨v21, v22⟩ := HV.out z hzN
      have HLT : Hid (fk z < f i) := by
        obtain ⟨r, r1, r2, r3⟩ := HM.out.inn z (by omega) (by omega)
        rw [Hid, r3]
        exact H.out.up r i r1 (by omega) hlt
      have HCR := hideIt (H.out.cr (fk z) (f i) HLT.out)
      have hjaI : (a : Int) < (j : Int) := by omega
      have hdec : decide ((a : Int) < (j : Int)) = true := by simp; omega
      by_cases hc : cf (f i) (fk z) < 0
      case pos =>
        have hne1 : j ≠ z := by omega
        have hne2 : z ≠ j := by omega
        have HNEW : Hid (∀ W : World, W.rowIs g 3 N (nums (rot j i (i + 1) fk)) → ((W.setCell ⟨g, j, none⟩ (.int .i64 (fk z))).setCell ⟨g, z, none⟩ (.int .i64 (f i))).drew.rowIs g 3 N (nums (rot z i (i + 1) fk))) := fun W hW => by
          refine (nums_set2 hW j z (fk z) (f i)).congr fun p _ => ?_
          unfold nums
          have d := rot_down (show z + 1 ≤ i by omega) fk p
          rw [← hz, HEJ.out, HEZ.out] at d
          rw [← d]
        have HB2 : Hid (∀ p, z ≤ p → p < i → R (f i) (fk p)) := fun p h1 h2 => by
          by_cases e : p = z
          · rw [e]; exact HCR.out.1 hc
          · exact HB.out p (by omega) h2
        have HZ := hideIt hz
        have HR1 := hideIt hrow
        have HS1 := hideIt hsw
        clear hz hrow hsw
        go_wp2_with fail
        go_quiet ((go_at_call 116; exact Calls.quiet_of (H.out.cmp _ (HS1.out.drewN _) (f i) (fk z) v11 v12 v21 v22)))
        have q1' : (wr.drewN nq).cell? ⟨g, j, none⟩ = some (.int .i64 (f i)) := q1
        have q2' : (wr.drewN nq).cell? ⟨g, z, none⟩ = some (.int .i64 (fk z)) := q2
        have f1' : (wr.drewN nq).frozen? ⟨g, j, none⟩ = false := f1
        have f2' : (wr.drewN nq).frozen? ⟨g, z, none⟩ = false := f2
        have HR2 : Hid ((wr.drewN nq).rowIs g 3 N (nums (rot j i (i + 1) fk))) := HR1.out
        have HS2 := hideIt (HS1.out.drewN nq)
        generalize wr.drewN nq = W1 at q1' q2' f1' f2' HR2 HS2 ⊢
        clear q1 q2 f1 f2
        have HN1 := hideIt (HNEW.out W1 HR2.out)
        have HO := hideIt ((HS2.out.set j (.int .i64 (fk z))).set z (.int .i64 (f i))).drew
        go_wp2_with fail
        go_region
        all_goals
          go_wp2_with fail
          go_roundw
          case rel => exact ⟨z, by go_num, by have := HZ.out; omega, by have := HZ.out; omega, HN1.out, HB2, HO.out⟩
          case measure => have := HZ.out; simp [intOf]; omega
      case neg =>
        have HM2 : Hid (Merged R f (rot j i (i + 1) fk) a (i + 1)) := ins_step H.out.tot haj hji HM.out HF.out HB.out (fun _ => by
          rw [show j - 1 = z by omega]
          exact not_ahead H.out.tot HLT.out (fun hr => hc (HCR.out.2 hr)))
        have HF2 : Hid (∀ p, i + 1 ≤ p → rot j i (i + 1) fk p = f p) := fun p hp => by rw [rot_lo (by omega) hji (by omega)]; exact HF.out p (by omega)
        have hcd : decide (cf (f i) (fk z) < 0) = false := by simp; omega
        have HR1 := hideIt hrow
        have HS1 := hideIt hsw
        have HZ := hideIt hz
        clear hz hrow hsw
        go_wp2_with fail
        go_quiet ((go_at_call 116; exact Calls.quiet_of (H.out.cmp _ (HS1.out.drewN _) (f i) (fk z) v11 v12 v21 v22)))
        go_wp2_with fail
        go_roundw
        case rel =>
          refine ⟨i + 1, rot j i (i + 1) fk, by go_num, by omega, by omega, HR1.out, ?_, ?_, HS1.out.drewN nq⟩
          · rw [show min (i + 1) b = i + 1 by omega]; exact HM2
          · rw [show min (i + 1) b = i + 1 by omega]; exact HF2
        case measure => simp [intOf]; omega
end Go.Proofs.Ytpfnkpkcjefelaa

/-
  slices' stable sort at rows of numbers that rise, with the closure of sortedPlaces.
-/
namespace Go.Proofs.Ytpfnkpkcjefelaa
open Go.RowKit
set_option linter.unusedSimpArgs false
set_option linter.unusedVariables false

theorem symMerge_any (R : Int → Int → Prop) (cf : Int → Int → Int) (g N cap : Nat) (w0 : World) (c1 c2 : Value) : ∀ (k : Nat) (f : Nat → Int) (a m b : Nat) (w : World), b - a ≤ k → Asked R cf g N w0 c1 c2 f a m b w → MergeOk R cf g N cap w0 c1 c2 f a m b w := by
  intro k
  induction k with
  | zero => intro f a m b w hk h; have := h.am; have := h.mb; omega
  | succ k ih =>
    intro f a m b w hk h
    have h1 := h.am
    have h2 := h.mb
    by_cases e1 : m = a + 1
    · exact symMerge_1 R cf g N cap w0 c1 c2 f a m b w h e1
    · by_cases e2 : b = m + 1
      · exact symMerge_2 R cf g N cap w0 c1 c2 f a m b w h (by omega) e2
      · exact symMerge_3 R cf g N cap w0 c1 c2 f a m b w h (by omega) (by omega) (fun f' a' m' b' w' hlt ha => ih f' a' m' b' w' (by omega) ha)

/-- What is asked of the sort: the numbers rise. -/
structure AskedS (R : Int → Int → Prop) (cf : Int → Int → Int) (g N : Nat) (w0 : World) (c1 c2 : Value) (f : Nat → Int) (w : World) : Prop where
  tot : Tot R
  cmp : CmpAt g N w0 c1 c2 cf
  cr : ∀ x y : Int, x < y → (cf y x < 0 ↔ R y x)
  row : w.rowIs g 3 N (nums f)
  sw : Sw g w0 w
  val : NumsIn f N
  NN : N ≤ 1048576
  up : ∀ p q, p < q → q < N → f p < f q

/-- Between two blocks: ahead of a all blocks are done, from a on nothing is. -/
theorem ins_block {R : Int → Int → Prop} {f fk fk' : Nat → Int} {a b : Nat} (he : ∀ p, a ≤ p → fk p = f p) (hm : Merged R fk fk' a b) : Blk R f fk' a b := by
  refine ⟨fun p h1 h2 => ?_, hm.ris⟩
  obtain ⟨q, q1, q2, q3⟩ := hm.inn p h1 h2
  exact ⟨q, q1, q2, by rw [q3, he q q1]⟩

theorem vals_of {R : Int → Int → Prop} {f fk : Nat → Int} {N : Nat} (hv : NumsIn f N) (h : ∀ p, p < N → ∃ q, q < N ∧ fk p = f q) : NumsIn fk N := fun p hp => by
  obtain ⟨q, q1, q2⟩ := h p hp
  rw [q2]; exact hv q q1

set_option maxRecDepth 100000 in
set_option maxHeartbeats 8000000 in
theorem stable_any (R : Int → Int → Prop) (cf : Int → Int → Int) (g N cap : Nat) (w0 : World) (c1 c2 : Value) (f : Nat → Int) (w : World) (h : AskedS R cf g N w0 c1 c2 f w) :
    Calls Try.prog 122 #[.slice (some ⟨g, 0, none⟩) N cap, .int .i64 N, .func (.func 116) #[] #[c1, c2]] w fun e w' => e = .returned (.tuple #[]) ∧ ∃ f', w'.rowIs g 3 N (nums f') ∧ Blk R f f' 0 N ∧ Sw g w0 w' := by
  have H := hideIt h
  have hNN := h.NN
  clear h
  go_enter Try.func122, Try.ntmps122
  go_wp2_with fail
  go_loopw [7, 8] (fun va vb wr => ∃ (a b : Nat) (fk : Nat → Int), va = .int .i64 a ∧ vb = .int .i64 b ∧ Hid (b = a + 20) ∧ a ≤ b ∧ b ≤ a + 20 ∧ Hid (20 ∣ a) ∧ a ≤ N ∧ wr.rowIs g 3 N (nums fk) ∧ Hid (Upto R f fk 20 a) ∧ Hid (∀ p, a ≤ p → fk p = f p) ∧ Hid (∀ p, p < N → ∃ q, q < N ∧ fk p = f q) ∧ Sw g w0 wr) (fun va _ _ => N - (intOf va).toNat)
  case atStart => exact ⟨0, 20, f, rfl, rfl, rfl, by omega, by omega, Nat.dvd_zero _, Nat.zero_le _, H.out.row, fun x _ h => absurd h (by omega), fun p _ => rfl, fun p hp => ⟨p, hp, rfl⟩, H.out.sw⟩
  case round =>
    obtain ⟨a, b, fk, rfl, rfl, HB20, hab1, hab2, HD, haN, hrow, HU, HE, HI, hsw⟩ := hrel
    have HROW := hideIt hrow
    have HSW := hideIt hsw
    clear hrow hsw
    by_cases hle : b ≤ N
    case pos =>
      have HA : Hid (AskedI R cf g N w0 c1 c2 fk a b wr) := ⟨H.out.tot, H.out.cmp, H.out.cr, HROW.out, HSW.out, vals_of (R := R) H.out.val HI.out, by omega, hle, by omega, fun p q h1 h2 h3 => by rw [HE.out p h1, HE.out q (by omega)]; exact H.out.up p q h2 (by omega)⟩
      go_wp2_with fail
      refine (insertion_any R cf g N cap w0 c1 c2 fk a b wr HA.out).mono ?_
      rintro e w1 ⟨rfl, f1, hr1, hm1, hs1⟩
      have HU2 : Hid (Upto R f f1 20 b) := by
        rw [Hid, HB20.out]
        exact HU.out.snoc HD.out (by have := ins_block HE.out hm1; rw [HB20.out] at this; exact this) (fun p hp => hm1.out p (Or.inl hp))
      have HE2 : Hid (∀ p, b ≤ p → f1 p = f p) := fun p hp => by rw [hm1.out p (Or.inr hp)]; exact HE.out p (by omega)
      have HI2 : Hid (∀ p, p < N → ∃ q, q < N ∧ f1 p = f q) := fun p hp => by
        by_cases c : a ≤ p ∧ p < b
        · obtain ⟨q, q1, q2, q3⟩ := hm1.inn p c.1 c.2
          exact ⟨q, by omega, by rw [q3, HE.out q q1]⟩
        · rw [hm1.out p (by omega)]; exact HI.out p hp
      have HD2 : Hid (20 ∣ b) := by rw [Hid, HB20.out]; exact Nat.dvd_add HD.out (Nat.dvd_refl _)
      have HR1 := hideIt hr1
      have HS1 := hideIt hs1
      clear hr1 hm1 hs1
      go_wp2_with fail
      go_roundw
      case rel => exact ⟨b, b + 20, f1, rfl, by go_num, rfl, by omega, by omega, HD2, hle, HR1.out, HU2, HE2, HI2, HS1.out⟩
      case measure => have := HB20.out; simp [intOf]; omega
    case neg =>
    have HA : Hid (AskedI R cf g N w0 c1 c2 fk a N wr) := ⟨H.out.tot, H.out.cmp, H.out.cr, HROW.out, HSW.out, vals_of (R := R) H.out.val HI.out, haN, Nat.le_refl _, by omega, fun p q h1 h2 h3 => by rw [HE.out p h1, HE.out q (by omega)]; exact H.out.up p q h2 h3⟩
    have hle' : ¬ (b : Int) ≤ (N : Int) := by omega
    go_wp2_with fail
    refine (insertion_any R cf g N cap w0 c1 c2 fk a N wr HA.out).mono ?_
    rintro e w1 ⟨rfl, f1, hr1, hm1, hs1⟩
    have HFR : Hid (From2 R f f1 20 0 N) := pass_end (fun x hx hlt => (HU.out x hx hlt).kept (fun p h1 h2 => hm1.out p (Or.inl (by have := dvd_next hx HD.out hlt; omega)))) HD.out haN (by have := HB20.out; omega) (fun _ => ins_block HE.out hm1)
    have HI1 : Hid (∀ p, p < N → ∃ q, q < N ∧ f1 p = f q) := fun p hp => by
      by_cases c : a ≤ p ∧ p < N
      · obtain ⟨q, q1, q2, q3⟩ := hm1.inn p c.1 c.2
        exact ⟨q, by omega, by rw [q3, HE.out q q1]⟩
      · rw [hm1.out p (by omega)]; exact HI.out p hp
    have HR1 := hideIt hr1
    have HS1 := hideIt hs1
    clear hr1 hm1 hs1 HROW HSW HU HE HI HD HA hle hle'
    obtain ⟨W0, rfl⟩ : ∃ W0, W0 = wr := ⟨_, rfl⟩
    go_wp2_with fail
    go_loopw [6, 7, 8, 9] (fun vs _ _ _ wr => ∃ (s : Nat) (fk : Nat → Int), vs = .int .i64 s ∧ 20 ≤ s ∧ s ≤ 2 * N + 20 ∧ wr.rowIs g 3 N (nums fk) ∧ Hid (From2 R f fk s 0 N) ∧ Hid (∀ p, p < N → ∃ q, q < N ∧ fk p = f q) ∧ Sw g w0 wr) (fun vs _ _ _ _ => N - (intOf vs).toNat)
    case atStart => exact ⟨20, f1, rfl, Nat.le_refl _, by omega, HR1.out, HFR, HI1, HS1.out⟩
    case round =>
      obtain ⟨s, fk, rfl, hs20, hsN, hrow, HF, HI, hsw⟩ := hrel
      have HROW := hideIt hrow
      have HSW := hideIt hsw
      clear hrow hsw
      by_cases hlt : s < N
      case neg =>
        have HB : Hid (Blk R f fk 0 N) := by
          by_cases c : 0 < N
          · have := HF.out 0 (Nat.dvd_zero _) (Nat.le_refl _) c
            rw [show min (0 + s) N = N by omega] at this
            exact this
          · exact ⟨fun p h1 h2 => by omega, fun p q h1 h2 h3 => by omega⟩
        go_wp2_with fail
        exact ⟨rfl, .tuple #[], results_none rfl _ _ _, rfl, fk, HROW.out, HB.out, HSW.out⟩
      case pos =>
      obtain ⟨W1, rfl⟩ : ∃ W1, W1 = wr := ⟨_, rfl⟩
      obtain ⟨D, hD⟩ : ∃ D, D = 2 * s := ⟨_, rfl⟩
      have eD : 2 * (s : Int) = (D : Int) := by omega
      have eD2 : (s : Int) * 2 = (D : Int) := by omega
      have hD1 : s < D := by omega
      have hD2 : D ≤ 4 * N := by omega
      have HDS := hideIt hD
      clear hD
      go_wp2_with fail
      go_loopw [7, 8] (fun va vb wr => ∃ (a b : Nat) (fk : Nat → Int), va = .int .i64 a ∧ vb = .int .i64 b ∧ Hid (b = a + D) ∧ a ≤ b ∧ b ≤ a + D ∧ Hid (D ∣ a) ∧ a ≤ N ∧ wr.rowIs g 3 N (nums fk) ∧ Hid (Upto R f fk D a) ∧ Hid (From2 R f fk s a N) ∧ Hid (∀ p, p < N → ∃ q, q < N ∧ fk p = f q) ∧ Sw g w0 wr) (fun va _ _ => N - (intOf va).toNat)
      case atStart => exact ⟨0, D, fk, rfl, by go_num, by rw [Hid]; omega, by omega, by omega, Nat.dvd_zero _, Nat.zero_le _, HROW.out, fun x _ h => absurd h (by omega), HF, HI, HSW.out⟩
      case round =>
        clear HROW HSW HF HI
        obtain ⟨a, b, fk, rfl, rfl, HBD, hab1, hab2, HD, haN, hrow, HU, HF, HI, hsw⟩ := hrel
        have HROW := hideIt hrow
        have HSW := hideIt hsw
        clear hrow hsw
        obtain ⟨m, hm⟩ : ∃ m, m = a + s := ⟨_, rfl⟩
        have em : (a : Int) + (s : Int) = (m : Int) := by omega
        have ham : a < m := by omega
        have HMS := hideIt hm
        have HDA : Hid (s ∣ a) := Nat.dvd_trans ⟨2, by rw [HDS.out]; omega⟩ HD.out
        have HDM : Hid (s ∣ m) := by rw [Hid, HMS.out]; exact Nat.dvd_add HDA.out (Nat.dvd_refl _)
        have hmb : m + s = b := by have := HBD.out; have := HDS.out; omega
        have HMB := hideIt hmb
        have hmlt : m < b := by omega
        clear hm hmb
        have HB1 : Hid (a < N → m ≤ N → Blk R f fk a m) := fun h1 h2 => by
          have := HF.out a HDA.out (Nat.le_refl _) h1
          rw [show min (a + s) N = m by have := HMS.out; omega] at this
          exact this
        have HB2 : Hid (m < N → Blk R f fk m (min b N)) := fun h1 => by
          have := HF.out m HDM.out (by omega) h1
          rw [HMB.out] at this
          exact this
        have HV := hideIt (vals_of (R := R) H.out.val HI.out)
        by_cases hle : b ≤ N
        case pos =>
          have k1 := HB1.out (by omega) (by omega)
          have k2 := HB2.out (by omega)
          rw [show min b N = b by omega] at k2
          have HA : Hid (Asked R cf g N w0 c1 c2 fk a m b wr) := ⟨H.out.tot, H.out.cmp, H.out.cr, HROW.out, HSW.out, HV.out, ham, hmlt, hle, by omega, k1.2, k2.2, blk_cross H.out.up k1 k2 hle⟩
          have HK1 := hideIt k1
          have HK2 := hideIt k2
          clear k1 k2
          go_wp2_with fail
          refine (symMerge_any R cf g N cap w0 c1 c2 (b - a) fk a m b wr (Nat.le_refl _) HA.out).mono ?_
          rintro e w2 ⟨rfl, f2, hr2, hm2, hs2⟩
          have HU2 : Hid (Upto R f f2 D b) := by
            have hb := blk_merged HK1.out HK2.out hm2 (by omega) (by omega)
            rw [HBD.out] at hb
            rw [Hid, HBD.out]
            exact HU.out.snoc HD.out hb (fun p hp => hm2.out p (Or.inl hp))
          have HF2 : Hid (From2 R f f2 s b N) := by
            intro x hx h1 h2
            exact (HF.out x hx (by omega) h2).kept (fun p h3 h4 => hm2.out p (Or.inr (by omega)))
          have HI2 : Hid (∀ p, p < N → ∃ q, q < N ∧ f2 p = f q) := fun p hp => by
            by_cases c : a ≤ p ∧ p < b
            · obtain ⟨q, q1, q2, q3⟩ := hm2.inn p c.1 c.2
              rw [q3]; exact HI.out q (by omega)
            · rw [hm2.out p (by omega)]; exact HI.out p hp
          have HD2 : Hid (D ∣ b) := by rw [Hid, HBD.out]; exact Nat.dvd_add HD.out (Nat.dvd_refl _)
          have HR2 := hideIt hr2
          have HS2 := hideIt hs2
          clear hr2 hm2 hs2
          go_wp2_with fail
          go_roundw
          case rel => exact ⟨b, b + D, f2, rfl, by go_num, rfl, by omega, by omega, HD2, hle, HR2.out, HU2, HF2, HI2, HS2.out⟩
          case measure => simp [intOf]; omega
        case neg =>
        have hle' : ¬ (b : Int) ≤ (N : Int) := by omega
        by_cases hmN : m < N
        case pos =>
          have hmN' : (m : Int) < (N : Int) := by omega
          have k1 := HB1.out (by omega) (by omega)
          have k2 := HB2.out hmN
          rw [show min b N = N by omega] at k2
          have HA : Hid (Asked R cf g N w0 c1 c2 fk a m N wr) := ⟨H.out.tot, H.out.cmp, H.out.cr, HROW.out, HSW.out, HV.out, ham, hmN, Nat.le_refl _, by omega, k1.2, k2.2, blk_cross H.out.up k1 k2 (Nat.le_refl _)⟩
          have HK1 := hideIt k1
          have HK2 := hideIt k2
          clear k1 k2
          go_wp2_with fail
          refine (symMerge_any R cf g N cap w0 c1 c2 (N - a) fk a m N wr (Nat.le_refl _) HA.out).mono ?_
          rintro e w2 ⟨rfl, f2, hr2, hm2, hs2⟩
          have HF2 : Hid (From2 R f f2 D 0 N) := pass_end (fun x hx hlt => (HU.out x hx hlt).kept (fun p h1 h2 => hm2.out p (Or.inl (by have := dvd_next hx HD.out hlt; omega)))) HD.out haN (by have := HBD.out; omega) (fun _ => blk_merged HK1.out HK2.out hm2 (by omega) (by omega))
          have HI2 : Hid (∀ p, p < N → ∃ q, q < N ∧ f2 p = f q) := fun p hp => by
            by_cases c : a ≤ p ∧ p < N
            · obtain ⟨q, q1, q2, q3⟩ := hm2.inn p c.1 c.2
              rw [q3]; exact HI.out q (by omega)
            · rw [hm2.out p (by omega)]; exact HI.out p hp
          have HR2 := hideIt hr2
          have HS2 := hideIt hs2
          clear hr2 hm2 hs2
          go_wp2_with fail
          go_roundw
          case rel => exact ⟨D, f2, by go_num, by omega, by have := HDS.out; omega, HR2.out, HF2, HI2, HS2.out⟩
          case measure => simp [intOf]; omega
        case neg =>
          have hmN' : ¬ (m : Int) < (N : Int) := by omega
          have HF2 : Hid (From2 R f fk D 0 N) := pass_end HU.out HD.out haN (by have := HBD.out; omega) (fun h => by
            have := HF.out a HDA.out (Nat.le_refl _) h
            rw [show min (a + s) N = N by have := HMS.out; omega] at this
            exact this)
          go_wp2_with fail
          go_roundw
          case rel => exact ⟨D, fk, by go_num, by omega, by have := HDS.out; omega, HROW.out, HF2, HI, HSW.out⟩
          case measure => simp [intOf]; omega
end Go.Proofs.Ytpfnkpkcjefelaa
