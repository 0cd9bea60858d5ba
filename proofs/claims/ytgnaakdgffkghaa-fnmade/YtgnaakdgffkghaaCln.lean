/-
  impl.ListOf: as the specification's.
-/
import Derived.Test.YtgnaakdgffkghaaStbW
import Derived.Test.YtgnaakdgffkghaaStbD
import Derived.Test.YtgnaakdgffkghaaSParts
import Derived.Test.YtgnaakdgffkghaaGotP
import Derived.Test.YtgnaakdgffkghaaPsM
import Derived.Test.YtgnaakdgffkghaaProg
import Derived.Deep.OwnRows
import Derived.KernelRfl
import Derived.Deep.QuietTactic
import Derived.BigQuiet
import Derived.WalkSmall
import Derived.Deep.RegionWith
import Derived.Test.YtgnaakdgffkghaaSpc2
import Derived.Test.YtgnaakdgffkghaaBack
import Derived.Test.YtgnaakdgffkghaaSPart
import Derived.Test.YtgnaakdgffkghaaAppS
import Derived.Lib.SliceRun
namespace Go.Proofs.Ytgnaakdgffkghaa
open Go.RowKit
set_option linter.unusedSimpArgs false
set_option linter.unusedVariables false

theorem listNs_of {L : Nat → List VN} {m : Nat} (h : (allB L m && decide (m ≤ 80)) = true) : listNs L m = rightNs (makeNs 5 [] L m) ∧ listB L m = okB (makeNs 5 [] L m) := by
  have e : listB L m = okB (makeNs 5 [] L m) := by unfold listB; rw [h]; rfl
  refine ⟨?_, e⟩
  unfold listNs rightNs
  rw [e]

set_option maxRecDepth 100000 in
set_option maxHeartbeats 3200000 in
theorem implListOf_any (B : Nat) (u : Value) (m : Nat) (L : Nat → List VN) (w : World) (hu : RowsAt B w u m L) (hB : B ≤ w.heap.size) (hf : ∀ i, i < m → ∀ j, j < (L i).length → Fits (nodeAt (L i) j)) :
    Calls Try.prog 15 #[u] w fun e w' => ∃ r base KV IV, e = .returned (.tuple #[r, .bool (listB L m)]) ∧ w.heap.size ≤ base ∧ base ≤ w'.heap.size ∧ Nest base w' r (listNs L m) KV IV ∧ Below w.heap.size w w' := by
  have HU := hideIt hu
  obtain ⟨_, au, cu, rfl, _⟩ := hu
  have HLB : Hid (listB L m = (allB L m && decide (m ≤ 80) && okB (makeNs 5 [] L m))) := rfl
  have HLN : Hid (listNs L m = if listB L m = true then makeNs 5 [] L m else []) := rfl
  go_enter Try.func15, Try.ntmps15
  go_wp2_with fail
  refine (valuesOf_any B _ m L _ HU.out hB).mono ?_
  rintro e w1 ⟨v, V, lo, hi, rfl, hyes, hno, hb1⟩
  have z1 := hb1.size
  cases ok1 : (allB L m && decide (m ≤ 80))
  · obtain rfl := hno ok1
    clear hyes hno
    go_wp2_with fail
    go_ret2
    have hno : listB L m = false := by rw [HLB.out, ok1]; rfl
    exact ⟨.slice none 0 0, w.heap.size, fun _ => undef, fun _ => undef, by rw [hno]; rfl, Nat.le_refl _, z1, by rw [HLN.out, hno]; exact Nest.nil _ _ _ _, hb1⟩
  · have hv := hyes ok1
    have HLO := hideIt (listNs_of ok1)
    have hall : allB L m = true ∧ m ≤ 80 := by simpa using ok1
    have HOK := hideIt (allB_yes hall.1)
    have hm := hall.2
    have HNI := hideIt (make_nice hm HOK.out hf (kind := 5) (by omega) (by omega) (keys := []) (by simp) (fun i hi => absurd hi (by simp)))
    have HIT := hideIt (hv.items hB hm HOK.out)
    obtain ⟨av, cv, ev⟩ := own_slice hv.row
    subst ev
    have HTR : Hid (TreeAt w1.heap.size w1 81 (.mk 5 0 ByteArray.empty [] (kidsL L m)) (.iface 70 (.agg #[.slice av m cv]))) :=
      Or.inr (Or.inr (Or.inr (Or.inr (Or.inl ⟨rfl, rfl, rfl, rfl, _, rfl, HIT.out⟩))))
    have HLL := hideIt (lay_list 5 [] L m HOK.out)
    clear hyes hno hall hv
    go_wp2_with fail
    refine (rightNodes_any 81 (.mk 5 0 ByteArray.empty [] (kidsL L m)) _ (makeNs 5 [] L m) _ HTR.out HLL.out (by have := HNI.out.1; omega) (fun i hi => (HNI.out.2 i hi).1)).mono ?_
    rintro e w2 ⟨r, base, KV, IV, rfl, hb0, hb01, hn2, hb2⟩
    have HN2 := hideIt hn2
    obtain ⟨ar, cr, er⟩ := own_slice hn2.row
    obtain ⟨N, hN⟩ : ∃ N, (rightNs (makeNs 5 [] L m)).length = N := ⟨_, rfl⟩
    rw [hN] at er
    subst er
    have HB2 := hideIt (hb1.trans (hb2.mono z1))
    clear hn2 hb2 hN
    go_wp2_with fail
    go_ret2
    exact ⟨.slice ar N cr, base, KV, IV, by rw [HLO.out.2]; rfl, by omega, by omega, by rw [HLO.out.1]; exact HN2.out, HB2.out⟩
end Go.Proofs.Ytgnaakdgffkghaa

/-
  A list is of its parts, a map of its keys and its parts: plain mathematics.
-/
namespace Go.Proofs.Ytgnaakdgffkghaa
open Go.RowKit
set_option linter.unusedSimpArgs false
set_option linter.unusedVariables false

theorem shiftN_zero (x : VN) : shiftN 0 x = x := by cases x; simp [shiftN]
theorem shiftN_shiftN (a b : Int) (x : VN) : shiftN a (shiftN b x) = shiftN (a + b) x := by
  cases x
  simp only [shiftN, List.map_map]
  congr 1
  apply List.map_congr_left
  intro k _
  simp only [Function.comp]
  omega

/-- A part's nodes, laid from sh on. -/
theorem lay_at {vs : List VN} (hok : okB vs = true) {f m : Nat} (hf : m < f) (hm : m < vs.length) (sh : Nat) : layT f (treeOf vs f m) sh = (partOf vs m).map (shiftN (sh : Int)) := by
  obtain ⟨p1, _, p3, _⟩ := okB_parts hok
  obtain ⟨⟨a0, h0⟩, htr⟩ := p3 m hm
  have e : partOf vs m = run vs (-(a0 : Int)) a0 (m + 1 - a0) := by rw [partOf, htr]; simp [trF]
  rw [← lay_tree, lay_run vs f m sh a0 h0 hf htr, e]
  unfold run
  rw [List.map_map]
  apply List.map_congr_left
  intro k _
  simp only [Function.comp]
  rw [shiftN_shiftN]
  rfl

theorem lay_whole {vs : List VN} (hok : okB vs = true) : layT 81 (treeOf vs 81 (vs.length - 1)) 0 = vs := by
  obtain ⟨p1, _, _, _⟩ := okB_parts hok
  obtain ⟨h, htr⟩ := root_first hok
  rw [← lay_tree, lay_run vs 81 (vs.length - 1) 0 0 h (by omega) htr]
  have e : vs.length - 1 + 1 - 0 = vs.length := by omega
  rw [e]
  have e2 : (((0 : Nat) : Int) - ((0 : Nat) : Int)) = 0 := by omega
  rw [e2, run_all]
  have : (shiftN 0) = id := by funext x; exact shiftN_zero x
  rw [this, List.map_id]

def partTs (vs : List VN) : List VT := (rootKids vs).map fun k => treeOf vs 80 k.toNat

theorem cat_parts {vs : List VN} (hok : okB vs = true) : ∀ k, k ≤ (rootKids vs).length → accT 80 0 (partTs vs) k = catNs (PL vs) k ∧ ksT 80 0 (partTs vs) k = catKs (PL vs) k := by
  have hlen : (partTs vs).length = (rootKids vs).length := by simp [partTs]
  have p1 := (okB_parts hok).1
  intro k
  induction k with
  | zero => intro _; exact ⟨accT_zero _ _ _, ksT_zero _ _ _⟩
  | succ k ih =>
    intro hk
    obtain ⟨h1, h2⟩ := ih (by omega)
    have hlt : k < (partTs vs).length := by omega
    obtain ⟨q, hq, hql⟩ := root_kid hok (k := k) (by omega)
    have hkt : kidT (partTs vs) k = treeOf vs 80 q := by unfold partTs; rw [kidT_map (by omega), hq]; simp
    have hpl : PL vs k = partOf vs q := by unfold PL; rw [hq]; simp
    have e : accT 80 0 (partTs vs) (k + 1) = catNs (PL vs) (k + 1) := by
      rw [accT_succ 80 0 hlt, h1, hkt, lay_at hok (by omega) (by omega), Nat.zero_add, catNs, hpl]
    refine ⟨e, ?_⟩
    rw [ksT_succ 80 0 hlt, h2, e, Nat.zero_add]
    rfl

/-- A list or a map is made of its parts again. -/
theorem make_parts {vs : List VN} (hok : okB vs = true) (hk : (nodeAt vs (vs.length - 1)).kind = 5 ∨ (nodeAt vs (vs.length - 1)).kind = 6) : makeNs (nodeAt vs (vs.length - 1)).kind (nodeAt vs (vs.length - 1)).keys (PL vs) (rootKids vs).length = vs := by
  have hw := lay_whole hok
  rw [treeOf, layT_eq] at hw
  have hlen : (partTs vs).length = (rootKids vs).length := by simp [partTs]
  obtain ⟨c1, c2⟩ := cat_parts hok _ (Nat.le_refl _)
  have e1 : ((nodeAt vs (vs.length - 1)).kids.map fun k => treeOf vs 80 k.toNat) = partTs vs := rfl
  rw [e1, hlen, c1, c2] at hw
  have p1 := (okB_parts hok).1
  have hn := ((okB_parts hok).2.1 (vs.length - 1) (by omega)).1
  have hz : (nodeAt vs (vs.length - 1)).n = 0 ∧ (nodeAt vs (vs.length - 1)).s = ByteArray.empty := by
    unfold nodeB unnamedB at hn
    have es : ∀ s : ByteArray, s.toList = [] → s = ByteArray.empty := fun s h => by
      cases s with | mk d => rw [ByteArray.toList_eq] at h; simp at h; subst h; rfl
    simp only [Bool.and_eq_true, Bool.not_eq_true', Bool.and_eq_false_iff, decide_eq_false_iff_not, Decidable.not_not, Nat.not_lt, Nat.le_zero, List.length_eq_zero_iff] at hn
    obtain ⟨⟨⟨⟨n1, n2⟩, n3⟩, n4⟩, _⟩ := hn
    exact ⟨by omega, es _ (by rcases n2 with h | h; omega; exact h)⟩
  rw [hz.1, hz.2] at hw
  exact hw

theorem parts_ok {vs : List VN} (hok : okB vs = true) : allB (PL vs) (rootKids vs).length = true ∧ (rootKids vs).length ≤ 80 := by
  have p := okB_parts hok
  refine ⟨allB_of fun i hi => ?_, (keys_few hok (vs.length - 1) (by have := p.1; omega)).2.1⟩
  obtain ⟨q, hq, hql⟩ := root_kid hok hi
  have e : PL vs i = partOf vs q := by unfold PL; rw [hq]; simp
  rw [e]
  exact part_okB hok (by omega)

/-- A list is of its parts. -/
theorem list_parts {vs : List VN} (hok : okB vs = true) (hk : (nodeAt vs (vs.length - 1)).kind = 5) : listB (PL vs) (rootKids vs).length = true ∧ listNs (PL vs) (rootKids vs).length = vs := by
  have hm := make_parts hok (Or.inl hk)
  have p1 := (okB_parts hok).1
  have hn := ((okB_parts hok).2.1 (vs.length - 1) (by omega)).1
  have hz : (nodeAt vs (vs.length - 1)).keys = [] := by
    unfold nodeB unnamedB at hn
    simp only [Bool.and_eq_true, Bool.not_eq_true', Bool.and_eq_false_iff, decide_eq_false_iff_not, Decidable.not_not, Nat.not_lt, Nat.le_zero, List.length_eq_zero_iff] at hn
    obtain ⟨⟨⟨⟨n1, n2⟩, n3⟩, n4⟩, _⟩ := hn
    rcases n3 with h | h
    · omega
    · exact h
  rw [hk, hz] at hm
  obtain ⟨a1, a2⟩ := parts_ok hok
  have e : listB (PL vs) (rootKids vs).length = true := by unfold listB; rw [a1, hm, hok]; simp [a2]
  exact ⟨e, by unfold listNs; rw [if_pos e, hm]⟩

theorem rise_steps {l : List ByteArray} (h : riseB l = true) : ∀ p, p + 1 < l.length → lessB (keyAt l p) (keyAt l (p + 1)) = true := by
  intro p hp
  unfold riseB at h
  rw [List.all_eq_true] at h
  have := h (p + 1) (List.mem_range.2 hp)
  unfold riseAt at this
  simp only [Bool.and_eq_true, Bool.or_eq_true, decide_eq_true_eq] at this
  rcases this.2 with e | e
  · omega
  · rw [Nat.add_sub_cancel] at e; exact e

theorem rise_blk {l : List ByteArray} (h : riseB l = true) : Blk (RK l) (fun p => (p : Int)) (fun p => (p : Int)) 0 l.length := by
  refine ⟨fun p _ hp => ⟨p, Nat.zero_le _, hp, rfl⟩, ?_⟩
  have hall : ∀ d p, p + d + 1 < l.length → RK l (p : Int) ((p + d + 1 : Nat) : Int) := by
    intro d
    induction d with
    | zero => intro p hp; exact cfK_less (rise_steps h p hp)
    | succ d ih =>
      intro p hp
      exact (rk_tot l).tr _ _ _ (ih p (by omega)) (cfK_less (rise_steps h (p + d + 1) (by omega)))
  intro p q _ hpq hq
  have := hall (q - p - 1) p (by omega)
  have e : p + (q - p - 1) + 1 = q := by omega
  rw [e] at this
  exact this

/-- A map is of its keys and its parts. -/
theorem map_parts {vs : List VN} (hok : okB vs = true) (hk : (nodeAt vs (vs.length - 1)).kind = 6) : mapB (nodeAt vs (vs.length - 1)).keys (PL vs) (rootKids vs).length = true ∧ mapNs (nodeAt vs (vs.length - 1)).keys (PL vs) (rootKids vs).length = vs := by
  have hm := make_parts hok (Or.inr hk)
  have p1 := (okB_parts hok).1
  have hn := ((okB_parts hok).2.1 (vs.length - 1) (by omega)).1
  have hz : (nodeAt vs (vs.length - 1)).keys.length = (rootKids vs).length ∧ riseB (nodeAt vs (vs.length - 1)).keys = true := by
    unfold nodeB namedB at hn
    simp [hk] at hn
    exact hn.2
  rw [hk] at hm
  obtain ⟨a1, a2⟩ := parts_ok hok
  obtain ⟨m1, m2⟩ := map_same (l := (nodeAt vs (vs.length - 1)).keys) (L := PL vs) (m := (rootKids vs).length) (f := fun p => (p : Int)) (by rw [a1]; simp [a2]) hz.1 (rise_blk hz.2)
  have e1 : keysF (nodeAt vs (vs.length - 1)).keys (fun p => (p : Int)) (rootKids vs).length = (nodeAt vs (vs.length - 1)).keys := by
    rw [← hz.1]
    apply List.ext_getElem?
    intro j
    by_cases hj : j < (nodeAt vs (vs.length - 1)).keys.length
    · simp [keysF, hj, keyAt]
    · simp [keysF, hj]
  have e2 : permL (PL vs) (fun p => (p : Int)) = PL vs := by funext j; simp [permL]
  rw [e1, e2, hm] at m1 m2
  rw [hok] at m1
  refine ⟨m1, ?_⟩
  rw [m2]
  unfold rightNs
  simp [hok]
end Go.Proofs.Ytgnaakdgffkghaa

/-
  Paths that come in: what takes their sizes from a budget; what copies them into new memory; what holds two against each other.
-/
namespace Go.Proofs.Ytgnaakdgffkghaa
open Go.RowKit
set_option linter.unusedSimpArgs false
set_option linter.unusedVariables false

abbrev RawSteps (B : Nat) (w : World) (v : Value) (ps : List PS) : Prop := StepsIn 9223372036854775807 9223372036854775807 B w v ps
abbrev StepsAt (B : Nat) (w : World) (v : Value) (ps : List PS) : Prop := StepsIn 1048576 1048576 B w v ps

def zeroStep : Value := .agg #[.bool false, .string ByteArray.empty, .int .i64 0]
theorem infoStep : (Try.prog.info? 45).map (fun i => (i.zero, i.size, i.bytes)) = some (some zeroStep, 3, 32) := by kernel_rfl
def madeSteps (n : Nat) : Array Value := madeCells zeroStep.cells (n * 3)
theorem size_madeSteps (n : Nat) : (madeSteps n).size = n * 3 := size_madeCells _ _

theorem run_make_steps (n : Nat) (hb : 32 * n ≤ 281474976710656) (w : World) :
    (Instr.makeSlice 46 (.int .i64 (n : Int)) (.int .i64 (n : Int))).run Try.prog w = .ok (.slice (some ⟨w.heap.size, 0, none⟩) n n) (w.alloc (.cells (madeSteps n) 45)) := by
  obtain ⟨i, hi, hzz⟩ := Option.map_eq_some_iff.1 infoStep
  simp only [Prod.mk.injEq] at hzz
  obtain ⟨hz, hs, hby⟩ := hzz
  have hr := run_make (P := Try.prog) w 46 45 i zeroStep Try.underlying46 hi hz .i64 .i64 n n (by omega) (Int.le_refl _) (by rw [hby]; omega) (by omega)
  simp only [Int.toNat_natCast, hs] at hr
  exact hr

def stepCell (ps : List PS) (j : Nat) : Value :=
  if j % 3 = 0 then .bool (stepAt ps (j / 3)).named
  else if j % 3 = 1 then .string (stepAt ps (j / 3)).key
  else .int .i64 (stepAt ps (j / 3)).pl
theorem stepCell0 (ps : List PS) (i : Nat) : stepCell ps (i * 3) = .bool (stepAt ps i).named := by
  unfold stepCell
  rw [if_pos (by omega), show i * 3 / 3 = i by omega]
theorem stepCell1 (ps : List PS) (i : Nat) : stepCell ps (i * 3 + 1) = .string (stepAt ps i).key := by
  unfold stepCell
  rw [if_neg (by omega), if_pos (by omega), show (i * 3 + 1) / 3 = i by omega]
theorem stepCell2 (ps : List PS) (i : Nat) : stepCell ps (i * 3 + 2) = .int .i64 (stepAt ps i).pl := by
  unfold stepCell
  rw [if_neg (by omega), if_neg (by omega), show (i * 3 + 2) / 3 = i by omega]

def fillStep (ps : List PS) (z : Nat → Value) (k j : Nat) : Value := if j < k * 3 then stepCell ps j else z j

theorem fillStep_step {w : World} {b t m k : Nat} {ps : List PS} {z : Nat → Value} (h : w.rowIs b t m (fillStep ps z k)) :
    (((w.setCell ⟨b, k * 3, none⟩ (.bool (stepAt ps k).named)).setCell ⟨b, k * 3 + 1, none⟩ (.string (stepAt ps k).key)).setCell ⟨b, k * 3 + 2, none⟩ (.int .i64 (stepAt ps k).pl)).rowIs b t m (fillStep ps z (k + 1)) := by
  refine (((h.set (k * 3) _).set (k * 3 + 1) _).set (k * 3 + 2) _).congr fun j _ => ?_
  by_cases e2 : j = k * 3 + 2
  · subst e2
    rw [if_pos rfl, fillStep, if_pos (by omega), stepCell2]
  rw [if_neg e2]
  by_cases e1 : j = k * 3 + 1
  · subst e1
    rw [if_pos rfl, fillStep, if_pos (by omega), stepCell1]
  rw [if_neg e1]
  by_cases e0 : j = k * 3
  · subst e0
    rw [if_pos rfl, fillStep, if_pos (by omega), stepCell0]
  rw [if_neg e0]
  unfold fillStep
  by_cases hj : j < k * 3
  · rw [if_pos hj, if_pos (by omega)]
  · rw [if_neg hj, if_neg (by omega)]

theorem rowIs_below' {B b t n : Nat} {w w' : World} {f : Nat → Value} (h : w.rowIs b t n f) (hb : Below B w w') (hB : b < B) : w'.rowIs b t n f := h.of_block (hb.block b hB)

theorem ownSteps {w : World} {b : Nat} {ps : List PS} (h : w.rowIs b 45 (ps.length * 3) (stepCell ps)) (h1 : ps.length ≤ 1048576) (h2 : ∀ i, i < ps.length → (stepAt ps i).key.size ≤ 1048576 ∧ -9223372036854775808 ≤ (stepAt ps i).pl ∧ (stepAt ps i).pl ≤ 9223372036854775807) :
    StepsAt w.heap.size w (.slice (some ⟨b, 0, none⟩) ps.length ps.length) ps := by
  refine ⟨h1, h2, _, _, rfl, fun _ => ⟨b, 0, rfl, h.lt, fun i hi => ?_⟩⟩
  rw [Nat.zero_add]
  refine ⟨?_, ?_, ?_⟩
  · rw [h.cell (by omega), stepCell0]
  · rw [h.cell (by omega), stepCell1]
  · rw [h.cell (by omega), stepCell2]

end Go.Proofs.Ytgnaakdgffkghaa

/-
  PathOk of the specification and of the program: both say the same of every path.
-/
namespace Go.Proofs.Ytgnaakdgffkghaa
open Go.RowKit
set_option linter.unusedSimpArgs false
set_option linter.unusedVariables false

theorem stepB_named {x : PS} (h : x.named = true) : stepB x = (textB x.key && decide (x.pl = 0)) := by simp [stepB, h]
theorem stepB_plain {x : PS} (h : x.named = false) : stepB x = (decide (x.key.toList = []) && inB x.pl 0 80) := by simp [stepB, h, inB]

set_option maxHeartbeats 1600000 in
theorem stepOk_any (x : PS) (w : World) (hs : x.key.size ≤ 140737488355328) :
    Calls Try.prog 71 #[.agg #[.bool x.named, .string x.key, .int .i64 x.pl]] w fun e w' => e = .returned (.bool (stepB x)) ∧ Below w.heap.size w w' := by
  have hw1 : ∀ o, Below w.heap.size w (w.alloc o) := fun o => (Below.refl _ _).alloc (Nat.le_refl _) o
  cases hn : x.named
  · have HB := hideIt (stepB_plain hn)
    go_enter Try.func71, Try.ntmps71
    go_wp2_with fail
    all_goals
      go_ret
      refine ⟨ret_bool ?_, hw1 _⟩
      rw [HB.out]
      go_light
      simp_all [inB] <;> omega
  · have HB := hideIt (stepB_named hn)
    go_enter Try.func71, Try.ntmps71
    go_wp2_with (go_at_call 51; refine (textOk_any _ _ hs).mono ?_; rintro e w' ⟨rfl, rfl⟩)
    all_goals
      go_ret
      refine ⟨ret_bool ?_, hw1 _⟩
      rw [HB.out]
      go_light
      simp_all <;> (rw [Bool.eq_iff_iff]; simp)

set_option maxHeartbeats 1600000 in
theorem implPathOk_any (B : Nat) (v : Value) (ps : List PS) (w : World) (h : StepsAt B w v ps) (hB : B ≤ w.heap.size) :
    Calls Try.prog 63 #[v] w fun e w' => e = .returned (.bool (pathB ps)) ∧ Below w.heap.size w w' := by
  obtain ⟨hlen, hfit, a, cap, rfl, hcell⟩ := h
  have HC := hideIt hcell
  have HF := hideIt hfit
  clear hcell hfit
  by_cases h10 : 10 < ps.length
  · have HO : Hid (pathB ps = false) := by rw [Hid, pathB, decide_eq_false (by omega)]; rfl
    have h10' : (10 : Int) < (ps.length : Int) := by omega
    go_enter Try.func63, Try.ntmps63
    go_wp2_with fail
    go_ret
    exact ⟨ret_bool HO.out.symm, Below.refl _ _⟩
  have h10' : ¬ (10 : Int) < (ps.length : Int) := by omega
  go_enter Try.func63, Try.ntmps63
  go_wp2_with fail
  go_loopw [10] (fun i wr => ∃ (k : Nat), k ≤ ps.length ∧ i = .int .i64 k ∧ (∀ j, j < k → stepB (stepAt ps j) = true) ∧ Below w.heap.size w wr) (fun i _ => ps.length - (intOf i).toNat)
  case atStart => exact ⟨0, Nat.zero_le _, rfl, fun j hj => by omega, Below.refl _ _⟩
  case round =>
    obtain ⟨k, hk, rfl, hall, hbel⟩ := hrel
    have HA := hideIt hall
    clear hall
    have hsize := hbel.size
    by_cases hlt : k < ps.length
    · obtain ⟨b, o, rfl, hbB, hc⟩ := HC.out (by omega)
      obtain ⟨hc0, hc1, hc2⟩ := hc k hlt
      have c0 := (below_cell (hbel.mono hB) hbB).trans hc0
      have c1 := (below_cell (hbel.mono hB) hbB).trans hc1
      have c2 := (below_cell (hbel.mono hB) hbB).trans hc2
      have hs := (HF.out k hlt).1
      clear hc hc0 hc1 hc2
      go_wp2_with fail
      refine (stepOk_any (stepAt ps k) _ (by omega)).mono ?_
      rintro e w1 ⟨rfl, hb1⟩
      have hb2 : Below w.heap.size w w1 := (hbel.alloc hsize _).trans (hb1.mono (by simp; omega))
      clear hb1
      cases hst : stepB (stepAt ps k)
      · have HO := hideIt (pathB_false hlt hst)
        go_wp2_with fail
        go_ret
        exact ⟨ret_bool HO.out.symm, hb2⟩
      · have HA1 : Hid (∀ j, j < k + 1 → stepB (stepAt ps j) = true) := by
          intro j hj
          by_cases e : j = k
          · subst e; exact hst
          · exact HA.out j (by omega)
        go_wp2_with fail
        go_roundw
        case rel => exact ⟨k + 1, by omega, by go_num, HA1.out, hb2⟩
        case measure => simp [intOf]; omega
    · obtain rfl : k = ps.length := by omega
      have HO : Hid (pathB ps = true) := by rw [Hid, pathB_all HA.out]; simp; omega
      go_wp2_with fail
      go_ret
      exact ⟨ret_bool HO.out.symm, hbel⟩

end Go.Proofs.Ytgnaakdgffkghaa

/-
  slices.Clone of texts: a row of one's own.
-/
namespace Go.Proofs.Ytgnaakdgffkghaa
open Go.RowKit
set_option linter.unusedSimpArgs false
set_option linter.unusedVariables false

theorem infoStr2 : (Try.prog.info? 9).map (fun i => (i.zero, i.size, i.bytes)) = some (some (.string ByteArray.empty), 1, 16) := by kernel_rfl

set_option maxRecDepth 100000 in
set_option maxHeartbeats 1600000 in
theorem cloneStr_any (B : Nat) (v : Value) (l : List ByteArray) (w : World) (h : StrsAt B w v l) (hB : B ≤ w.heap.size) :
    Calls Try.prog 72 #[v] w fun e w' => ∃ r, e = .returned r ∧ w'.ownsRow w.heap.size 9 1 r l.length (l.map .string) ∧ Below w.heap.size w w' := by
  obtain ⟨hl, _, a, cap, rfl, hc⟩ := h
  have HC := hideIt hc
  clear hc
  obtain ⟨i1, hi1, hz1, hs1, hy1⟩ := info_parts infoStr2
  cases a with
  | none =>
    have h0 : l.length = 0 := by
      rcases Nat.eq_zero_or_pos l.length with e | e
      · exact e
      · obtain ⟨b, o, e2, _⟩ := HC.out e
        cases e2
    obtain rfl : l = [] := List.eq_nil_of_length_eq_zero h0
    clear HC h0
    have hnil := fun w => Lib.run_eql_slice_nil (P := Try.prog) w 34 9 none 0 cap 0 0 Try.underlying34
    go_enter Try.func72, Try.ntmps72
    go_wp2_with fail
    go_ret
    exact ⟨.slice none 0 0, rfl, World.ownsRow_nil _ _ _ _, Below.refl _ _⟩
  | some ad =>
    have HOWN : Hid ((w.alloc (.cells #[] 9)).ownsRow w.heap.size 9 1 (.slice (some ⟨w.heap.size, 0, none⟩) 0 0) 0 []) := by
      have := World.ownsRow_lit (base := w.heap.size) (e := 9) (size := 1) w #[] 0 (Nat.le_refl _) (by simp [maxLen]) rfl
      simpa [Hid] using this
    have hw1 : Below w.heap.size w (w.alloc (.cells #[] 9)) := (Below.refl _ _).alloc (Nat.le_refl _) _
    have HSRC : Hid (0 < l.length → ∃ ad', some ad = some ad' ∧ ∀ j u, (l.map Value.string)[j]? = some u → (w.alloc (.cells #[] 9)).cell? (ad'.add j) = some u) := by
      intro hp
      obtain ⟨bk, ok, e, hbk, hck⟩ := HC.out hp
      refine ⟨ad, rfl, fun j u hj => ?_⟩
      obtain rfl : ad = ⟨bk, ok, none⟩ := by simpa using e
      have hj' : j < l.length := by have := (List.getElem?_eq_some_iff.1 hj).1; simpa using this
      rw [show (⟨bk, ok, none⟩ : Addr).add j = ⟨bk, ok + j, none⟩ by simp [Addr.add], below_cell hw1 (by omega), hck j hj']
      simp [hj', keyAt] at hj ⊢
      exact hj
    have HW1 := hideIt hw1
    clear hw1
    have hnil := fun w => Lib.run_eql_slice_nil (P := Try.prog) w 34 9 (some ad) l.length cap 0 0 Try.underlying34
    go_enter Try.func72, Try.ntmps72
    go_wp2_with (at_builtin; refine wpList_append_src rfl _ _ 34 rfl w.heap.size 9 i1 (.string ByteArray.empty) 1 16 Try.underlying34 hi1 hz1 hs1 hy1 rfl (by decide) _ 0 [] rfl HOWN.out (some ad) l.length cap (l.map .string) rfl (by simp) HSRC.out ?c2 ?c3 ?c4 ?c5 ?_)
    case c2 => intro u hu; obtain ⟨q, _, rfl⟩ := List.mem_map.1 hu; rfl
    case c3 => unfold maxLen; omega
    case c4 => omega
    case c5 => simp
    intro v' w2 hk2 hg2 hat2
    (try simp only [Nat.zero_add, List.nil_append] at hk2)
    have hb2 : Below w.heap.size w w2 := HW1.out.grown hg2 (by simp) (fun r hr => by simp [Value.ownBlock] at hr; omega)
    obtain ⟨ar, cr, er⟩ := own_slice hk2
    subst er
    clear hg2 hat2
    go_wp2_with fail
    go_ret
    exact ⟨_, rfl, hk2, hb2⟩
end Go.Proofs.Ytgnaakdgffkghaa
