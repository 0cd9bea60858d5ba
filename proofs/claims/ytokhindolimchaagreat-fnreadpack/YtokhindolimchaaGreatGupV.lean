/-
  Plain: the tree of right nodes is good; the nodes that are laid for a tree, and its tree again.
-/
import Derived.Test.YtokhindolimchaaGreatRdT
import Derived.Test.YtokhindolimchaaGreatMapP
import Derived.Test.YtokhindolimchaaGreatProg
import Derived.Test.YtokhindolimchaaGreatEscP
import Derived.Below
import Derived.BigQuiet
import Derived.Deep.QuietTactic
import Derived.Defers
import Derived.Recover
import Derived.WalkLawsBesides
namespace Go.Proofs.YtokhindolimchaaGreat
open Go.RowKit
set_option linter.unusedSimpArgs false
set_option linter.unusedVariables false

theorem good_tree {vs : List VN} (hok : okB vs = true) : ∀ f i, i < vs.length → i < f → goodT f (treeOf vs f i) := by
  intro f
  induction f with
  | zero => intro i _ h; omega
  | succ f ih =>
    intro i hi hf
    obtain ⟨_, p2, _, _⟩ := okB_parts hok
    rw [treeOf]
    refine ⟨?_, fun j hj => ?_⟩
    · have := (p2 i hi).1
      rw [nodeT_eq] at this
      rw [List.length_map]
      exact this
    · rw [List.length_map] at hj
      have hki := kidsIn_get (p2 i hi).2 hj
      rw [kidT_map hj]
      exact ih _ (by omega) (by omega)
theorem whole_len {vs : List VN} (hok : okB vs = true) : (layT vs.length (treeOf vs vs.length (vs.length - 1)) 0).length = vs.length := by
  obtain ⟨p1, _⟩ := okB_parts hok
  obtain ⟨h, htr⟩ := root_first hok
  rw [← lay_tree, lay_run vs vs.length (vs.length - 1) 0 0 h (by omega) htr]
  unfold run
  rw [List.length_map, List.length_range']
  omega
theorem whole_lay {vs : List VN} (hok : okB vs = true) : layT vs.length (treeOf vs vs.length (vs.length - 1)) 0 = vs := by
  obtain ⟨p1, _⟩ := okB_parts hok
  obtain ⟨h, htr⟩ := root_first hok
  rw [← lay_tree, lay_run vs vs.length (vs.length - 1) 0 0 h (by omega) htr]
  rw [show vs.length - 1 + 1 - 0 = vs.length by omega, show (((0 : Nat) : Int) - ((0 : Nat) : Int)) = 0 by omega, run_all]
  have : (shiftN 0) = id := by funext x; exact shift_zero x
  rw [this, List.map_id]
theorem acc_at {f sh : Nat} {kids : List VT} {vs : List VN} {x : VN} (hk : ∀ j, j < (accT f sh kids kids.length ++ [x]).length → nodeAt vs (sh + j) = nodeAt (accT f sh kids kids.length ++ [x]) j) {k : Nat} (hkl : k < kids.length) :
    ∀ j, j < (layT f (kidT kids k) (sh + (accT f sh kids k).length)).length → nodeAt vs (sh + (accT f sh kids k).length + j) = nodeAt (layT f (kidT kids k) (sh + (accT f sh kids k).length)) j := by
  intro j hj
  have hlen : (accT f sh kids (k + 1)).length = (accT f sh kids k).length + (layT f (kidT kids k) (sh + (accT f sh kids k).length)).length := by rw [accT_succ f sh hkl, List.length_append]
  obtain ⟨t1, ht1⟩ := accT_pre f sh kids (show k + 1 ≤ kids.length by omega) (Nat.le_refl _)
  have hl1 := congrArg List.length ht1
  rw [List.length_append] at hl1
  have := hk ((accT f sh kids k).length + j) (by rw [List.length_append]; omega)
  rw [nodeAt_left (by omega), ht1, nodeAt_left (by omega), accT_succ f sh hkl, nodeAt_right (by omega)] at this
  rw [Nat.add_assoc, this, Nat.add_sub_cancel_left]
theorem tree_back : ∀ {f : Nat} {t : VT}, FullT f t → ∀ (vs : List VN) (sh g : Nat), f ≤ g → (∀ j, j < (layT f t sh).length → nodeAt vs (sh + j) = nodeAt (layT f t sh) j) → treeOf vs g (sh + (layT f t sh).length - 1) = t := by
  intro f
  induction f with
  | zero => intro t h; exact h.elim
  | succ f ih =>
    intro t h vs sh g hg hk
    obtain ⟨g, rfl⟩ : ∃ k, g = k + 1 := ⟨g - 1, by omega⟩
    obtain ⟨kind, n, s, keys, kids⟩ := t
    rw [layT_eq] at hk ⊢
    have hroot := hk (accT f sh kids kids.length).length (by rw [List.length_append, List.length_cons]; omega)
    rw [nodeAt_right (Nat.le_refl _), Nat.sub_self] at hroot
    have hroot' : nodeAt vs (sh + (accT f sh kids kids.length).length) = { kind := kind, n := n, s := s, keys := keys, kids := ksT f sh kids kids.length } := hroot
    rw [List.length_append, List.length_cons, List.length_nil, show sh + ((accT f sh kids kids.length).length + (0 + 1)) - 1 = sh + (accT f sh kids kids.length).length by omega, treeOf, hroot']
    have hf : ∀ k, k ≤ kids.length → (ksT f sh kids k).map (fun x => treeOf vs g x.toNat) = kids.take k := by
      intro k
      induction k with
      | zero => intro _; rw [ksT_zero]; rfl
      | succ k ihk =>
        intro hkl
        have hlen : (accT f sh kids (k + 1)).length = (accT f sh kids k).length + (layT f (kidT kids k) (sh + (accT f sh kids k).length)).length := by rw [accT_succ f sh (by omega), List.length_append]
        rw [ksT_succ f sh (by omega), List.map_append, ihk (by omega), take_kid (by omega)]
        have e := ih (h k (by omega)) vs (sh + (accT f sh kids k).length) g (by omega) (acc_at hk (by omega))
        congr 1
        rw [List.map_cons, List.map_nil, show (((sh + (accT f sh kids (k + 1)).length : Nat) : Int) - 1).toNat = sh + (accT f sh kids k).length + (layT f (kidT kids k) (sh + (accT f sh kids k).length)).length - 1 by omega, e]
    dsimp only
    rw [hf _ (Nat.le_refl _), List.take_length]
theorem full_len : ∀ {f : Nat} {t : VT}, FullT f t → ∀ sh, FullT (layT f t sh).length t := by
  intro f
  induction f with
  | zero => intro t h; exact h.elim
  | succ f ih =>
    intro t h sh
    obtain ⟨kind, n, s, keys, kids⟩ := t
    rw [layT_eq, List.length_append, List.length_cons, List.length_nil]
    intro j hj
    have hlen : (accT f sh kids (j + 1)).length = (accT f sh kids j).length + (layT f (kidT kids j) (sh + (accT f sh kids j).length)).length := by rw [accT_succ f sh hj, List.length_append]
    obtain ⟨t1, ht1⟩ := accT_pre f sh kids (show j + 1 ≤ kids.length by omega) (Nat.le_refl _)
    have hl1 := congrArg List.length ht1
    rw [List.length_append] at hl1
    exact (ih (h j hj) (sh + (accT f sh kids j).length)).more (by omega)
end Go.Proofs.YtokhindolimchaaGreat

/-
  The program's byteReader: its place in memory, the next byte, giving up, and what turns giving up into false.
-/
namespace Go.Proofs.YtokhindolimchaaGreat
open Go.RowKit
set_option linter.unusedSimpArgs false
set_option linter.unusedVariables false

/-- Giving up. -/
def gup : Ending := .panicked [{ v := .iface 97 (.agg #[]), recovered := false }]
/-- A reader of the text 's' in block 'rb', behind 'p' bytes. -/
structure BrAt (w : World) (rb : Nat) (s : ByteArray) (p : Nat) : Prop where
  lt : rb < w.heap.size
  src : w.cell? ⟨rb, 0, none⟩ = some (.string s)
  place : w.cell? ⟨rb, 1, none⟩ = some (.int .i64 p)
  free : w.frozen? ⟨rb, 1, none⟩ = false
  le : p ≤ s.size
/-- No block but 'rb' has turned. -/
structure But (rb : Nat) (w w' : World) : Prop where
  os : w'.os = w.os
  tape : w'.tape = w.tape
  output : w'.output = w.output
  size : w.heap.size ≤ w'.heap.size
  block : ∀ c, c < w.heap.size → c ≠ rb → w'.heap[c]? = w.heap[c]?
theorem But.refl (rb : Nat) (w : World) : But rb w w := ⟨rfl, rfl, rfl, Nat.le_refl _, fun _ _ _ => rfl⟩
theorem But.trans {rb : Nat} {a b c : World} (h : But rb a b) (k : But rb b c) : But rb a c :=
  ⟨k.os.trans h.os, k.tape.trans h.tape, k.output.trans h.output, Nat.le_trans h.size k.size, fun x hx hn => (k.block x (Nat.lt_of_lt_of_le hx h.size) hn).trans (h.block x hx hn)⟩
theorem But.of_below {rb : Nat} {a b : World} (h : Below a.heap.size a b) : But rb a b := ⟨h.os, h.tape, h.output, h.size, fun x hx _ => h.block x hx⟩
theorem But.of_set {rb : Nat} {a : World} (o : Nat) (u : Value) : But rb a (a.setCell ⟨rb, o, none⟩ u) :=
  ⟨rfl, rfl, rfl, by simp, fun x _ hn => Below.heap_setCell _ _ _ _ hn⟩
theorem But.below {rb : Nat} {a b : World} (h : But rb a b) (hr : rb ≤ a.heap.size) : Below rb a b := ⟨h.os, h.tape, h.output, h.size, fun x hx => h.block x (by omega) (by omega)⟩
theorem But.next {rb : Nat} {a b c : World} (h : But rb a b) (k : Below a.heap.size b c) : But rb a c :=
  ⟨k.os.trans h.os, k.tape.trans h.tape, k.output.trans h.output, Nat.le_trans h.size k.size, fun x hx hn => (k.block x hx).trans (h.block x hx hn)⟩
theorem cellOf {w w' : World} {b o : Nat} (h : w'.heap[b]? = w.heap[b]?) : w'.cell? ⟨b, o, none⟩ = w.cell? ⟨b, o, none⟩ := World.cell?_of_block (w := w) (a := ⟨b, o, none⟩) h
theorem frozenOf {w w' : World} {b o : Nat} (h : w'.heap[b]? = w.heap[b]?) : w'.frozen? ⟨b, o, none⟩ = w.frozen? ⟨b, o, none⟩ := World.frozen?_of_block (w := w) (a := ⟨b, o, none⟩) h
theorem BrAt.keep {w w' : World} {rb p : Nat} {s : ByteArray} (h : BrAt w rb s p) (hb : w'.heap[rb]? = w.heap[rb]?) (hz : w.heap.size ≤ w'.heap.size) : BrAt w' rb s p :=
  ⟨Nat.lt_of_lt_of_le h.lt hz, (cellOf hb).trans h.src, (cellOf hb).trans h.place, (frozenOf hb).trans h.free, h.le⟩
theorem BrAt.below {w w' : World} {rb p : Nat} {s : ByteArray} (h : BrAt w rb s p) (hb : Below w.heap.size w w') : BrAt w' rb s p := h.keep (hb.block rb h.lt) hb.size
theorem BrAt.step {w : World} {rb p : Nat} {s : ByteArray} (h : BrAt w rb s p) (hp : p < s.size) : BrAt (w.setCell ⟨rb, 1, none⟩ (.int .i64 ((p + 1 : Nat) : Int))) rb s (p + 1) :=
  ⟨by simpa using h.lt, by rw [World.cell?_setCell_other (h := by simp)]; exact h.src, World.cell?_setCell_same _ _ _ h.place, by rw [World.frozen?_setCell]; exact h.free, by omega⟩

theorem below_drewB {w : World} (n : Nat) : Below w.heap.size w (w.drewN n) := ⟨rfl, rfl, rfl, Nat.le_refl _, fun _ _ => rfl⟩

set_option maxRecDepth 100000 in
set_option maxHeartbeats 1600000 in
theorem next_yes {rb p : Nat} {s : ByteArray} {w : World} (h : BrAt w rb s p) (hp : p < s.size) (hs : s.size ≤ 1048576) :
    Calls Tryz.prog 55 #[.pointer (some ⟨rb, 0, none⟩)] w fun e w' => e = .returned (.int .u8 (s[p].toNat : Int)) ∧ BrAt w' rb s (p + 1) ∧ But rb w w' := by
  have H := hideB h
  have h1 := h.src
  have h2 := h.place
  have h3 := h.free
  have h4 := h.lt
  clear h
  have hne : ((p : Int) == (s.size : Int)) = false := by simp; omega
  go_enter Tryz.func55, Tryz.ntmps55
  go_wp2_with fail
  go_quiet (fail)
  have HD1 := hideB (below_drewB (w := w) nq)
  have HR1 := hideB (H.out.below HD1.out)
  have k1 := HR1.out.src
  have k2 := HR1.out.place
  have k3 := HR1.out.free
  generalize w.drewN nq = W1 at HR1 HD1 k1 k2 k3 ⊢
  clear nq h1 h2 h3
  go_wp2_with fail
  go_quiet (fail)
  have HD2 := hideB (below_drewB (w := W1) nq)
  have HR2 := hideB (HR1.out.below HD2.out)
  have l1 := HR2.out.src
  have l2 := HR2.out.place
  have l3 := HR2.out.free
  generalize W1.drewN nq = W2 at HR2 HD2 l1 l2 l3 ⊢
  clear nq k1 k2 k3
  go_wp2_with fail
  go_ret
  refine ⟨rfl, HR2.out.step hp, ?_⟩
  exact ((But.of_below HD1.out).trans (But.of_below HD2.out)).trans (But.of_set _ _)

set_option maxRecDepth 100000 in
set_option maxHeartbeats 1600000 in
theorem next_no {rb : Nat} {s : ByteArray} {w : World} (h : BrAt w rb s s.size) (hs : s.size ≤ 1048576) :
    Calls Tryz.prog 55 #[.pointer (some ⟨rb, 0, none⟩)] w fun e w' => e = gup ∧ BrAt w' rb s s.size ∧ But rb w w' := by
  have H := hideB h
  have h1 := h.src
  have h2 := h.place
  have h3 := h.free
  have h4 := h.lt
  clear h
  go_enter Tryz.func55, Tryz.ntmps55
  go_wp2_with fail
  go_quiet (fail)
  have HD1 := hideB (below_drewB (w := w) nq)
  go_wp2_with fail
  exact ⟨rfl, rfl, H.out.below HD1.out, But.of_below HD1.out⟩
end Go.Proofs.YtokhindolimchaaGreat

/-
  What turns giving up into false: unlessGivenUp at a reading that hands back a value.
-/
namespace Go.Proofs.YtokhindolimchaaGreat
open Go.RowKit
set_option linter.unusedSimpArgs false
set_option linter.unusedVariables false

theorem catchV_gave (q : Addr) (x : Bool) (w : World) (hc : w.cell? q = some (.bool x)) (hz : w.frozen? q = false) :
    CallsD Tryz.prog 89 #[.pointer (some q)] (.panicking [{ v := .iface 97 (.agg #[]), recovered := false }]) w fun e u' w' =>
      e = .returned (.tuple #[]) ∧ u' = .panicking [{ v := .iface 97 (.agg #[]), recovered := true }] ∧ w' = w.setCell q (.bool false) := by
  refine callsD_of_wpS Tryz.func89 rfl fun c₀ cs hu => ?_
  apply wpS_seq
  apply wpS_region
  simp [wpOpsS, go_sem, recoverD, hu, Tryz.ntmps89, Exit.thenS]
  refine wpS_cond (t := true) (by simp [Act.eval, Array.replicate]) ?_
  simp only [if_true]
  apply wpS_region
  simp [wpOpsS, go_sem, hc, hz, bodyPostS, results, Tryz.results89]

theorem catchV_idle (q : Addr) (w : World) :
    CallsD Tryz.prog 89 #[.pointer (some q)] .returning w fun e u' w' => e = .returned (.tuple #[]) ∧ u' = .returning ∧ w' = w := by
  refine callsD_of_wpS Tryz.func89 rfl fun c₀ cs hu => ?_
  apply wpS_seq
  apply wpS_region
  simp [wpOpsS, go_sem, recoverD, hu, Tryz.ntmps89, Exit.thenS]
  refine wpS_cond (t := false) (by simp [Act.eval, Array.replicate]) ?_
  simp only [Bool.false_eq_true, if_false]
  refine wpS_of_wp (wp_skip ?_)
  cases c₀
  simp_all [bodyPostS, results, Tryz.results89]

set_option maxRecDepth 100000 in
set_option maxHeartbeats 1600000 in
theorem unlessV_yes (G : FuncId) (x : Value) (w : World) (Z : Value → World → Prop) (hcf : ∀ w, (callFunc G #[x]).run Tryz.prog w = .ok (.enter G #[x]) w)
    (hc : Calls Tryz.prog G #[x] (w.alloc (.cells #[.bool false] 4)) fun e w' => ∃ v, e = .returned v ∧ Z v w')
    (hZ : ∀ v w', Z v w' → w'.cell? ⟨w.heap.size, 0, none⟩ = some (.bool false) ∧ w'.frozen? ⟨w.heap.size, 0, none⟩ = false) :
    Calls Tryz.prog 53 #[.func (.func G) #[x] #[]] w fun e w' => ∃ v, e = .returned (.tuple #[v, .bool true]) ∧ ∃ w1, Z v w1 ∧ w' = w1.setCell ⟨w.heap.size, 0, none⟩ (.bool true) := by
  have hmf : ∀ (fn : Fn) (first cap : Array Value) (w : World), (Instr.makeFunc fn first cap).run Tryz.prog w = .ok (.func fn first cap) w := fun _ _ _ _ => rfl
  go_enter_defers Tryz.func53, Tryz.ntmps53
  go_wp2_with fail
  refine hc.mono ?_
  rintro e w1 ⟨v, rfl, hz⟩
  obtain ⟨c1, f1⟩ := hZ v w1 hz
  go_wp2_with fail
  refine leaves_cons (f := 89) (args := #[.pointer (some ⟨w.heap.size, 0, none⟩)]) (by simp) (by simp [go_sem]) ?_
  refine (catchV_idle ⟨w.heap.size, 0, none⟩ _).mono ?_
  rintro e u' w'' ⟨rfl, rfl, rfl⟩
  have c2 : (w1.setCell ⟨w.heap.size, 0, none⟩ (.bool true)).cell? ⟨w.heap.size, 0, none⟩ = some (.bool true) := World.cell?_setCell_same _ _ _ c1
  simp [Leaves, settle, results, Tryz.results53, go_sem, c2]
  exact ⟨w1, hz, rfl⟩

set_option maxRecDepth 100000 in
set_option maxHeartbeats 1600000 in
theorem unlessV_no (G : FuncId) (x : Value) (w : World) (Z : World → Prop) (hcf : ∀ w, (callFunc G #[x]).run Tryz.prog w = .ok (.enter G #[x]) w)
    (hc : Calls Tryz.prog G #[x] (w.alloc (.cells #[.bool false] 4)) fun e w' => e = gup ∧ Z w')
    (hZ : ∀ w', Z w' → w'.cell? ⟨w.heap.size, 0, none⟩ = some (.bool false) ∧ w'.frozen? ⟨w.heap.size, 0, none⟩ = false) :
    Calls Tryz.prog 53 #[.func (.func G) #[x] #[]] w fun e w' => e = .returned (.tuple #[.nilIface, .bool false]) ∧ ∃ w1, Z w1 ∧ w' = w1.setCell ⟨w.heap.size, 0, none⟩ (.bool false) := by
  have hmf : ∀ (fn : Fn) (first cap : Array Value) (w : World), (Instr.makeFunc fn first cap).run Tryz.prog w = .ok (.func fn first cap) w := fun _ _ _ _ => rfl
  go_enter_defers Tryz.func53, Tryz.ntmps53
  go_wp2_with fail
  refine hc.mono ?_
  rintro e w1 ⟨rfl, hz⟩
  obtain ⟨c1, f1⟩ := hZ w1 hz
  unfold gup
  go_wp2_with fail
  refine leaves_cons (f := 89) (args := #[.pointer (some ⟨w.heap.size, 0, none⟩)]) (by simp) (by simp [go_sem]) ?_
  refine (catchV_gave ⟨w.heap.size, 0, none⟩ false _ c1 f1).mono ?_
  rintro e u' w'' ⟨rfl, rfl, rfl⟩
  have c2 : (w1.setCell ⟨w.heap.size, 0, none⟩ (.bool false)).cell? ⟨w.heap.size, 0, none⟩ = some (.bool false) := World.cell?_setCell_same _ _ _ c1
  simp [Leaves, settle, results, Tryz.results53, go_sem, c2]
  exact ⟨w1, hz, rfl⟩
end Go.Proofs.YtokhindolimchaaGreat
