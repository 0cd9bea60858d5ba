import Derived.Test.YtcidjhnogldgmaaGreatDoorEvF
import Derived.Test.YtcidjhnogldgmaaGreatDoorIMrg
import Derived.Laws.AppendOwn
import Derived.Deep.QuietTactic
import Derived.BigQuiet
import Derived.Test.YtcidjhnogldgmaaGreatDoorStepI
import Derived.Test.YtcidjhnogldgmaaGreatDoorSLen
namespace Go.Proofs.YtcidjhnogldgmaaGreatDoor
open Go.RowKit
set_option linter.unusedSimpArgs false
set_option linter.unusedVariables false
structure ButE (E : Nat) (w w' : World) : Prop where
  os : w'.os = w.os
  tape : w'.tape = w.tape
  output : w'.output = w.output
  size : w.heap.size ≤ w'.heap.size
  block : ∀ c, c < w.heap.size → c ≠ E → w'.heap[c]? = w.heap[c]?
theorem ButE.trans {E : Nat} {a b c : World} (h : ButE E a b) (k : ButE E b c) : ButE E a c :=
  ⟨k.os.trans h.os, k.tape.trans h.tape, k.output.trans h.output, Nat.le_trans h.size k.size, fun x hx hn => (k.block x (Nat.lt_of_lt_of_le hx h.size) hn).trans (h.block x hx hn)⟩
theorem ButE.of_below {E : Nat} {w w' : World} (h : Below w.heap.size w w') : ButE E w w' := ⟨h.os, h.tape, h.output, h.size, fun k hk _ => h.block k hk⟩
theorem ButE.below {E B : Nat} {w w' : World} (h : ButE E w w') (hB : B ≤ E) (hw : B ≤ w.heap.size) : Below B w w' := ⟨h.os, h.tape, h.output, h.size, fun k hk => h.block k (by omega) (by omega)⟩
structure FrH (Z E O : Nat) (w w' : World) : Prop where
  os : w'.os = w.os
  tape : w'.tape = w.tape
  output : w'.output = w.output
  size : w.heap.size ≤ w'.heap.size
  block : ∀ k, k < Z → k ≠ E → w'.heap[k]? = w.heap[k]?
  cell : ∀ b o v, b ≠ E → b ≠ O → v ≠ .nilIface → w.cell? ⟨b, o, none⟩ = some v → w'.cell? ⟨b, o, none⟩ = some v
theorem FrH.refl (Z E O : Nat) (w : World) : FrH Z E O w w := ⟨rfl, rfl, rfl, Nat.le_refl _, fun _ _ _ => rfl, fun _ _ _ _ _ _ h => h⟩
theorem FrH.trans {Z E O : Nat} {a b c : World} (h : FrH Z E O a b) (k : FrH Z E O b c) : FrH Z E O a c :=
  ⟨k.os.trans h.os, k.tape.trans h.tape, k.output.trans h.output, Nat.le_trans h.size k.size, fun x hx hn => (k.block x hx hn).trans (h.block x hx hn), fun b o v h1 h2 h3 h4 => k.cell b o v h1 h2 h3 (h.cell b o v h1 h2 h3 h4)⟩
theorem ButE.frh {Z E O : Nat} {w w' : World} (h : ButE E w w') (hZ : Z ≤ w.heap.size) : FrH Z E O w w' :=
  ⟨h.os, h.tape, h.output, h.size, fun k hk hn => h.block k (by omega) hn, fun b o v h1 _ _ hc => (World.cell?_of_block (w := w) (w' := w') (a := ⟨b, o, none⟩) (h.block b (cell_lt hc) h1)).trans hc⟩
theorem FrH.of_below {Z E O : Nat} {w w' : World} (h : Below w.heap.size w w') (hZ : Z ≤ w.heap.size) : FrH Z E O w w' := (ButE.of_below (E := E) h).frh hZ
theorem FrH.below {Z E O B : Nat} {w w' : World} (h : FrH Z E O w w') (hB : B ≤ E) (hZ : B ≤ Z) : Below B w w' := ⟨h.os, h.tape, h.output, h.size, fun k hk => h.block k (by omega) (by omega)⟩
structure Errs4 (w : World) : Prop where
  two : Errs2 w
  outs : ∃ a a0 : Addr, w.cell? ⟨3, 0, none⟩ = some (.iface 282 (.pointer (some a))) ∧ w.cell? ⟨0, 0, none⟩ = some (.iface 282 (.pointer (some a0))) ∧ a ≠ a0 ∧ (∃ cs t, w.heap[a.block]? = some (.cells cs t (0, 0))) ∧ ∃ cs t, w.heap[a0.block]? = some (.cells cs t (0, 0))
  fuel : ∃ a a0 : Addr, w.cell? ⟨2, 0, none⟩ = some (.iface 282 (.pointer (some a))) ∧ w.cell? ⟨0, 0, none⟩ = some (.iface 282 (.pointer (some a0))) ∧ a ≠ a0 ∧ (∃ cs t, w.heap[a.block]? = some (.cells cs t (0, 0))) ∧ ∃ cs t, w.heap[a0.block]? = some (.cells cs t (0, 0))
theorem Errs4.keep {w w' : World} (h : Errs4 w) (hb : Below w.heap.size w w') : Errs4 w' := by
  obtain ⟨h2, ⟨a, a0, p1, p2, p3, ⟨c, t, p4⟩, c0, t0, p5⟩, ⟨b, b0, q1, q2, q3, ⟨d, s, q4⟩, d0, s0, q5⟩⟩ := h
  exact ⟨h2.below hb, ⟨a, a0, (below_cell hb (cell_lt p1)).trans p1, (below_cell hb (cell_lt p2)).trans p2, p3, ⟨c, t, (hb.block _ (lt_heapE p4)).trans p4⟩, c0, t0, (hb.block _ (lt_heapE p5)).trans p5⟩,
    ⟨b, b0, (below_cell hb (cell_lt q1)).trans q1, (below_cell hb (cell_lt q2)).trans q2, q3, ⟨d, s, (hb.block _ (lt_heapE q4)).trans q4⟩, d0, s0, (hb.block _ (lt_heapE q5)).trans q5⟩⟩
structure ErrB (B : Nat) (w : World) : Prop where
  base : ∃ w0, Errs4 w0 ∧ w0.heap.size = B ∧ Below B w0 w
theorem ErrB.now {B : Nat} {w : World} (h : ErrB B w) : Errs4 w := by
  obtain ⟨w0, h1, h2, h3⟩ := h.base
  subst h2
  exact h1.keep h3
theorem ErrB.below {B : Nat} {w w' : World} (h : ErrB B w) (hb : Below B w w') : ErrB B w' := by
  obtain ⟨w0, h1, h2, h3⟩ := h.base
  exact ⟨w0, h1, h2, h3.trans hb⟩
theorem ErrB.le {B : Nat} {w : World} (h : ErrB B w) : B ≤ w.heap.size := by
  obtain ⟨w0, h1, h2, h3⟩ := h.base
  have := h3.size
  omega
structure EvB (B E : Nat) (fv : Value) (fs : List FN) (fu : Nat) (w : World) : Prop where
  blk : w.heap[E]? = some (.cells #[fv, .int .i64 (fu : Int)] 91 (0, 0))
  nodes : FNodesAt B w fv fs
  hBE : B ≤ E
  errs : ErrB B w
theorem EvB.lt {B E : Nat} {fv : Value} {fs : List FN} {fu : Nat} {w : World} (h : EvB B E fv fs fu w) : E < w.heap.size := lt_heapE h.blk
theorem EvB.below {B E : Nat} {fv : Value} {fs : List FN} {fu : Nat} {w w' : World} (h : EvB B E fv fs fu w) (hb : Below w.heap.size w w') : EvB B E fv fs fu w' :=
  ⟨(hb.block E h.lt).trans h.blk, h.nodes.below (hb.mono h.errs.le), h.hBE, h.errs.below (hb.mono h.errs.le)⟩
def OutRow (Z : Nat) (w : World) (sv : Value) (xs : List Value) : Prop :=
  (sv = .slice none 0 0 ∧ xs = []) ∨ ∃ g cap, sv = .slice (some ⟨g, 0, none⟩) xs.length cap ∧ Z ≤ g ∧ w.heap[g]? = some (.cells (xs ++ List.replicate (cap - xs.length) Value.nilIface).toArray 42 (0, 0)) ∧ xs.length ≤ cap ∧ cap ≤ maxLen ∧ 0 < cap
structure OutsAt (Z E O : Nat) (w : World) (outs : List (List VN)) (sv : Value) (xs : List Value) : Prop where
  box : w.heap[O]? = some (.cells #[sv] 56 (0, 0))
  row : OutRow Z w sv xs
  len : xs.length = outs.length
  rep : ∀ j, j < outs.length → Rep w (rowAt outs j) (xs.getD j undef)
  lo : Z ≤ O
  few : outs.length ≤ 40
structure St (B Z E O : Nat) (fv : Value) (fs : List FN) (st : EvSt) (w : World) : Prop where
  ev : EvB B E fv fs st.1 w
  outs : ∃ sv xs, OutsAt Z E O w st.2 sv xs
  hEZ : E < Z
  hZ : Z ≤ w.heap.size
theorem heap_cell {w : World} {b : Nat} {cs : Array Value} {t : TypeId} {z : Nat × Nat} (h : w.heap[b]? = some (.cells cs t z)) (o : Nat) : w.cell? ⟨b, o, none⟩ = cs[o]? := by
  simp [World.cell?, h]
theorem pair_no {fv : Value} {fu : Int} {o : Nat} {v : Value} (h : (#[fv, .int .i64 fu] : Array Value)[o]? = some v) (hf : ∃ a n c, fv = .slice a n c) : (∀ t x, v ≠ .iface t x) ∧ ∀ s, v ≠ .string s := by
  obtain ⟨a, n, c, rfl⟩ := hf
  match o, h with
  | 0, h => simp at h; subst h; exact And.intro (by intro t x e; cases e) (by intro t e; cases e)
  | 1, h => simp at h; subst h; exact And.intro (by intro t x e; cases e) (by intro t e; cases e)
  | o + 2, h => simp at h
theorem OutRow.slice {Z : Nat} {w : World} {sv : Value} {xs : List Value} (h : OutRow Z w sv xs) : ∃ a c, sv = .slice a xs.length c := by
  rcases h with ⟨rfl, rfl⟩ | ⟨g, cap, rfl, _⟩
  · exact ⟨none, 0, rfl⟩
  · exact ⟨_, _, rfl⟩
theorem FNodesAt.slice {B : Nat} {w : World} {v : Value} {fs : List FN} (h : FNodesAt B w v fs) : ∃ a n c, v = .slice a n c := by
  obtain ⟨_, a, c, rfl, _⟩ := h
  exact ⟨_, _, _, rfl⟩
theorem FrH.reads {Z E O : Nat} {w w' : World} (h : FrH Z E O w w') {B : Nat} {fv : Value} {fs : List FN} {fu : Nat} (he : EvB B E fv fs fu w) {sv : Value} (hO : w.heap[O]? = some (.cells #[sv] 56 (0, 0))) (hs : ∃ a n c, sv = .slice a n c) : Reads2 w w' := by
  have hE : ∀ o v, w.cell? ⟨E, o, none⟩ = some v → (∀ t x, v ≠ .iface t x) ∧ ∀ s, v ≠ .string s := fun o v hc => by
    rw [heap_cell he.blk] at hc
    exact pair_no hc he.nodes.slice
  have hO' : ∀ o v, w.cell? ⟨O, o, none⟩ = some v → (∀ t x, v ≠ .iface t x) ∧ ∀ s, v ≠ .string s := fun o v hc => by
    rw [heap_cell hO] at hc
    obtain ⟨a, n, c, rfl⟩ := hs
    match o, hc with
    | 0, hc => simp at hc; subst hc; exact And.intro (by intro t x e; cases e) (by intro t e; cases e)
    | o + 1, hc => simp at hc
  refine ⟨h.size, fun b o t x hc => h.cell b o _ (fun e => ?_) (fun e => ?_) (fun e => by cases e) hc, fun b o s hc => h.cell b o _ (fun e => ?_) (fun e => ?_) (fun e => by cases e) hc⟩
  · subst e; exact (hE _ _ hc).1 _ _ rfl
  · subst e; exact (hO' _ _ hc).1 _ _ rfl
  · subst e; exact (hE _ _ hc).2 _ rfl
  · subst e; exact (hO' _ _ hc).2 _ rfl
theorem ButE.reads {E : Nat} {w w' : World} (h : ButE E w w') {B : Nat} {fv : Value} {fs : List FN} {fu : Nat} (he : EvB B E fv fs fu w) : Reads2 w w' := by
  have hE : ∀ o v, w.cell? ⟨E, o, none⟩ = some v → (∀ t x, v ≠ .iface t x) ∧ ∀ s, v ≠ .string s := fun o v hc => by
    rw [heap_cell he.blk] at hc
    exact pair_no hc he.nodes.slice
  have hk : ∀ b o v, b ≠ E → w.cell? ⟨b, o, none⟩ = some v → w'.cell? ⟨b, o, none⟩ = some v := fun b o v h1 hc => (World.cell?_of_block (w := w) (w' := w') (a := ⟨b, o, none⟩) (h.block b (cell_lt hc) h1)).trans hc
  refine ⟨h.size, fun b o t x hc => hk b o _ (fun e => ?_) hc, fun b o s hc => hk b o _ (fun e => ?_) hc⟩
  · subst e; exact (hE _ _ hc).1 _ _ rfl
  · subst e; exact (hE _ _ hc).2 _ rfl
theorem St.reads {B Z E O : Nat} {fv : Value} {fs : List FN} {st : EvSt} {w w' : World} (h : St B Z E O fv fs st w) (hf : FrH Z E O w w') : Reads2 w w' := by
  obtain ⟨sv, xs, ho⟩ := h.outs
  obtain ⟨a, c, e⟩ := ho.row.slice
  exact hf.reads h.ev ho.box ⟨a, _, c, e⟩
theorem OutRow.keep {Z E : Nat} {w w' : World} {sv : Value} {xs : List Value} (h : OutRow Z w sv xs) (hE : E < Z) (hb : ButE E w w') : OutRow Z w' sv xs := by
  rcases h with h | ⟨g, cap, e, h1, h2, h3⟩
  · exact .inl h
  · exact .inr ⟨g, cap, e, h1, (hb.block g (lt_heapE h2) (by omega)).trans h2, h3⟩
theorem St.step {B Z E O : Nat} {fv : Value} {fs : List FN} {st : EvSt} {fu : Nat} {w w' : World} (h : St B Z E O fv fs st w) (hb : ButE E w w') (he : EvB B E fv fs fu w') : St B Z E O fv fs (fu, st.2) w' := by
  obtain ⟨sv, xs, ho⟩ := h.outs
  have hr := hb.reads h.ev
  have hEZ := h.hEZ
  have hlo := ho.lo
  exact ⟨he, ⟨sv, xs, (hb.block O (lt_heapE ho.box) (by omega)).trans ho.box, ho.row.keep h.hEZ hb, ho.len, fun j hj => (ho.rep j hj).reads hr, ho.lo, ho.few⟩, h.hEZ, Nat.le_trans h.hZ hb.size⟩
theorem St.below {B Z E O : Nat} {fv : Value} {fs : List FN} {st : EvSt} {w w' : World} (h : St B Z E O fv fs st w) (hb : Below w.heap.size w w') : St B Z E O fv fs st w' := h.step (.of_below hb) (h.ev.below hb)
theorem St.hO {B Z E O : Nat} {fv : Value} {fs : List FN} {st : EvSt} {w : World} (h : St B Z E O fv fs st w) : O < w.heap.size ∧ Z ≤ O := by
  obtain ⟨sv, xs, ho⟩ := h.outs
  exact ⟨lt_heapE ho.box, ho.lo⟩
def ErrV (w : World) (c : Int) (v : Value) : Prop := (c = 0 ∧ v = .nilIface) ∨ (c ≠ 0 ∧ Refuses w c v)
def HandAns (B Z E O : Nat) (fv : Value) (fs : List FN) (r : Int × EvSt) (w : World) (e : Ending) (w' : World) : Prop :=
  (∃ v, e = .returned v ∧ ErrV w' r.1 v) ∧ FrH Z E O w w' ∧ St B Z E O fv fs r.2 w'
structure HandOk (B Z E O D : Nat) (fv : Value) (fs : List FN) (w0 : World) (H : FuncId) (caps : Array Value) (h : HandM) : Prop where
  enter : ∀ x w, (callFunc H (#[x] ++ caps)).run Tryz.prog w = .ok (.enter H (#[x] ++ caps)) w
  le : ∀ ns st, okB ns = true → (h ns st).2.1 ≤ st.1
  says : ∀ w, FrH Z E O w0 w → ∀ st x ns, st.1 ≤ D → St B Z E O fv fs st w → Rep w ns x → Calls Tryz.prog H (#[x] ++ caps) w (HandAns B Z E O fv fs (h ns st) w)
theorem HandOk.on {B Z E O D : Nat} {fv : Value} {fs : List FN} {w0 w1 : World} {H : FuncId} {caps : Array Value} {h : HandM} (k : HandOk B Z E O D fv fs w0 H caps h) (hf : FrH Z E O w0 w1) : HandOk B Z E O D fv fs w1 H caps h :=
  ⟨k.enter, k.le, fun w hw => k.says w (hf.trans hw)⟩
end Go.Proofs.YtcidjhnogldgmaaGreatDoor

namespace Go.Proofs.YtcidjhnogldgmaaGreatDoor
open Go.RowKit
set_option linter.unusedSimpArgs false
set_option linter.unusedVariables false
theorem info_threeE {P : Program} {t : TypeId} {z : Option Value} {s b : Nat} (h : (P.info? t).map (fun i => (i.zero, i.size, i.bytes)) = some (z, s, b)) : ∃ i, P.info? t = some i ∧ i.zero = z ∧ i.size = s ∧ i.bytes = b := by
  cases hi : P.info? t with
  | none => simp [hi] at h
  | some i => simp [hi] at h; exact ⟨i, rfl, h.1, h.2.1, h.2.2⟩
theorem zero_nil (k : Nat) : Builtin.zeroCells (Value.cells .nilIface) k = (List.replicate k Value.nilIface).toArray := by
  unfold Builtin.zeroCells
  have e : Value.cells .nilIface = #[.nilIface] := rfl
  rw [e]
  apply Array.ext
  · simp
  · intro i h1 h2
    simp [Nat.mod_one]
structure AppFr (Z : Nat) (w w' : World) : Prop where
  os : w'.os = w.os
  tape : w'.tape = w.tape
  output : w'.output = w.output
  size : w.heap.size ≤ w'.heap.size
  block : ∀ k, k < Z → w'.heap[k]? = w.heap[k]?
  other : ∀ (k : Nat) (cs : Array Value) (t : TypeId) (z : Nat × Nat), t ≠ 42 → w.heap[k]? = some (Obj.cells cs t z) → w'.heap[k]? = some (Obj.cells cs t z)
  cell : ∀ b o v, v ≠ .nilIface → w.cell? ⟨b, o, none⟩ = some v → w'.cell? ⟨b, o, none⟩ = some v
theorem infoValE : (Tryz.prog.info? 42).map (fun i => (i.zero, i.size, i.bytes)) = some (some .nilIface, 1, 16) := by kernel_rfl
theorem grown_fr (Z : Nat) (w : World) (o : Obj) (hZ : Z ≤ w.heap.size) : AppFr Z w (w.drew.alloc o) :=
  ⟨rfl, rfl, rfl, by simp, fun k hk => Go.heap_alloc_old w.drew o (by simpa using Nat.lt_of_lt_of_le hk hZ), fun k cs t z _ h => by
      have hk : k < w.drew.heap.size := by simpa using lt_heapE h
      exact (Go.heap_alloc_old w.drew o hk).trans h, fun b o' v _ h => by
      have hk : b < w.drew.heap.size := by simpa using cell_lt h
      exact (World.cell?_of_block (w := w.drew) (a := ⟨b, o', none⟩) (Go.heap_alloc_old w.drew o hk)).trans h⟩
set_option maxRecDepth 100000 in
set_option maxHeartbeats 1600000 in
theorem append_out {Z : Nat} {w : World} {sv : Value} {xs : List Value} (h : OutRow Z w sv xs) (a : Addr) (c : Nat) (x : Value) (ty : TypeId) (hx : w.cell? (a.add 0) = some x) (h1 : x.oneCell' = true) (hlen : xs.length ≤ 100000) (hZ : Z ≤ w.heap.size) :
    ∃ v' w', (Builtin.append_ #[56, 56] ty #[sv, .slice (some a) 1 c]).run Tryz.prog w = .ok v' w' ∧ OutRow Z w' v' (xs ++ [x]) ∧ AppFr Z w w' := by
  obtain ⟨i0, hi0, hz0, hs0, hy0⟩ := info_threeE infoValE
  have hl1 : [x].length = 1 * i0.size := by rw [hs0]; rfl
  have hnews : ∀ j v, [x][j]? = some v → w.cell? (a.add j) = some v := by
    intro j v hv
    match j, hv with
    | 0, hv => simp at hv; subst hv; exact hx
    | j + 1, hv => simp at hv
  rcases h with ⟨rfl, rfl⟩ | ⟨g, cap, rfl, hg, hh, hnc, hcm, hc0⟩
  · have hr := run_append_nil (P := Tryz.prog) w 56 ty 42 i0 .nilIface Tryz.underlying56 hi0 hz0 a 1 c [x] hl1 hnews (by omega) (by omega) (by rw [hy0]; omega)
    refine ⟨_, _, hr, .inr ⟨w.heap.size, grownCap w 1 0 42, rfl, hZ, ?_, ?_, ?_, ?_⟩, grown_fr Z w _ hZ⟩
    · rw [zero_nil]
      exact (Go.heap_alloc_new w.drew _).trans (by simp)
    · have := grownCap_ge w 1 0 42; simpa using this
    · exact grownCap_le_maxLen w 1 0 42 (by unfold maxLen; omega)
    · have := grownCap_ge w 1 0 42; omega
  · by_cases hroom : xs.length + 1 ≤ cap
    · have hcs : (xs ++ List.replicate (cap - xs.length) Value.nilIface).toArray.size = cap := by simp; omega
      have hr := run_append_room (P := Tryz.prog) w 56 ty 42 i0 Tryz.underlying56 hi0 g xs.length cap _ hh a 1 c [x] hl1 hnews (by intro u hu; simp at hu; subst hu; exact h1) hroom (by rw [hs0, hcs]; simpa using hroom)
      have hrow : ((xs ++ List.replicate (cap - xs.length) Value.nilIface).toArray.toList.take (xs.length * i0.size) ++ [x] ++ (xs ++ List.replicate (cap - xs.length) Value.nilIface).toArray.toList.drop (xs.length * i0.size + [x].length)).toArray = ((xs ++ [x]) ++ List.replicate (cap - (xs ++ [x]).length) Value.nilIface).toArray := by
        rw [hs0]
        have e1 : (xs ++ List.replicate (cap - xs.length) Value.nilIface).take (xs.length * 1) = xs := by rw [Nat.mul_one, List.take_left]
        have e2 : (xs ++ List.replicate (cap - xs.length) Value.nilIface).drop (xs.length * 1 + [x].length) = List.replicate (cap - (xs ++ [x]).length) Value.nilIface := by
          have e3 : xs.length * 1 + [x].length = xs.length + 1 := by simp
          have e4 : (xs ++ [x]).length = xs.length + 1 := by simp
          rw [e3, e4, List.drop_append, List.drop_eq_nil_of_le (by omega), List.nil_append, List.drop_replicate]
          congr 1
          omega
        simp only [List.toList_toArray, e1, e2]
      rw [hrow] at hr
      refine ⟨_, _, hr, .inr ⟨g, cap, ?_, hg, setRow_heap w g _ _ _ _ hh, by simpa using hroom, hcm, hc0⟩, ⟨rfl, rfl, rfl, by simp, fun k hk => setRow_other w g k _ (by omega), fun k cs t z ht hk => ?_, fun b o v hv hb => ?_⟩⟩
      · simp
      · rw [setRow_other w g k _ (fun e => ht (by subst e; rw [hh] at hk; injection hk with hk; injection hk with _ e2 _; exact e2.symm))]
        exact hk
      · by_cases e : b = g
        · subst e
          rw [heap_cell (setRow_heap w b _ _ _ _ hh)]
          rw [heap_cell hh] at hb
          rw [List.getElem?_toArray] at hb ⊢
          by_cases ho : o < xs.length
          · rw [List.getElem?_append_left ho] at hb
            rw [List.append_assoc, List.getElem?_append_left ho]
            exact hb
          · rw [List.getElem?_append_right (by omega)] at hb
            rw [List.getElem?_replicate] at hb
            split at hb
            · injection hb with hb; exact absurd hb.symm hv
            · cases hb
        · exact (World.cell?_of_block (w := w) (a := ⟨b, o, none⟩) (setRow_other w g b _ e)).trans hb
    · have hce : cap = xs.length := by omega
      have holds : ∀ j v, xs[j]? = some v → w.cell? ((⟨g, 0, none⟩ : Addr).add j) = some v := by
        intro j v hv
        have hadd : (⟨g, 0, none⟩ : Addr).add j = ⟨g, j, none⟩ := by unfold Addr.add; split <;> simp_all
        rw [hadd, heap_cell hh, List.getElem?_toArray]
        have hj : j < xs.length := by
          rcases Nat.lt_or_ge j xs.length with h | h
          · exact h
          · rw [List.getElem?_eq_none h] at hv; cases hv
        rw [List.getElem?_append_left hj]
        exact hv
      have hr := run_append_grow (P := Tryz.prog) w 56 ty 42 i0 .nilIface Tryz.underlying56 hi0 hz0 ⟨g, 0, none⟩ xs.length cap xs (by rw [hs0]; simp) holds a 1 c [x] hl1 hnews (by omega) (by omega) (growslice_fits (by omega) (by rw [hy0]; omega))
      refine ⟨_, _, hr, .inr ⟨w.heap.size, grownCap w (xs.length + 1) cap 42, ?_, hZ, ?_, ?_, ?_, ?_⟩, grown_fr Z w _ hZ⟩
      · simp
      · rw [zero_nil]
        exact (Go.heap_alloc_new w.drew _).trans (by simp)
      · have := grownCap_ge w (xs.length + 1) cap 42; simpa using this
      · exact grownCap_le_maxLen w (xs.length + 1) cap 42 (by unfold maxLen; omega)
      · have := grownCap_ge w (xs.length + 1) cap 42; omega
end Go.Proofs.YtcidjhnogldgmaaGreatDoor

namespace Go.Proofs.YtcidjhnogldgmaaGreatDoor
open Go.RowKit
set_option linter.unusedSimpArgs false
set_option linter.unusedVariables false
theorem wpList_out {ops : Array Oper} {rest : List Oper} {o : Oper} {a : Act} {Q : Exit → Act → World → Prop} {w : World} (hgd : o.guard = none) (s x : Operand)
    (ho : o.op = .call { callee := .builtin .append, args := #[s, x], argTypes := #[56, 56] }) {Z : Nat} {sv : Value} {xs : List Value} (hs : a.eval s = sv) (hrow : OutRow Z w sv xs) (ad : Addr) (c : Nat) (y : Value)
    (hx : a.eval x = .slice (some ad) 1 c) (hy : w.cell? (ad.add 0) = some y) (h1 : y.oneCell' = true) (hlen : xs.length ≤ 100000) (hZ : Z ≤ w.heap.size)
    (h : ∀ v' w', OutRow Z w' v' (xs ++ [y]) → AppFr Z w w' → wpList Tryz.prog ops Q rest (a.put o.dst v') w') : wpList Tryz.prog ops Q (o :: rest) a w := by
  refine wpList_plain hgd fun K hK => ?_
  obtain ⟨v', w', hr, h2, h3⟩ := append_out (Z := Z) hrow ad c y o.type hy h1 hlen hZ
  unfold Oper.wp execOp
  simp only [ho, resolve, invoke, builtin, Sem.run_bind, Sem.run_pure, Result.andThen_ok, List.map_toArray, List.map_cons, List.map_nil, hs, hx, hr]
  exact hK _ _ (h v' w' h2 h3)
theorem iface_one (t : TypeId) (y : Value) : (Value.iface t y).oneCell' = true := rfl
theorem rep_snoc {xs : List Value} {x : Value} {outs : List (List VN)} {ns : List VN} {w : World} (hl : xs.length = outs.length) (h : ∀ j, j < outs.length → Rep w (rowAt outs j) (xs.getD j undef)) (hx : Rep w ns x) : ∀ j, j < (outs ++ [ns]).length → Rep w (rowAt (outs ++ [ns]) j) ((xs ++ [x]).getD j undef) := by
  intro j hj
  unfold rowAt
  rw [List.getD_eq_getElem?_getD, List.getD_eq_getElem?_getD]
  by_cases e : j < outs.length
  · rw [List.getElem?_append_left e, List.getElem?_append_left (by omega)]
    have := h j e
    unfold rowAt at this
    rwa [List.getD_eq_getElem?_getD, List.getD_eq_getElem?_getD] at this
  · have hj' : j = outs.length := by simp at hj; omega
    subst hj'
    rw [List.getElem?_append_right (Nat.le_refl _), ← hl, List.getElem?_append_right (Nat.le_refl _)]
    simpa using hx
theorem set_heapE {w : World} {b i : Nat} {cs : Array Value} {T : TypeId} {z : Nat × Nat} (h : w.heap[b]? = some (.cells cs T z)) (u : Value) : (w.setCell ⟨b, i, none⟩ u).heap[b]? = some (.cells (cs.setIfInBounds i u) T z) := by
  have hlt := lt_heapE h
  simp [World.setCell, Array.getElem?_modify, h]
theorem St.hBZ {B Z E O : Nat} {fv : Value} {fs : List FN} {st : EvSt} {w : World} (h : St B Z E O fv fs st w) : B < Z := Nat.lt_of_le_of_lt h.ev.hBE h.hEZ
theorem push_done {B Z E O : Nat} {fv : Value} {fs : List FN} {st : EvSt} {w W1 w2 : World} {sv sv' x : Value} {xs : List Value} {ns : List VN} (hst : St B Z E O fv fs st w) (ho : OutsAt Z E O w st.2 sv xs) (hrep : Rep w ns x) (h1 : Below w.heap.size w W1) (hr : OutRow Z w2 sv' (xs ++ [x])) (hf : AppFr Z W1 w2) (hlt : st.2.length ≠ 40) :
    FrH Z E O w (w2.setCell ⟨O, 0, none⟩ sv') ∧ St B Z E O fv fs (st.1, st.2 ++ [ns]) (w2.setCell ⟨O, 0, none⟩ sv') := by
  have hOl := lt_heapE ho.box
  have hOZ := ho.lo
  have hZ := hst.hZ
  have hEZ := hst.hEZ
  have hBZ := hst.hBZ
  have b1 : W1.heap[O]? = some (.cells #[sv] 56 (0, 0)) := (h1.block O hOl).trans ho.box
  have b2 : w2.heap[O]? = some (.cells #[sv] 56 (0, 0)) := hf.other O _ _ _ (by decide) b1
  have b3 : (w2.setCell ⟨O, 0, none⟩ sv').heap[O]? = some (.cells #[sv'] 56 (0, 0)) := by
    have := set_heapE (i := 0) b2 sv'
    simpa using this
  have hk : ∀ k, k ≠ O → (w2.setCell ⟨O, 0, none⟩ sv').heap[k]? = w2.heap[k]? := fun k hk => Below.heap_setCell _ _ _ _ hk
  have fr : FrH Z E O w (w2.setCell ⟨O, 0, none⟩ sv') := by
    refine ⟨hf.os.trans h1.os, hf.tape.trans h1.tape, hf.output.trans h1.output, ?_, fun k hkZ hkE => ?_, fun b o v hb1 hb2 hv hc => ?_⟩
    · have := h1.size; have := hf.size; simp; omega
    · exact (hk k (by omega)).trans ((hf.block k hkZ).trans (h1.block k (by omega)))
    · have c1 : W1.cell? ⟨b, o, none⟩ = some v := (World.cell?_of_block (w := w) (a := ⟨b, o, none⟩) (h1.block b (cell_lt hc))).trans hc
      exact (World.cell?_of_block (w := w2) (a := ⟨b, o, none⟩) (hk b hb2)).trans (hf.cell b o v hv c1)
  have hbel : Below B w (w2.setCell ⟨O, 0, none⟩ sv') := fr.below hst.ev.hBE (by omega)
  have hrd := hst.reads fr
  refine ⟨fr, ⟨?_, hst.ev.nodes.below hbel, hst.ev.hBE, hst.ev.errs.below hbel⟩, ⟨sv', xs ++ [x], b3, ?_, ?_, ?_, hOZ, by have := ho.few; simp; omega⟩, hEZ, Nat.le_trans hZ fr.size⟩
  · exact (hk E (by omega)).trans ((hf.block E hEZ).trans ((h1.block E (by omega)).trans hst.ev.blk))
  · rcases hr with ⟨e1, e2⟩ | ⟨g, cap, e, hg, hh, rest⟩
    · exact .inl ⟨e1, e2⟩
    · refine .inr ⟨g, cap, e, hg, (hk g (fun e => ?_)).trans hh, rest⟩
      subst e
      rw [b2] at hh
      injection hh with hh
      injection hh with _ e2 _
      revert e2
      decide
  · simp [ho.len]
  · exact rep_snoc ho.len (fun j hj => (ho.rep j hj).reads hrd) (hrep.reads hrd)
set_option maxRecDepth 100000 in
set_option maxHeartbeats 3200000 in
theorem push_hand (B Z E O D : Nat) (fv : Value) (fs : List FN) (w0 : World) : HandOk B Z E O D fv fs w0 62 #[.pointer (some ⟨O, 0, none⟩)] pushM := by
  refine ⟨fun x w => by kernel_rfl, fun ns st _ => by unfold pushM; split <;> exact Nat.le_refl _, fun w _ st x ns _ hst hrep => ?_⟩
  show Calls Tryz.prog 62 #[x, .pointer (some ⟨O, 0, none⟩)] w _
  obtain ⟨sv, xs, ho⟩ := hst.outs
  have HO := hideIt ho
  have HST := hideIt hst
  have HR := hideIt hrep
  obtain ⟨a, c, e⟩ := ho.row.slice
  have hlen := ho.len
  have hfew := ho.few
  have k1 : w.cell? ⟨O, 0, none⟩ = some sv := heap_cell ho.box 0
  have k2 : w.frozen? ⟨O, 0, none⟩ = false := by simp [World.frozen?, ho.box]
  obtain ⟨M, hM⟩ : ∃ M, xs.length = M := ⟨_, rfl⟩
  have HM := hideIt hM
  rw [hM] at e hlen
  subst e
  obtain ⟨ty, y, rfl⟩ := hrep.iface
  clear ho hst hrep hM
  by_cases h40 : M = 40
  · have HP : Hid (pushM ns st = (3, st)) := by unfold Hid pushM; rw [if_pos (by omega)]
    obtain ⟨a1, a0, p1, p2, p3, p4, p5⟩ := HST.out.ev.errs.now.outs
    have HRS : Hid (Rsn w 3 282 (.pointer (some a1))) := ⟨a1, a0, rfl, rfl, p2, ⟨fun e => absurd e (by decide), fun e => absurd e p3⟩, p4, p5⟩
    have h40' : (M : Int) = 40 := by omega
    rw [HP.out]
    clear p2 p3 p4 p5 hlen hfew
    subst h40
    go_enter Tryz.func62, Tryz.ntmps62
    go_wp2_with fail
    go_ret
    exact ⟨⟨_, rfl, .inr ⟨(show (3 : Int) ≠ 0 by decide), _, _, rfl, HRS.out⟩⟩, FrH.refl _ _ _ _, HST.out⟩
  · have HP : Hid (pushM ns st = (0, (st.1, st.2 ++ [ns]))) := by unfold Hid pushM; rw [if_neg (by omega)]
    have hM40 : ¬ (M : Int) = 40 := by omega
    rw [HP.out]
    have hO := HST.out.hO
    have hOl := hO.1
    have hOZ := hO.2
    have HZ := hideIt HST.out.hZ
    have HEZ := hideIt HST.out.hEZ
    clear hO
    obtain ⟨W1, hW1⟩ : ∃ W1, w.alloc (.cells #[.iface ty y] 42) = W1 := ⟨_, rfl⟩
    have HB1 : Hid (Below w.heap.size w W1) := by rw [Hid, ← hW1]; exact (Below.refl _ _).alloc (Nat.le_refl _) _
    have k3 : Hid (W1.cell? ((⟨w.heap.size, 0, none⟩ : Addr).add 0) = some (.iface ty y)) := by rw [Hid, ← hW1]; simp [Addr.add]
    have HOR : Hid (OutRow Z W1 (.slice a M c) xs) := HO.out.row.keep HEZ.out (.of_below HB1.out)
    have hsz : W1.heap.size = w.heap.size + 1 := by rw [← hW1]; simp
    have HW := hideIt hW1
    have HSZ := hideIt hsz
    have hO1 : Hid (W1.heap[O]? = some (.cells #[.slice a M c] 56 (0, 0))) := (HB1.out.block O hOl).trans HO.out.box
    have HL : Hid (M = st.2.length ∧ M ≤ 39) := ⟨hlen, by omega⟩
    clear hlen hsz hfew
    go_enter Tryz.func62, Tryz.ntmps62
    go_wp2_with (at_builtin; refine wpList_out (Z := Z) (xs := xs) rfl _ _ rfl rfl HOR.out ⟨w.heap.size, 0, none⟩ 1 (.iface ty y) rfl k3.out (iface_one _ _) (by have := HM.out; have := HL.out.2; omega) (by have := HZ.out; have := HSZ.out; omega) ?_)
    intro sv' w2 hr2 hf2
    have HO2 : Hid (w2.heap[O]? = some (.cells #[.slice a M c] 56 (0, 0))) := hf2.other O _ _ _ (by decide) hO1.out
    have l1 : w2.cell? ⟨O, 0, none⟩ = some (.slice a M c) := heap_cell HO2.out 0
    have l2 : w2.frozen? ⟨O, 0, none⟩ = false := by simp [World.frozen?, HO2.out]
    have HDONE := hideIt (push_done HST.out HO.out HR.out HB1.out hr2 hf2 (by have := HL.out; omega))
    obtain ⟨a2, c2, e2⟩ := hr2.slice
    obtain ⟨M2, hM2⟩ : ∃ M2, (xs ++ [Value.iface ty y]).length = M2 := ⟨_, rfl⟩
    rw [hM2] at e2
    subst e2
    clear hr2 hf2 hM2
    go_wp2_with fail
    go_ret
    exact ⟨⟨_, rfl, .inl ⟨rfl, rfl⟩⟩, HDONE.out.1, HDONE.out.2⟩
end Go.Proofs.YtcidjhnogldgmaaGreatDoor

namespace Go.Proofs.YtcidjhnogldgmaaGreatDoor
open Go.RowKit
set_option linter.unusedSimpArgs false
set_option linter.unusedVariables false
def ItemsRep (w : World) (it : Value) (l : List (List VN)) : Prop :=
  l.length ≤ 100000 ∧ ∃ a c, it = .slice a l.length c ∧ (0 < l.length → ∃ b, a = some ⟨b, 0, none⟩ ∧ ∀ j, j < l.length → ∃ t x, w.cell? ⟨b, j, none⟩ = some (.iface t x) ∧ Rep w (rowAt l j) (.iface t x))
theorem ItemsRep.reads {w w' : World} {it : Value} {l : List (List VN)} (h : ItemsRep w it l) (hr : Reads2 w w') : ItemsRep w' it l := by
  obtain ⟨h0, a, c, e, hx⟩ := h
  refine ⟨h0, a, c, e, fun hp => ?_⟩
  obtain ⟨b, ea, hj⟩ := hx hp
  refine ⟨b, ea, fun j hlt => ?_⟩
  obtain ⟨t, x, hc, hR⟩ := hj j hlt
  exact ⟨t, x, hr.ifc _ _ _ _ hc, hR.reads hr⟩
theorem drop_rowAt {l : List (List VN)} {k : Nat} (h : k < l.length) : l.drop k = rowAt l k :: l.drop (k + 1) := by
  rw [List.drop_eq_getElem_cons h]
  congr 1
  unfold rowAt
  rw [List.getD_eq_getElem?_getD, List.getElem?_eq_getElem h]
  rfl
theorem handAll_step (h : HandM) {l : List (List VN)} {k : Nat} (hk : k < l.length) (st : EvSt) : handAllM h (l.drop k) st = if (h (rowAt l k) st).1 = 0 then handAllM h (l.drop (k + 1)) (h (rowAt l k) st).2 else h (rowAt l k) st := by
  rw [drop_rowAt hk, handAllM]
theorem handAll_end (h : HandM) (l : List (List VN)) (st : EvSt) : handAllM h (l.drop l.length) st = (0, st) := by
  rw [List.drop_length]; rfl
set_option maxRecDepth 100000 in
set_option maxHeartbeats 3200000 in
theorem handOr_no {c : Int} (u v H : Value) (w : World) (hc : c ≠ 0) (hu : u = .nilIface ∨ ∃ t x, u = .iface t x) (hv : Refuses w c v) :
    Calls Tryz.prog 93 #[u, v, H] w fun e w' => e = .returned v ∧ w' = w := by
  obtain ⟨te, xe, rfl, hr⟩ := hv
  clear hr
  rcases hu with rfl | ⟨t, x, rfl⟩
  all_goals
    go_enter Tryz.func93, Tryz.ntmps93
    go_wp2_with fail
    go_ret
    exact ⟨rfl, rfl⟩
set_option maxRecDepth 100000 in
set_option maxHeartbeats 3200000 in
theorem handOr_yes {B Z E O D : Nat} {fv : Value} {fs : List FN} {H : FuncId} {caps : Array Value} {h : HandM} {w : World} {st : EvSt} {ns : List VN} {x : Value} (hh : HandOk B Z E O D fv fs w H caps h) (hst : St B Z E O fv fs st w) (hx : Rep w ns x) (hD : st.1 ≤ D) :
    Calls Tryz.prog 93 #[x, .nilIface, .func (.func H) #[] caps] w (HandAns B Z E O fv fs (h ns st) w) := by
  have HH := hideIt hh
  have HST := hideIt hst
  have HX := hideIt hx
  obtain ⟨ty, y, rfl⟩ := hx.iface
  obtain ⟨R, hR⟩ : ∃ R, h ns st = R := ⟨_, rfl⟩
  have HR := hideIt hR
  rw [hR]
  clear hh hst hx hR
  go_enter Tryz.func93, Tryz.ntmps93
  go_wp2_with fail
  rw [HH.out.enter, Oper.upon_enter]
  refine (HH.out.says w (FrH.refl _ _ _ _) st _ ns hD HST.out HX.out).mono ?_
  rintro e w1 ⟨⟨v, rfl, hev⟩, hf, hs⟩
  rw [HR.out] at hev hs
  have HEV := hideIt hev
  have HF := hideIt hf
  have HS := hideIt hs
  clear hev hf hs
  go_wp2_with fail
  go_ret
  exact ⟨⟨_, rfl, HEV.out⟩, HF.out, HS.out⟩
set_option maxRecDepth 100000 in
set_option maxHeartbeats 6400000 in
theorem handAll_any {B Z E O D : Nat} {fv : Value} {fs : List FN} {H : FuncId} {caps : Array Value} {h : HandM} {w : World} {st : EvSt} {l : List (List VN)} {it : Value} (hh : HandOk B Z E O D fv fs w H caps h) (hst : St B Z E O fv fs st w) (hit : ItemsRep w it l) (hD : st.1 ≤ D) :
    Calls Tryz.prog 115 #[it, .func (.func H) #[] caps] w (HandAns B Z E O fv fs (handAllM h l st) w) := by
  have HH := hideIt hh
  have HST := hideIt hst
  have HIT := hideIt hit
  obtain ⟨h0, a, c, rfl, hx⟩ := hit
  have HXX := hideIt hx
  obtain ⟨R, hR⟩ : ∃ R, handAllM h l st = R := ⟨_, rfl⟩
  have HR : Hid (handAllM h (l.drop 0) st = R) := by rw [Hid, List.drop_zero]; exact hR
  have HEND := hideIt (handAll_end h l)
  have HSTEP : Hid (∀ k, k < l.length → ∀ st, handAllM h (l.drop k) st = if (h (rowAt l k) st).1 = 0 then handAllM h (l.drop (k + 1)) (h (rowAt l k) st).2 else h (rowAt l k) st) := fun k hk st => handAll_step h hk st
  rw [hR]
  obtain ⟨M, hM⟩ : ∃ M, l.length = M := ⟨_, rfl⟩
  rw [hM] at HEND HSTEP HXX h0 ⊢
  have HM := hideIt hM
  clear hh hst hx hR hM
  go_enter Tryz.func115, Tryz.ntmps115
  go_wp2_with fail
  go_loopw [6, 7, 10] (fun _ _ i wr => ∃ (k : Nat) (sk : EvSt), k ≤ M ∧ i = .int .i64 k ∧ Hid (sk.1 ≤ D) ∧ handAllM h (l.drop k) sk = R ∧ FrH Z E O w wr ∧ St B Z E O fv fs sk wr) (fun _ _ i _ => M - (intOf i).toNat)
  case atStart => exact ⟨0, st, Nat.zero_le _, rfl, hD, HR.out, FrH.refl _ _ _ _, HST.out⟩
  case round =>
    obtain ⟨k, sk, hk, rfl, HSD, hrk, hf, hs⟩ := hrel
    have HRK := hideIt hrk
    have HF := hideIt hf
    have HS := hideIt hs
    clear hrk hf hs
    by_cases hlt : k < M
    · have hlt' : (k : Int) < (M : Int) := by omega
      obtain ⟨b, rfl, hj⟩ := HXX.out (by omega)
      obtain ⟨t, x, hc, hrep⟩ := hj k hlt
      have hrd := HST.out.reads HF.out
      have hck := hrd.ifc _ _ _ _ hc
      have HREP := hideIt (hrep.reads hrd)
      have HST2 := hideIt (HSTEP.out k hlt sk)
      have hle := HH.out.le (rowAt l k) sk hrep.1
      clear hj hc hrep hrd
      obtain ⟨G, hG⟩ : ∃ G, h (rowAt l k) sk = G := ⟨_, rfl⟩
      have HG := hideIt hG
      rw [hG] at HST2 hle
      have HLE : Hid (G.2.1 ≤ D) := Nat.le_trans hle HSD.out
      clear hG hle
      go_wp2_with fail
      rw [HH.out.enter, Oper.upon_enter]
      refine (HH.out.says _ HF.out sk _ _ HSD.out HS.out HREP.out).mono ?_
      rintro e w1 ⟨⟨v, rfl, hev⟩, hf1, hs1⟩
      rw [HG.out] at hev hs1
      have HF1 := hideIt (HF.out.trans hf1)
      have HS1 := hideIt hs1
      clear hf1 hs1
      rcases hev with ⟨h1, rfl⟩ | ⟨h1, te, xe, rfl, hr⟩
      · have HE : Hid (handAllM h (l.drop (k + 1)) G.2 = R) := by rw [Hid, ← HRK.out, HST2.out, if_pos h1]
        clear h1
        go_wp2_with fail
        go_roundw
        case rel => exact ⟨k + 1, G.2, by omega, by go_num, HLE, HE.out, HF1.out, HS1.out⟩
        case measure => simp [intOf]; omega
      · have HE : Hid (G = R) := by rw [Hid, ← HRK.out, HST2.out, if_neg h1]
        have HRR := hideIt hr
        have H1 := hideIt h1
        clear hr h1
        go_wp2_with fail
        go_ret
        exact ⟨⟨_, rfl, .inr (by rw [← HE.out]; exact ⟨H1.out, te, xe, rfl, HRR.out⟩)⟩, HF1.out, by rw [← HE.out]; exact HS1.out⟩
    · obtain rfl : k = M := by omega
      have HE : Hid (R = (0, sk)) := by rw [Hid, ← HRK.out]; exact HEND.out sk
      go_wp2_with fail
      go_ret
      exact ⟨⟨_, rfl, .inl ⟨by rw [HE.out], rfl⟩⟩, HF.out, by rw [HE.out]; exact HS.out⟩
def OcAns (B E : Nat) (fv : Value) (fs : List FN) (r : OcR) (w : World) (e : Ending) (w' : World) : Prop :=
  ∃ it ev, e = .returned (.tuple #[it, ev]) ∧ ((r.c = 0 ∧ ev = .nilIface ∧ ItemsRep w' it r.l) ∨ (r.c ≠ 0 ∧ it = .slice none 0 0 ∧ Refuses w' r.c ev)) ∧ ButE E w w' ∧ EvB B E fv fs r.fu w'
def OcOk (B E : Nat) (fv : Value) (fs : List FN) (d : Nat) : Prop := ∀ (n : Nat) (v : Value) (ns : List VN) (fu : Nat) (w : World), n < fs.length → EvB B E fv fs fu w → Rep w ns v → fu ≤ d →
  Calls Tryz.prog 39 #[.pointer (some ⟨E, 0, none⟩), .int .i64 n, v] w (OcAns B E fv fs (ocsM fs d n ns fu) w)
end Go.Proofs.YtcidjhnogldgmaaGreatDoor

namespace Go.Proofs.YtcidjhnogldgmaaGreatDoor
open Go.RowKit
set_option linter.unusedSimpArgs false
set_option linter.unusedVariables false
theorem tz_null_null (x : Value) (w : World) : (Instr.typeAssert (.iface 109 x) 42 109 true).run Tryz.prog w = .ok (.tuple #[x, .bool true]) w := by kernel_rfl
theorem tz_bool_null (x : Value) (w : World) : (Instr.typeAssert (.iface 68 x) 42 109 true).run Tryz.prog w = .ok (.tuple #[.agg #[], .bool false]) w := by kernel_rfl
theorem tz_int_null (x : Value) (w : World) : (Instr.typeAssert (.iface 70 x) 42 109 true).run Tryz.prog w = .ok (.tuple #[.agg #[], .bool false]) w := by kernel_rfl
theorem tz_text_null (x : Value) (w : World) : (Instr.typeAssert (.iface 72 x) 42 109 true).run Tryz.prog w = .ok (.tuple #[.agg #[], .bool false]) w := by kernel_rfl
theorem tz_list_null (x : Value) (w : World) : (Instr.typeAssert (.iface 107 x) 42 109 true).run Tryz.prog w = .ok (.tuple #[.agg #[], .bool false]) w := by kernel_rfl
theorem tz_map_null (x : Value) (w : World) : (Instr.typeAssert (.iface 96 x) 42 109 true).run Tryz.prog w = .ok (.tuple #[.agg #[], .bool false]) w := by kernel_rfl
theorem tz_null_bool (x : Value) (w : World) : (Instr.typeAssert (.iface 109 x) 42 68 true).run Tryz.prog w = .ok (.tuple #[.agg #[.int .i64 0], .bool false]) w := by kernel_rfl
theorem tz_bool_bool (x : Value) (w : World) : (Instr.typeAssert (.iface 68 x) 42 68 true).run Tryz.prog w = .ok (.tuple #[x, .bool true]) w := by kernel_rfl
theorem tz_int_bool (x : Value) (w : World) : (Instr.typeAssert (.iface 70 x) 42 68 true).run Tryz.prog w = .ok (.tuple #[.agg #[.int .i64 0], .bool false]) w := by kernel_rfl
theorem tz_text_bool (x : Value) (w : World) : (Instr.typeAssert (.iface 72 x) 42 68 true).run Tryz.prog w = .ok (.tuple #[.agg #[.int .i64 0], .bool false]) w := by kernel_rfl
theorem tz_list_bool (x : Value) (w : World) : (Instr.typeAssert (.iface 107 x) 42 68 true).run Tryz.prog w = .ok (.tuple #[.agg #[.int .i64 0], .bool false]) w := by kernel_rfl
theorem tz_map_bool (x : Value) (w : World) : (Instr.typeAssert (.iface 96 x) 42 68 true).run Tryz.prog w = .ok (.tuple #[.agg #[.int .i64 0], .bool false]) w := by kernel_rfl
theorem tz_null_list (x : Value) (w : World) : (Instr.typeAssert (.iface 109 x) 42 107 true).run Tryz.prog w = .ok (.tuple #[.agg #[.slice none 0 0], .bool false]) w := by kernel_rfl
theorem tz_bool_list (x : Value) (w : World) : (Instr.typeAssert (.iface 68 x) 42 107 true).run Tryz.prog w = .ok (.tuple #[.agg #[.slice none 0 0], .bool false]) w := by kernel_rfl
theorem tz_int_list (x : Value) (w : World) : (Instr.typeAssert (.iface 70 x) 42 107 true).run Tryz.prog w = .ok (.tuple #[.agg #[.slice none 0 0], .bool false]) w := by kernel_rfl
theorem tz_text_list (x : Value) (w : World) : (Instr.typeAssert (.iface 72 x) 42 107 true).run Tryz.prog w = .ok (.tuple #[.agg #[.slice none 0 0], .bool false]) w := by kernel_rfl
theorem tz_list_list (x : Value) (w : World) : (Instr.typeAssert (.iface 107 x) 42 107 true).run Tryz.prog w = .ok (.tuple #[x, .bool true]) w := by kernel_rfl
theorem tz_map_list (x : Value) (w : World) : (Instr.typeAssert (.iface 96 x) 42 107 true).run Tryz.prog w = .ok (.tuple #[.agg #[.slice none 0 0], .bool false]) w := by kernel_rfl
theorem tz_null_map (x : Value) (w : World) : (Instr.typeAssert (.iface 109 x) 42 96 true).run Tryz.prog w = .ok (.tuple #[.agg #[.slice none 0 0, .slice none 0 0], .bool false]) w := by kernel_rfl
theorem tz_bool_map (x : Value) (w : World) : (Instr.typeAssert (.iface 68 x) 42 96 true).run Tryz.prog w = .ok (.tuple #[.agg #[.slice none 0 0, .slice none 0 0], .bool false]) w := by kernel_rfl
theorem tz_int_map (x : Value) (w : World) : (Instr.typeAssert (.iface 70 x) 42 96 true).run Tryz.prog w = .ok (.tuple #[.agg #[.slice none 0 0, .slice none 0 0], .bool false]) w := by kernel_rfl
theorem tz_text_map (x : Value) (w : World) : (Instr.typeAssert (.iface 72 x) 42 96 true).run Tryz.prog w = .ok (.tuple #[.agg #[.slice none 0 0, .slice none 0 0], .bool false]) w := by kernel_rfl
theorem tz_list_map (x : Value) (w : World) : (Instr.typeAssert (.iface 107 x) 42 96 true).run Tryz.prog w = .ok (.tuple #[.agg #[.slice none 0 0, .slice none 0 0], .bool false]) w := by kernel_rfl
theorem tz_map_map (x : Value) (w : World) : (Instr.typeAssert (.iface 96 x) 42 96 true).run Tryz.prog w = .ok (.tuple #[x, .bool true]) w := by kernel_rfl
theorem Rep.cases {w : World} {ns : List VN} {x : Value} (h : Rep w ns x) :
    ((rootN ns).kind = 1 ∧ x = .iface 109 (.agg #[])) ∨ ((rootN ns).kind = 2 ∧ x = .iface 68 (.agg #[.int .i64 (rootN ns).n])) ∨ ((rootN ns).kind = 3 ∧ x = .iface 70 (.agg #[.int .i64 (rootN ns).n])) ∨ ((rootN ns).kind = 4 ∧ x = .iface 72 (.agg #[.string (rootN ns).s])) ∨
    ((rootN ns).kind = 5 ∧ ∃ it, x = .iface 107 (.agg #[it]) ∧ ItemsRep w it (partsL ns)) ∨ ((rootN ns).kind = 6 ∧ ∃ ks it, x = .iface 96 (.agg #[ks, it]) ∧ StrsAt w.heap.size w ks (rootN ns).keys ∧ ItemsRep w it (partsL ns)) := by
  obtain ⟨ok, ht⟩ := h
  have hlen : ((rootKids ns).map fun k => treeOf ns 79 k.toNat).length = (rootKids ns).length := by simp
  have hpl : (partsL ns).length = (rootKids ns).length := by simp [partsL]
  have hit : ∀ it, TItems w.heap.size w it ((rootKids ns).map fun k => treeOf ns 79 k.toNat).length (fun j u => TreeAt w.heap.size w 79 (kidT ((rootKids ns).map fun k => treeOf ns 79 k.toNat) j) u) → ItemsRep w it (partsL ns) := by
    rintro it ⟨h0, a, c, e, hx⟩
    rw [hlen] at h0 e hx
    refine ⟨by rw [hpl]; exact h0, a, c, by rw [hpl]; exact e, fun hp => ?_⟩
    rw [hpl] at hp ⊢
    obtain ⟨b, ea, _, hj⟩ := hx hp
    refine ⟨b, ea, fun j hlt => ?_⟩
    obtain ⟨t, y, hc, hv⟩ := hj j hlt
    refine ⟨t, y, hc, ?_⟩
    have hv' : TreeAt w.heap.size w 79 (kidT ((rootKids ns).map fun k => treeOf ns 79 k.toNat) j) (.iface t y) := hv
    rw [kid_map ns hlt] at hv'
    have e2 : rowAt (partsL ns) j = PL ns j := by
      unfold rowAt partsL
      rw [List.getD_eq_getElem?_getD, List.getElem?_map, List.getElem?_range hlt]
      rfl
    rw [e2]
    exact Rep.of hv' (PL_lay ok hlt) (PL_ok ok hlt)
  rw [root_mk] at ht
  rcases ht with ⟨k, _, _, _, _, e⟩ | ⟨k, _, _, _, e⟩ | ⟨k, _, _, _, e⟩ | ⟨k, _, _, _, e⟩ | ⟨k, _, _, _, it, e, hi⟩ | ⟨k, _, _, ks, it, e, hs, hi⟩
  · exact .inl ⟨k, e⟩
  · exact .inr (.inl ⟨k, e⟩)
  · exact .inr (.inr (.inl ⟨k, e⟩))
  · exact .inr (.inr (.inr (.inl ⟨k, e⟩)))
  · exact .inr (.inr (.inr (.inr (.inl ⟨k, it, e, hit it hi⟩))))
  · exact .inr (.inr (.inr (.inr (.inr ⟨k, ks, it, e, hs, hit it hi⟩))))
theorem leaf_lay (k n : Int) (s : ByteArray) : layT 1 (.mk k n s [] []) 0 = leafN k n s := rfl
theorem rep_null (w : World) : Rep w nullNs (.iface 109 (.agg #[])) :=
  Rep.of (f := 1) (t := .mk 1 0 ByteArray.empty [] []) (.inl ⟨rfl, rfl, rfl, rfl, rfl, rfl⟩) (leaf_lay _ _ _) null_ok
theorem rep_bool (b : Bool) (w : World) : Rep w (boolNs b) (.iface 68 (.agg #[.int .i64 (if b = true then 1 else 0)])) :=
  Rep.of (f := 1) (t := .mk 2 (if b = true then 1 else 0) ByteArray.empty [] []) (.inr (.inl ⟨rfl, rfl, rfl, rfl, rfl⟩)) (leaf_lay _ _ _) (bool_ok b)
theorem Rep.below {w w' : World} {ns : List VN} {x : Value} (h : Rep w ns x) (hb : Below w.heap.size w w') : Rep w' ns x := ⟨h.1, TreeAt.keep (B' := w'.heap.size) (fun k hk => hb.block k hk) hb.size h.2⟩
set_option maxHeartbeats 800000 in
theorem truthOf_any (b : Bool) (w : World) : Calls Tryz.prog 131 #[.bool b] w fun e w' => e = .returned (.iface 68 (.agg #[.int .i64 (if b = true then 1 else 0)])) ∧ w' = w := by
  cases b
  all_goals
    go_enter Tryz.func131, Tryz.ntmps131
    go_wp2_with fail
    go_ret
    exact ⟨rfl, rfl⟩
set_option maxRecDepth 100000 in
set_option maxHeartbeats 1600000 in
theorem counts_any (ns : List VN) (x : Value) (w : World) (h : Rep w ns x) : Calls Tryz.prog 120 #[x] w fun e w' => e = .returned (.bool (trueB ns)) ∧ Below w.heap.size w w' := by
  have z_null_null := tz_null_null
  have z_bool_null := tz_bool_null
  have z_int_null := tz_int_null
  have z_text_null := tz_text_null
  have z_list_null := tz_list_null
  have z_map_null := tz_map_null
  have z_null_bool := tz_null_bool
  have z_bool_bool := tz_bool_bool
  have z_int_bool := tz_int_bool
  have z_text_bool := tz_text_bool
  have z_list_bool := tz_list_bool
  have z_map_bool := tz_map_bool
  rcases h.cases with ⟨k, rfl⟩ | ⟨k, rfl⟩ | ⟨k, rfl⟩ | ⟨k, rfl⟩ | ⟨k, it, rfl, hi⟩ | ⟨k, ks, it, rfl, hs, hi⟩
  · have HT : Hid (trueB ns = false) := by unfold Hid trueB; simp [k]
    clear h k
    go_enter Tryz.func120, Tryz.ntmps120
    go_wp2_with fail
    go_ret
    exact ⟨ret_bool HT.out.symm, (Below.refl _ _).alloc (Nat.le_refl _) _⟩
  · have HT : Hid (trueB ns = decide ((rootN ns).n = 1)) := by unfold Hid trueB; simp [k]
    obtain ⟨N, hN⟩ : ∃ N, (rootN ns).n = N := ⟨_, rfl⟩
    rw [hN] at HT ⊢
    clear h k hN
    go_enter Tryz.func120, Tryz.ntmps120
    go_wp2_with fail
    go_ret
    exact ⟨ret_bool (by rw [HT.out]; rfl), (Below.refl _ _).alloc (Nat.le_refl _) _⟩
  · have HT : Hid (trueB ns = true) := by unfold Hid trueB; simp [k]
    clear h k
    go_enter Tryz.func120, Tryz.ntmps120
    go_wp2_with fail
    go_ret
    exact ⟨ret_bool HT.out.symm, Below.refl _ _⟩
  · have HT : Hid (trueB ns = true) := by unfold Hid trueB; simp [k]
    clear h k
    go_enter Tryz.func120, Tryz.ntmps120
    go_wp2_with fail
    go_ret
    exact ⟨ret_bool HT.out.symm, Below.refl _ _⟩
  · have HT : Hid (trueB ns = true) := by unfold Hid trueB; simp [k]
    obtain ⟨_, a, c, rfl, _⟩ := hi
    clear h k
    go_enter Tryz.func120, Tryz.ntmps120
    go_wp2_with fail
    go_ret
    exact ⟨ret_bool HT.out.symm, Below.refl _ _⟩
  · have HT : Hid (trueB ns = true) := by unfold Hid trueB; simp [k]
    obtain ⟨_, a, c, rfl, _⟩ := hi
    obtain ⟨_, _, a', c', rfl, _⟩ := hs
    clear h k
    go_enter Tryz.func120, Tryz.ntmps120
    go_wp2_with fail
    go_ret
    exact ⟨ret_bool HT.out.symm, Below.refl _ _⟩
def OneAns (r : Int × List VN) (w : World) (e : Ending) (w' : World) : Prop :=
  ((r.1 = 0 ∧ ∃ x, e = .returned (.tuple #[x, .nilIface]) ∧ Rep w' r.2 x) ∨ (r.1 ≠ 0 ∧ ∃ v, e = .returned (.tuple #[.nilIface, v]) ∧ Refuses w' r.1 v)) ∧ Below w.heap.size w w'
theorem rep_part {w : World} {it : Value} {l : List (List VN)} (h : ItemsRep w it l) {j : Nat} (hj : j < l.length) : ∃ b c t x, it = .slice (some ⟨b, 0, none⟩) l.length c ∧ w.cell? ⟨b, j, none⟩ = some (.iface t x) ∧ Rep w (rowAt l j) (.iface t x) := by
  obtain ⟨_, a, c, rfl, hx⟩ := h
  obtain ⟨b, rfl, hc⟩ := hx (by omega)
  obtain ⟨t, x, h1, h2⟩ := hc j hj
  exact ⟨b, c, t, x, rfl, h1, h2⟩
theorem parts_len (ns : List VN) : (partsL ns).length = (rootKids ns).length := by simp [partsL]
theorem parts_at (ns : List VN) {j : Nat} (h : j < (rootKids ns).length) : rowAt (partsL ns) j = PL ns j := by
  unfold rowAt partsL
  rw [List.getD_eq_getElem?_getD, List.getElem?_map, List.getElem?_range h]
  rfl
set_option maxRecDepth 100000 in
set_option maxHeartbeats 3200000 in
theorem atKey_any (ns : List VN) (x : Value) (key : ByteArray) (w : World) (h : Rep w ns x) (hE : Errs w) (hkey : key.size ≤ 1000000) : Calls Tryz.prog 128 #[x, .string key] w (OneAns (keyR ns key) w) := by
  have z_null_null := tz_null_null
  have z_bool_null := tz_bool_null
  have z_int_null := tz_int_null
  have z_text_null := tz_text_null
  have z_list_null := tz_list_null
  have z_map_null := tz_map_null
  have z_null_map := tz_null_map
  have z_bool_map := tz_bool_map
  have z_int_map := tz_int_map
  have z_text_map := tz_text_map
  have z_list_map := tz_list_map
  have z_map_map := tz_map_map
  obtain ⟨R, hR⟩ : ∃ R, keyR ns key = R := ⟨_, rfl⟩
  have HE := hideIt hE
  have HH := hideIt h
  clear hE
  have no : ∀ w1, Below w.heap.size w w1 → ∀ e, R = (2, []) → ∀ v, Refuses w1 2 v → e = .returned (.tuple #[.nilIface, v]) → OneAns R w e w1 := fun w1 hb e hr v hv he => by
    subst hr
    exact ⟨.inr ⟨(show (2 : Int) ≠ 0 by decide), v, he, hv⟩, hb⟩
  have NO := hideIt no
  rw [hR]
  clear no
  rcases h.cases with ⟨k, rfl⟩ | ⟨k, rfl⟩ | ⟨k, rfl⟩ | ⟨k, rfl⟩ | ⟨k, it, rfl, hi⟩ | ⟨k, ks, it, rfl, hs, hi⟩
  case inr.inr.inr.inr.inr =>
    have p := okB_parts h.1
    have hmk := map_keys h.1 k
    have hrise : Rise (rootN ns).keys := riseB_rise hmk.2
    by_cases hk : hasK (rootN ns).keys key = true
    · have hlt := hasK_lt hk
      have HQ : Hid (R = (0, PL ns (posK (rootN ns).keys key))) := by rw [Hid, ← hR]; unfold keyR; rw [if_neg (by omega), if_pos k, if_pos hk]
      obtain ⟨b, cap, t, y, rfl, hc, hrep⟩ := rep_part hi (j := posK (rootN ns).keys key) (by rw [parts_len, ← hmk.1]; exact hlt)
      rw [parts_at ns (by rw [← hmk.1]; exact hlt)] at hrep
      have HREP := hideIt hrep
      have hltp : posK (rootN ns).keys key < (partsL ns).length := by rw [parts_len, ← hmk.1]; exact hlt
      obtain ⟨M, hM⟩ : ∃ M, (partsL ns).length = M := ⟨_, rfl⟩
      rw [hM] at hltp ⊢
      have hM80 : M ≤ 1000 := by
        have := root_says h.1
        have h2 : (rootKids ns).length ≤ 80 := by have := p.2.2.2 (ns.length - 1) (by omega); unfold rootKids; omega
        rw [parts_len] at hM
        omega
      obtain ⟨Q, hQ⟩ : ∃ Q, posK (rootN ns).keys key = Q := ⟨_, rfl⟩
      have HS := hideIt hs
      have HRI := hideIt hrise
      have HHK := hideIt hk
      have HQQ := hideIt hQ
      have hkl : (rootN ns).keys.length ≤ 1048576 := by rw [hmk.1]; rw [parts_len] at hM; omega
      have HKL := hideIt hkl
      rw [hQ] at hltp hc
      have hblt := cell_lt hc
      obtain ⟨_, _, a', c', rfl, _⟩ := hs
      have HBX : Hid (Below w.heap.size w (w.alloc (.cells #[.slice a' (rootN ns).keys.length c', .slice (some ⟨b, 0, none⟩) M cap] 96))) := (Below.refl _ _).alloc (Nat.le_refl _) _
      clear h k hi p hmk hrise hk hlt hrep hM hkl hR hQ
      go_enter Tryz.func128, Tryz.ntmps128
      go_wp2_with fail
      refine (search_any w.heap.size _ (rootN ns).keys key _ (HS.out.below HBX.out) HRI.out HKL.out).mono ?_
      rintro e w1 ⟨rfl, rfl⟩
      rw [HHK.out, HQQ.out]
      go_wp2_with fail
      go_ret2
      exact ⟨.inl ⟨by rw [HQ.out], _, rfl, by rw [HQ.out]; exact HREP.out.below HBX.out⟩, HBX.out⟩
    · have HQ : Hid (R = (0, nullNs)) := by rw [Hid, ← hR]; unfold keyR; rw [if_neg (by omega), if_pos k, if_neg hk]
      have hk' : hasK (rootN ns).keys key = false := by simpa using hk
      have hkl : (rootN ns).keys.length ≤ 1048576 := by
        have h2 : (rootKids ns).length ≤ 80 := by have := p.2.2.2 (ns.length - 1) (by omega); unfold rootKids; omega
        rw [hmk.1]; omega
      obtain ⟨_, ai, ci, rfl, _⟩ := hi
      obtain ⟨M, hM⟩ : ∃ M, (partsL ns).length = M := ⟨_, rfl⟩
      rw [hM]
      have HS := hideIt hs
      have HRI := hideIt hrise
      have HHK := hideIt hk'
      have HKL := hideIt hkl
      obtain ⟨_, _, a', c', rfl, _⟩ := hs
      have HBX : Hid (Below w.heap.size w (w.alloc (.cells #[.slice a' (rootN ns).keys.length c', .slice ai M ci] 96))) := (Below.refl _ _).alloc (Nat.le_refl _) _
      obtain ⟨Q, hQ⟩ : ∃ Q, posK (rootN ns).keys key = Q := ⟨_, rfl⟩
      have HQQ := hideIt hQ
      clear h k p hmk hrise hk hk' hM hkl hR hQ
      go_enter Tryz.func128, Tryz.ntmps128
      go_wp2_with fail
      refine (search_any w.heap.size _ (rootN ns).keys key _ (HS.out.below HBX.out) HRI.out HKL.out).mono ?_
      rintro e w1 ⟨rfl, rfl⟩
      rw [HHK.out, HQQ.out]
      go_wp2_with fail
      go_ret2
      exact ⟨.inl ⟨by rw [HQ.out], _, rfl, by rw [HQ.out]; exact rep_null _⟩, HBX.out⟩
  case inl =>
    have HQ : Hid (R = (0, nullNs)) := by rw [Hid, ← hR]; unfold keyR; rw [if_pos k]
    clear h k hR
    go_enter Tryz.func128, Tryz.ntmps128
    go_wp2_with fail
    go_ret2
    exact ⟨.inl ⟨by rw [HQ.out], _, rfl, by rw [HQ.out]; exact rep_null _⟩, (Below.refl _ _).alloc (Nat.le_refl _) _⟩
  case inr.inr.inr.inr.inl =>
    have HQ : Hid (R = (2, [])) := by rw [Hid, ← hR]; unfold keyR; rw [if_neg (by omega), if_neg (by omega)]
    obtain ⟨_, ai, ci, rfl, _⟩ := hi
    obtain ⟨M, hM⟩ : ∃ M, (partsL ns).length = M := ⟨_, rfl⟩
    rw [hM]
    clear h k hR hM
    go_enter Tryz.func128, Tryz.ntmps128
    go_wp2_with fail
    refine (wrongKind_any _ HE.out).mono ?_
    rintro e w1 ⟨⟨v, rfl, te, xe, rfl, hrs⟩, rfl⟩
    have HRS := hideIt hrs
    clear hrs
    go_wp2_with fail
    go_ret2
    exact NO.out _ (Below.refl _ _) _ HQ.out _ ⟨te, xe, rfl, HRS.out⟩ rfl
  all_goals
    have HQ : Hid (R = (2, [])) := by rw [Hid, ← hR]; unfold keyR; rw [if_neg (by omega), if_neg (by omega)]
    clear h k hR
    go_enter Tryz.func128, Tryz.ntmps128
    go_wp2_with fail
    refine (wrongKind_any _ HE.out).mono ?_
    rintro e w1 ⟨⟨v, rfl, te, xe, rfl, hrs⟩, rfl⟩
    have HRS := hideIt hrs
    clear hrs
    go_wp2_with fail
    go_ret2
    exact NO.out _ (Below.refl _ _) _ HQ.out _ ⟨te, xe, rfl, HRS.out⟩ rfl
end Go.Proofs.YtcidjhnogldgmaaGreatDoor

namespace Go.Proofs.YtcidjhnogldgmaaGreatDoor
open Go.RowKit
set_option linter.unusedSimpArgs false
set_option linter.unusedVariables false
set_option maxRecDepth 100000 in
set_option maxHeartbeats 3200000 in
theorem atPlace_any (ns : List VN) (x : Value) (p : Int) (w : World) (h : Rep w ns x) (hE : Errs w) (hp1 : -1000000 ≤ p) (hp2 : p ≤ 1000000) : Calls Tryz.prog 129 #[x, .int .i64 p] w (OneAns (atR ns p) w) := by
  have z_null_null := tz_null_null
  have z_bool_null := tz_bool_null
  have z_int_null := tz_int_null
  have z_text_null := tz_text_null
  have z_list_null := tz_list_null
  have z_map_null := tz_map_null
  have z_null_list := tz_null_list
  have z_bool_list := tz_bool_list
  have z_int_list := tz_int_list
  have z_text_list := tz_text_list
  have z_list_list := tz_list_list
  have z_map_list := tz_map_list
  obtain ⟨R, hR⟩ : ∃ R, atR ns p = R := ⟨_, rfl⟩
  have HE := hideIt hE
  clear hE
  have no : ∀ w1, Below w.heap.size w w1 → ∀ e, R = (2, []) → ∀ v, Refuses w1 2 v → e = .returned (.tuple #[.nilIface, v]) → OneAns R w e w1 := fun w1 hb e hr v hv he => by
    subst hr
    exact ⟨.inr ⟨(show (2 : Int) ≠ 0 by decide), v, he, hv⟩, hb⟩
  have NO := hideIt no
  rw [hR]
  clear no
  rcases h.cases with ⟨k, rfl⟩ | ⟨k, rfl⟩ | ⟨k, rfl⟩ | ⟨k, rfl⟩ | ⟨k, it, rfl, hi⟩ | ⟨k, ks, it, rfl, hs, hi⟩
  case inr.inr.inr.inr.inl =>
    have h80 : (rootKids ns).length ≤ 80 := by
      have p := okB_parts h.1
      have := p.2.2.2 (ns.length - 1) (by omega); unfold rootKids; omega
    obtain ⟨M, hM⟩ : ∃ M, (partsL ns).length = M := ⟨_, rfl⟩
    have hMn : (rootKids ns).length = M := by rw [← hM, parts_len]
    have hM80 : (M : Int) ≤ 80 := by omega
    obtain ⟨_, a0, cap, rfl, _⟩ := id hi
    have HBZ : Hid (Below w.heap.size w (w.alloc (.cells #[.slice a0 M cap] 107))) := (Below.refl _ _).alloc (Nat.le_refl _) _
    by_cases hneg : p < 0
    · have hpl : placeOfM ns p = p + ((rootKids ns).length : Int) := by unfold placeOfM; rw [if_pos hneg]
      by_cases hq : 0 ≤ p + ((rootKids ns).length : Int)
      · obtain ⟨Q, hQ⟩ : ∃ Q : Nat, p + ((rootKids ns).length : Int) = (Q : Int) := ⟨(p + ((rootKids ns).length : Int)).toNat, by omega⟩
        have hQn : Q < (rootKids ns).length := by omega
        have HQ : Hid (R = (0, PL ns Q)) := by rw [Hid, ← hR]; unfold atR; rw [if_neg (by omega), if_pos k, hpl, hQ, if_pos ⟨by omega, by omega⟩, Int.toNat_natCast]
        obtain ⟨b, cap, t, y, e, hc, hrep⟩ := rep_part hi (j := Q) (by rw [parts_len]; exact hQn)
        injection e with e1 e2 e3
        subst e1 e3
        rw [parts_at ns hQn] at hrep
        have HREP := hideIt hrep
        have hblt := cell_lt hc
        have HBX : Hid (Below w.heap.size w (w.alloc (.cells #[.slice (some ⟨b, 0, none⟩) M cap] 107))) := (Below.refl _ _).alloc (Nat.le_refl _) _
        have hQM : Q < M := by rw [← hM, parts_len]; exact hQn
        rw [hM]
        rw [hMn] at hQ hq
        clear h k hi hrep hR hpl hQn hM hMn
        have d2 : 0 ≤ (Q : Int) := by omega
        have d3 : (Q : Int) < (M : Int) := by omega
        have d7 : (Q : Int) ≤ 80 := by omega
        have d4 : p + (M : Int) = (Q : Int) := hQ
        clear hQ
        go_enter Tryz.func129, Tryz.ntmps129
        go_wp2_with fail
        go_ret2
        exact ⟨.inl ⟨by rw [HQ.out], _, rfl, by rw [HQ.out]; exact HREP.out.below HBX.out⟩, HBX.out⟩
      · have HQ : Hid (R = (0, nullNs)) := by rw [Hid, ← hR]; unfold atR; rw [if_neg (by omega), if_pos k, hpl, if_neg (fun g => hq g.1)]
        rw [hM]
        rw [hMn] at hq
        have d2 : decide (0 ≤ p + (M : Int)) = false := by simpa using hq
        clear h k hi hR hpl hM hMn
        go_enter Tryz.func129, Tryz.ntmps129
        go_wp2_with fail
        go_ret2
        exact ⟨.inl ⟨by rw [HQ.out], _, rfl, by rw [HQ.out]; exact rep_null _⟩, HBZ.out⟩
    · have hpl : placeOfM ns p = p := by unfold placeOfM; rw [if_neg hneg]
      by_cases hq : p < ((rootKids ns).length : Int)
      · obtain ⟨Q, hQ⟩ : ∃ Q : Nat, p = (Q : Int) := ⟨p.toNat, by omega⟩
        have hQn : Q < (rootKids ns).length := by omega
        have HQ : Hid (R = (0, PL ns Q)) := by rw [Hid, ← hR]; unfold atR; rw [if_neg (by omega), if_pos k, hpl, hQ, if_pos ⟨by omega, by omega⟩, Int.toNat_natCast]
        obtain ⟨b, cap, t, y, e, hc, hrep⟩ := rep_part hi (j := Q) (by rw [parts_len]; exact hQn)
        injection e with e1 e2 e3
        subst e1 e3
        rw [parts_at ns hQn] at hrep
        have HREP := hideIt hrep
        have hblt := cell_lt hc
        have HBX : Hid (Below w.heap.size w (w.alloc (.cells #[.slice (some ⟨b, 0, none⟩) M cap] 107))) := (Below.refl _ _).alloc (Nat.le_refl _) _
        have hQM : Q < M := by rw [← hM, parts_len]; exact hQn
        rw [hM]
        rw [hMn] at hq
        subst hQ
        clear h k hi hrep hR hpl hQn hM hMn
        have d2 : 0 ≤ (Q : Int) := by omega
        have d3 : (Q : Int) < (M : Int) := by omega
        have d7 : (Q : Int) ≤ 80 := by omega
        have d5 : ¬ (Q : Int) < 0 := by omega
        go_enter Tryz.func129, Tryz.ntmps129
        go_wp2_with fail
        go_ret2
        exact ⟨.inl ⟨by rw [HQ.out], _, rfl, by rw [HQ.out]; exact HREP.out.below HBX.out⟩, HBX.out⟩
      · have HQ : Hid (R = (0, nullNs)) := by rw [Hid, ← hR]; unfold atR; rw [if_neg (by omega), if_pos k, hpl, if_neg (fun g => hq g.2)]
        rw [hM]
        rw [hMn] at hq
        have d2 : 0 ≤ p := by omega
        have d3 : decide (p < (M : Int)) = false := by simpa using hq
        clear h k hi hR hpl hM hMn
        go_enter Tryz.func129, Tryz.ntmps129
        go_wp2_with fail
        go_ret2
        exact ⟨.inl ⟨by rw [HQ.out], _, rfl, by rw [HQ.out]; exact rep_null _⟩, HBZ.out⟩
  case inl =>
    have HQ : Hid (R = (0, nullNs)) := by rw [Hid, ← hR]; unfold atR; rw [if_pos k]
    clear h k hR
    go_enter Tryz.func129, Tryz.ntmps129
    go_wp2_with fail
    go_ret2
    exact ⟨.inl ⟨by rw [HQ.out], _, rfl, by rw [HQ.out]; exact rep_null _⟩, (Below.refl _ _).alloc (Nat.le_refl _) _⟩
  case inr.inr.inr.inr.inr =>
    have HQ : Hid (R = (2, [])) := by rw [Hid, ← hR]; unfold atR; rw [if_neg (by omega), if_neg (by omega)]
    obtain ⟨_, ai, ci, rfl, _⟩ := hi
    obtain ⟨_, _, a', c', rfl, _⟩ := hs
    obtain ⟨M, hM⟩ : ∃ M, (partsL ns).length = M := ⟨_, rfl⟩
    rw [hM]
    clear h k hR hM
    go_enter Tryz.func129, Tryz.ntmps129
    go_wp2_with fail
    refine (wrongKind_any _ HE.out).mono ?_
    rintro e w1 ⟨⟨v, rfl, te, xe, rfl, hrs⟩, rfl⟩
    have HRS := hideIt hrs
    clear hrs
    go_wp2_with fail
    go_ret2
    exact NO.out _ (Below.refl _ _) _ HQ.out _ ⟨te, xe, rfl, HRS.out⟩ rfl
  all_goals
    have HQ : Hid (R = (2, [])) := by rw [Hid, ← hR]; unfold atR; rw [if_neg (by omega), if_neg (by omega)]
    clear h k hR
    go_enter Tryz.func129, Tryz.ntmps129
    go_wp2_with fail
    refine (wrongKind_any _ HE.out).mono ?_
    rintro e w1 ⟨⟨v, rfl, te, xe, rfl, hrs⟩, rfl⟩
    have HRS := hideIt hrs
    clear hrs
    go_wp2_with fail
    go_ret2
    exact NO.out _ (Below.refl _ _) _ HQ.out _ ⟨te, xe, rfl, HRS.out⟩ rfl
theorem lengthE_any (ns : List VN) (x : Value) (w : World) (h : Rep w ns x) (hE : Errs w) : Calls Tryz.prog 16 #[x] w (OneAns (lenC ns, lenNs ns) w) := by
  have hb := len_nodeb h.1
  have ht := h.2
  rw [root_mk] at ht
  refine (lengthOf_any 79 (rootN ns) _ x w ht (by simp [rootKids, rootN]) hE hb.1 hb.2).mono ?_
  rintro e w1 ⟨ha, hbel⟩
  refine ⟨?_, hbel⟩
  have e1 : lenC ns = kindC (lenK (rootN ns)) := by unfold lenC; rw [if_pos h.1]
  have e2 : lenNs ns = oneNs (lenK (rootN ns)) := by unfold lenNs; rw [if_pos h.1]
  rw [e1, e2]
  cases hl : lenK (rootN ns) with
  | none =>
    rw [hl] at ha
    obtain ⟨v, e, hv⟩ := ha
    exact .inr ⟨(show (2 : Int) ≠ 0 by decide), v, e, hv⟩
  | some n =>
    rw [hl] at ha
    have hr := len_range h.1 hl
    exact .inl ⟨rfl, _, ha, Rep.of (f := 1) (t := .mk 3 n ByteArray.empty [] []) (.inr (.inr (.inl ⟨rfl, rfl, rfl, rfl, rfl⟩))) (leaf_lay _ _ _) (num_ok (by omega) hr.2)⟩
end Go.Proofs.YtcidjhnogldgmaaGreatDoor

namespace Go.Proofs.YtcidjhnogldgmaaGreatDoor
open Go.RowKit
set_option linter.unusedSimpArgs false
set_option linter.unusedVariables false
def EvalOk (B E : Nat) (fv : Value) (fs : List FN) (d : Nat) : Prop := ∀ (Z O n : Nat) (x : FN) (kc kn ki v : Value) (ns : List VN) (H : FuncId) (caps : Array Value) (h : HandM) (st : EvSt) (w : World), n < fs.length → fnAt fs n = x → FNodeIn B w x kc kn ki → HandOk B Z E O d fv fs w H caps h → St B Z E O fv fs st w → Rep w ns v → st.1 ≤ d →
  Calls Tryz.prog 61 #[.pointer (some ⟨E, 0, none⟩), .agg #[.int .i64 x.kind, .string x.name, .int .i64 x.place, kc, kn, ki], v, .func (.func H) #[] caps] w (HandAns B Z E O fv fs (evM (ocsM fs d) x ns h st) w)
theorem outs_items {Z E O : Nat} {w : World} {outs : List (List VN)} {sv : Value} {xs : List Value} (h : OutsAt Z E O w outs sv xs) : ItemsRep w sv outs := by
  have hl := h.len
  refine ⟨by have := h.few; omega, ?_⟩
  rcases h.row with ⟨rfl, rfl⟩ | ⟨g, cap, rfl, hg, hh, hnc, _⟩
  · have e : outs.length = 0 := by simpa using hl.symm
    exact ⟨none, 0, by rw [e], fun hp => absurd hp (by omega)⟩
  · refine ⟨some ⟨g, 0, none⟩, cap, by rw [hl], fun hp => ⟨g, rfl, fun j hj => ?_⟩⟩
    have hr := h.rep j hj
    obtain ⟨t, y, e⟩ := hr.iface
    refine ⟨t, y, ?_, by rw [← e]; exact hr⟩
    rw [heap_cell hh, List.getElem?_toArray, List.getElem?_append_left (by omega)]
    rw [List.getD_eq_getElem?_getD, List.getElem?_eq_getElem (show j < xs.length by omega)] at e
    rw [List.getElem?_eq_getElem (show j < xs.length by omega)]
    exact congrArg some e
theorem set_fuel {B E : Nat} {fv : Value} {fs : List FN} {fu : Nat} {w : World} (h : EvB B E fv fs fu w) (k : Nat) : EvB B E fv fs k (w.setCell ⟨E, 1, none⟩ (.int .i64 (k : Int))) ∧ ButE E w (w.setCell ⟨E, 1, none⟩ (.int .i64 (k : Int))) := by
  have hb : ButE E w (w.setCell ⟨E, 1, none⟩ (.int .i64 (k : Int))) := ⟨rfl, rfl, rfl, by simp, fun c _ hc => Below.heap_setCell _ _ _ _ hc⟩
  have hB := h.errs.le
  have hbel := hb.below h.hBE hB
  refine ⟨⟨?_, h.nodes.below hbel, h.hBE, h.errs.below hbel⟩, hb⟩
  have := set_heapE (i := 1) h.blk (.int .i64 (k : Int))
  simpa using this
theorem st_begin {B E : Nat} {fv : Value} {fs : List FN} {fu k : Nat} {w W1 : World} (h : EvB B E fv fs fu w) (he : EvB B E fv fs k W1) (hb : ButE E w W1) (hz : W1.heap.size = w.heap.size) :
    St B w.heap.size E w.heap.size fv fs (k, []) (W1.alloc (.cells #[.slice none 0 0] 56)) ∧ ButE E w (W1.alloc (.cells #[.slice none 0 0] 56)) := by
  have hal : Below W1.heap.size W1 (W1.alloc (.cells #[.slice none 0 0] 56)) := (Below.refl _ _).alloc (Nat.le_refl _) _
  refine ⟨⟨he.below hal, ⟨.slice none 0 0, [], ?_, .inl ⟨rfl, rfl⟩, rfl, fun j hj => absurd hj (by simp), Nat.le_refl _, by simp⟩, h.lt, by simp; omega⟩, hb.trans (.of_below hal)⟩
  rw [← hz]
  exact heap_alloc_new W1 _
theorem ocs_zero (fs : List FN) (d n : Nat) (ns : List VN) : ocsM fs d n ns 0 = ⟨4, [], 0⟩ := by
  cases d with
  | zero => rfl
  | succ d => rw [ocsM, if_pos rfl]
theorem ocs_succ (fs : List FN) (d n k : Nat) (ns : List VN) : ocsM fs (d + 1) n ns (k + 1) = if (evM (ocsM fs d) (fnAt fs n) ns pushM (k, [])).1 = 0 then ⟨0, (evM (ocsM fs d) (fnAt fs n) ns pushM (k, [])).2.2, (evM (ocsM fs d) (fnAt fs n) ns pushM (k, [])).2.1⟩ else ⟨(evM (ocsM fs d) (fnAt fs n) ns pushM (k, [])).1, [], (evM (ocsM fs d) (fnAt fs n) ns pushM (k, [])).2.1⟩ := by
  rw [ocsM, if_neg (by omega)]
  rfl
theorem but_end {Z E O : Nat} {w W2 w3 : World} (h1 : ButE E w W2) (h2 : FrH w.heap.size E O W2 w3) : ButE E w w3 :=
  ⟨h2.os.trans h1.os, h2.tape.trans h1.tape, h2.output.trans h1.output, Nat.le_trans h1.size h2.size, fun c hc hn => (h2.block c hc hn).trans (h1.block c hc hn)⟩
set_option maxRecDepth 100000 in
set_option maxHeartbeats 3200000 in
theorem outcomes_none {B E : Nat} {fv : Value} {fs : List FN} (d n : Nat) (v : Value) (ns : List VN) (w : World) (he : EvB B E fv fs 0 w) (hv : Rep w ns v) :
    Calls Tryz.prog 39 #[.pointer (some ⟨E, 0, none⟩), .int .i64 n, v] w (OcAns B E fv fs (ocsM fs d n ns 0) w) := by
  rw [ocs_zero]
  have HE := hideIt he
  obtain ⟨ty, y, rfl⟩ := hv.iface
  obtain ⟨a, q, c, rfl⟩ := he.nodes.slice
  have c1 : w.cell? ⟨E, 1, none⟩ = some (.int .i64 0) := heap_cell he.blk 1
  obtain ⟨a1, a0, p1, p2, p3, p4, p5⟩ := he.errs.now.fuel
  have HRS : Hid (Rsn w 4 282 (.pointer (some a1))) := ⟨a1, a0, rfl, rfl, p2, ⟨fun e => absurd e (by decide), fun e => absurd e p3⟩, p4, p5⟩
  clear he hv p2 p3 p4 p5
  go_enter Tryz.func39, Tryz.ntmps39
  go_wp2_with fail
  go_quiet (fail)
  have HBD := hideIt (below_drewN (Below.refl w.heap.size w) nq)
  go_wp2_with fail
  go_ret2
  exact ⟨_, _, rfl, .inr ⟨(show (4 : Int) ≠ 0 by decide), rfl, _, _, rfl, HRS.out.below HBD.out⟩, .of_below HBD.out, HE.out.below HBD.out⟩
set_option maxRecDepth 100000 in
set_option maxHeartbeats 6400000 in
theorem outcomes_some {B E : Nat} {fv : Value} {fs : List FN} {d : Nat} (ho : EvalOk B E fv fs d) (n : Nat) (v : Value) (ns : List VN) (k : Nat) (w : World) (hn : n < fs.length) (he : EvB B E fv fs (k + 1) w) (hv : Rep w ns v) (hk : k ≤ d) (hd : d ≤ 1000000) :
    Calls Tryz.prog 39 #[.pointer (some ⟨E, 0, none⟩), .int .i64 n, v] w (OcAns B E fv fs (ocsM fs (d + 1) n ns (k + 1)) w) := by
  obtain ⟨r, hr⟩ : ∃ r, evM (ocsM fs d) (fnAt fs n) ns pushM (k, []) = r := ⟨_, rfl⟩
  obtain ⟨R, hR⟩ : ∃ R, ocsM fs (d + 1) n ns (k + 1) = R := ⟨_, rfl⟩
  have HRR : Hid (R = if r.1 = 0 then ⟨0, r.2.2, r.2.1⟩ else ⟨r.1, [], r.2.1⟩) := by rw [Hid, ← hR, ocs_succ, hr]
  rw [hR]
  have HR := hideIt hr
  have HE := hideIt he
  have HO := hideIt ho
  have HV := hideIt hv
  have HN := hideIt hn
  have HK := hideIt hk
  have hEl := he.lt
  have hBl := he.errs.le
  obtain ⟨ty, y, rfl⟩ := hv.iface
  obtain ⟨hfl, a, cap, rfl, hcell⟩ := he.nodes
  obtain ⟨b0, o0, rfl, hb0, hc⟩ := hcell (by omega)
  obtain ⟨kc, kn, ki, hnode⟩ := hc n hn
  have q0 : w.cell? ⟨E, 0, none⟩ = some (.slice (some ⟨b0, o0, none⟩) fs.length cap) := heap_cell he.blk 0
  have q1 : w.cell? ⟨E, 1, none⟩ = some (.int .i64 ((k + 1 : Nat) : Int)) := heap_cell he.blk 1
  have q2 : w.frozen? ⟨E, 1, none⟩ = false := by simp [World.frozen?, he.blk]
  rw [show ((k + 1 : Nat) : Int) = (k : Int) + 1 by omega] at q1
  have hk0 : ¬ (k : Int) + 1 = 0 := by omega
  have hkb : (k : Int) ≤ 1000000 := by omega
  obtain ⟨W1, hW1⟩ : ∃ W1, w.setCell ⟨E, 1, none⟩ (.int .i64 (k : Int)) = W1 := ⟨_, rfl⟩
  obtain ⟨W2, hW2⟩ : ∃ W2, W1.alloc (.cells #[.slice none 0 0] 56) = W2 := ⟨_, rfl⟩
  have hz1 : W1.heap.size = w.heap.size := by rw [← hW1]; simp
  have HSF := hideIt (set_fuel he k)
  rw [hW1] at HSF
  have HST := hideIt (st_begin he HSF.out.1 HSF.out.2 hz1)
  rw [hW2] at HST
  have HB2 : Hid (Below B w W2) := HST.out.2.below he.hBE hBl
  have hno := hnode.below HB2.out hb0
  have s0 := hno.c0
  have s1 := hno.c1
  have s2 := hno.c2
  have s3 := hno.c3
  have s4 := hno.c4
  have s5 := hno.c5
  have HIN := hideIt hno.inn
  have t0 : W2.cell? ⟨E, 0, none⟩ = some (.slice (some ⟨b0, o0, none⟩) fs.length cap) := heap_cell HST.out.1.ev.blk 0
  obtain ⟨_, aC, cC, eC, _⟩ := hno.inn.cst
  obtain ⟨_, _, aK, cK, eK, _⟩ := hno.inn.names
  obtain ⟨_, _, aI, cI, eI, _⟩ := hno.inn.kids
  obtain ⟨X, hX⟩ : ∃ X, fnAt fs n = X := ⟨_, rfl⟩
  have HX := hideIt hX
  rw [hX] at s0 s1 s2 HIN eC eK eI HR
  have HV2 := hideIt (HV.out.reads (HST.out.2.reads HE.out))
  subst eC eK eI
  have hsz2 : W2.heap.size = w.heap.size + 1 := by rw [← hW2, ← hz1]; simp
  have HW1 := hideIt hW1
  have HW2 := hideIt hW2
  clear he ho hv hnode hno hcell hc hR hr hX hk
  go_enter Tryz.func39, Tryz.ntmps39
  go_wp2_with fail
  refine (HO.out w.heap.size w.heap.size n X _ _ _ _ ns _ _ pushM (k, []) W2 HN.out HX.out HIN.out (push_hand B w.heap.size E w.heap.size d _ fs W2) HST.out.1 HV2.out HK.out).mono ?_
  rw [HR.out]
  rintro e w3 ⟨⟨ev, rfl, hev⟩, hf3, hs3⟩
  have HF3 := hideIt hf3
  have HS3 := hideIt hs3
  have HBE : Hid (ButE E w w3) := but_end (Z := w.heap.size) HST.out.2 hf3
  rcases hev with ⟨h1, rfl⟩ | ⟨h1, te, xe, rfl, hrs⟩
  · have HQ : Hid (R = ⟨0, r.2.2, r.2.1⟩) := by rw [Hid, HRR.out, if_pos h1]
    obtain ⟨sv, xs, hos⟩ := hs3.outs
    have HIT := hideIt (outs_items hos)
    obtain ⟨a2, c2, e2⟩ := hos.row.slice
    obtain ⟨M2, hM2⟩ : ∃ M2, xs.length = M2 := ⟨_, rfl⟩
    rw [hM2] at e2
    have u1 : w3.cell? ⟨w.heap.size, 0, none⟩ = some sv := heap_cell hos.box 0
    subst e2
    clear h1 hf3 hs3 hos hM2
    go_wp2_with fail
    go_ret2
    exact ⟨_, _, rfl, .inl ⟨by rw [HQ.out], rfl, by rw [HQ.out]; exact HIT.out⟩, HBE.out, by rw [HQ.out]; exact HS3.out.ev⟩
  · have HQ : Hid (R = ⟨r.1, [], r.2.1⟩) := by rw [Hid, HRR.out, if_neg h1]
    have H1 := hideIt h1
    have HRS := hideIt hrs
    obtain ⟨C, hC⟩ : ∃ C, r.1 = C := ⟨_, rfl⟩
    rw [hC] at H1 HRS HQ ⊢
    clear hf3 hs3 h1 hrs hC
    go_wp2_with fail
    go_ret2
    exact ⟨_, _, rfl, .inr ⟨by rw [HQ.out]; exact H1.out, rfl, by rw [HQ.out]; exact ⟨te, xe, rfl, HRS.out⟩⟩, HBE.out, by rw [HQ.out]; exact HS3.out.ev⟩
theorem outcomes_ok {B E : Nat} {fv : Value} {fs : List FN} {d : Nat} (ho : EvalOk B E fv fs d) (hd : d ≤ 1000000) : OcOk B E fv fs (d + 1) := by
  intro n v ns fu w hn he hv hfu
  cases fu with
  | zero => exact outcomes_none _ n v ns w he hv
  | succ k => exact outcomes_some ho n v ns k w hn he hv (by omega) hd
theorem outcomes_base (B E : Nat) (fv : Value) (fs : List FN) : OcOk B E fv fs 0 := by
  intro n v ns fu w hn he hv hfu
  obtain rfl : fu = 0 := by omega
  exact outcomes_none _ n v ns w he hv
end Go.Proofs.YtcidjhnogldgmaaGreatDoor
