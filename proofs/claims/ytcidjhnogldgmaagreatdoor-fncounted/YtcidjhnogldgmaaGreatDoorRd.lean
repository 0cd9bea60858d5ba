import Derived.Test.YtcidjhnogldgmaaGreatDoorTo
import Derived.Laws.Concat
import Derived.Laws.IdiomStrings
import Derived.Deep.QuietTactic
import Derived.BigQuiet
import Derived.WalkSmall
import Derived.Deep.RegionWith
import Derived.Deep.AppendLies
import Derived.Maps.AppendAt
import Derived.Laws.OwnMore
import Derived.Test.YtcidjhnogldgmaaGreatDoorPick
import Derived.Test.YtcidjhnogldgmaaGreatDoorProg
import Derived.BigRegion
namespace Go.Proofs.YtcidjhnogldgmaaGreatDoor
open Go.RowKit
set_option linter.unusedSimpArgs false
set_option linter.unusedVariables false
def digB (c : Nat) : ByteArray := ⟨#[UInt8.ofNat (48 + c % 10)]⟩
def mloop : Nat → Nat → ByteArray → ByteArray
  | 0, _, out => out
  | f + 1, c, out => if 0 < c then mloop f (c / 10) (digB c ++ out) else out
def markOf (k : Nat) : ByteArray := ⟨#[109]⟩ ++ mloop 20 k ⟨#[]⟩
def WRow (w : World) (b n : Nat) : Prop := ∀ j, j < n → (∃ v, w.cell? ⟨b, j, none⟩ = some v) ∧ w.frozen? ⟨b, j, none⟩ = false
def Only (P : Nat → Prop) (w w' : World) : Prop := w.heap.size ≤ w'.heap.size ∧ ∀ c, c < w.heap.size → ¬ P c → w'.heap[c]? = w.heap[c]?
theorem Only.refl (P : Nat → Prop) (w : World) : Only P w w := ⟨Nat.le_refl _, fun _ _ _ => rfl⟩
theorem Only.trans {P : Nat → Prop} {a b c : World} (h : Only P a b) (k : Only P b c) : Only P a c := ⟨Nat.le_trans h.1 k.1, fun i h1 h2 => (k.2 i (by have := h.1; omega) h2).trans (h.2 i h1 h2)⟩
theorem Only.set {P : Nat → Prop} (w : World) {b o : Nat} (hP : P b) (v : Value) : Only P w (w.setCell ⟨b, o, none⟩ v) := ⟨by simp, fun c _ hc => Below.heap_setCell w _ v c (fun e => hc (by rw [e]; exact hP))⟩
theorem Only.of_below {P : Nat → Prop} {w w' : World} (h : Below w.heap.size w w') : Only P w w' := ⟨h.size, fun c hc _ => h.block c hc⟩
theorem Only.cell {P : Nat → Prop} {w w' : World} (h : Only P w w') {b o : Nat} (hb : b < w.heap.size) (hP : ¬ P b) : w'.cell? ⟨b, o, none⟩ = w.cell? ⟨b, o, none⟩ := by
  unfold World.cell?
  rw [show w'.heap[(⟨b, o, none⟩ : Addr).block]? = w.heap[(⟨b, o, none⟩ : Addr).block]? from h.2 b hb hP]
end Go.Proofs.YtcidjhnogldgmaaGreatDoor

namespace Go.Proofs.YtcidjhnogldgmaaGreatDoor
open Go.RowKit
set_option linter.unusedSimpArgs false
set_option linter.unusedVariables false
def off (KN IN : Nat → Nat) (k : Nat) : Nat → Nat
  | 0 => k
  | i + 1 => off KN IN k i + 3 + KN i + IN i
structure Marky (lo : Nat) (w : World) (b n : Nat) (KN IN KB KI : Nat → Nat) : Prop where
  low : lo ≤ b
  lt : b < w.heap.size
  few : n ≤ 1048576
  row : WRow w b (n * 5)
  kn : ∀ i, i < n → KN i ≤ 1048576 ∧ IN i ≤ 1048576
  c3 : ∀ i, i < n → ∃ a c, w.cell? ⟨b, i * 5 + 3, none⟩ = some (.slice a (KN i) c) ∧ (0 < KN i → a = some ⟨KB i, 0, none⟩ ∧ lo ≤ KB i ∧ KB i < w.heap.size ∧ WRow w (KB i) (KN i))
  c4 : ∀ i, i < n → ∃ a c, w.cell? ⟨b, i * 5 + 4, none⟩ = some (.slice a (IN i) c) ∧ (0 < IN i → a = some ⟨KI i, 0, none⟩ ∧ lo ≤ KI i ∧ KI i < w.heap.size ∧ WRow w (KI i) (IN i))
  db : ∀ i, i < n → (0 < KN i → KB i ≠ b) ∧ (0 < IN i → KI i ≠ b)
  dkk : ∀ i j, i < n → j < n → i ≠ j → 0 < KN i → 0 < KN j → KB i ≠ KB j
  dki : ∀ i j, i < n → j < n → 0 < KN i → 0 < IN j → KB i ≠ KI j
  dii : ∀ i j, i < n → j < n → i ≠ j → 0 < IN i → 0 < IN j → KI i ≠ KI j
structure HNode (w : World) (b i kn ni kb ki o : Nat) : Prop where
  lt : b < w.heap.size
  c0 : w.cell? ⟨b, i * 5, none⟩ = some (.int .i64 (o : Nat))
  c1 : w.cell? ⟨b, i * 5 + 1, none⟩ = some (.int .i64 (o + 1 : Nat))
  c2 : w.cell? ⟨b, i * 5 + 2, none⟩ = some (.string (markOf (o + 2)))
  c3 : ∃ a c, w.cell? ⟨b, i * 5 + 3, none⟩ = some (.slice a kn c) ∧ (0 < kn → a = some ⟨kb, 0, none⟩ ∧ kb < w.heap.size ∧ ∀ j, j < kn → w.cell? ⟨kb, j, none⟩ = some (.string (markOf (o + 3 + j))))
  c4 : ∃ a c, w.cell? ⟨b, i * 5 + 4, none⟩ = some (.slice a ni c) ∧ (0 < ni → a = some ⟨ki, 0, none⟩ ∧ ki < w.heap.size ∧ ∀ j, j < ni → w.cell? ⟨ki, j, none⟩ = some (.int .i64 (o + 3 + kn + j : Nat)))
end Go.Proofs.YtcidjhnogldgmaaGreatDoor

namespace Go.Proofs.YtcidjhnogldgmaaGreatDoor
open Go.RowKit
set_option linter.unusedSimpArgs false
set_option linter.unusedVariables false
set_option linter.unusedSectionVars false
section
variable {lo b n : Nat} {w w' : World} {KN IN KB KI : Nat → Nat}
structure Turns (b c : Nat) (KN IN KB KI : Nat → Nat) (w w' : World) : Prop where
  size : w.heap.size ≤ w'.heap.size
  row : ∀ o, o ≠ c * 5 → o ≠ c * 5 + 1 → o ≠ c * 5 + 2 → w'.cell? ⟨b, o, none⟩ = w.cell? ⟨b, o, none⟩
  rest : ∀ x, x < w.heap.size → x ≠ b → ¬ (0 < KN c ∧ x = KB c) → ¬ (0 < IN c ∧ x = KI c) → w'.heap[x]? = w.heap[x]?
end
end Go.Proofs.YtcidjhnogldgmaaGreatDoor

namespace Go.Proofs.YtcidjhnogldgmaaGreatDoor
open Go.RowKit
set_option linter.unusedSimpArgs false
set_option linter.unusedVariables false
def nestCell (vs : List VN) (KV IV : Nat → Value) (j : Nat) : Value :=
  if j % 5 = 0 then .int .i64 (nodeAt vs (j / 5)).kind
  else if j % 5 = 1 then .int .i64 (nodeAt vs (j / 5)).n
  else if j % 5 = 2 then .string (nodeAt vs (j / 5)).s
  else if j % 5 = 3 then KV (j / 5)
  else IV (j / 5)
def nestCells (vs : List VN) (KV IV : Nat → Value) : List Value := (List.range (vs.length * 5)).map (nestCell vs KV IV)
def upd (F : Nat → Value) (k : Nat) (v : Value) (i : Nat) : Value := if i = k then v else F i
theorem upd_same (F : Nat → Value) (k : Nat) (v : Value) : upd F k v k = v := if_pos rfl
theorem upd_other (F : Nat → Value) {k i : Nat} (v : Value) (h : i ≠ k) : upd F k v i = F i := if_neg h
theorem nodeAt_snoc_lt {vs : List VN} {x : VN} {i : Nat} (h : i < vs.length) : nodeAt (vs ++ [x]) i = nodeAt vs i := by
  unfold nodeAt; rw [List.getD_eq_getElem?_getD, List.getD_eq_getElem?_getD, List.getElem?_append_left h]
theorem nodeAt_snoc_end {vs : List VN} {x : VN} : nodeAt (vs ++ [x]) vs.length = x := by
  unfold nodeAt; rw [List.getD_eq_getElem?_getD]; simp
theorem nestCells_snoc (vs : List VN) (x : VN) (KV IV : Nat → Value) (kv iv : Value) :
    nestCells (vs ++ [x]) (upd KV vs.length kv) (upd IV vs.length iv) = nestCells vs KV IV ++ [.int .i64 x.kind, .int .i64 x.n, .string x.s, kv, iv] := by
  unfold nestCells
  rw [List.length_append, show (vs.length + [x].length) * 5 = vs.length * 5 + 5 by simp; omega, List.range_add, List.map_append]
  congr 1
  · apply List.map_congr_left
    intro j hj
    have hj' : j < vs.length * 5 := List.mem_range.1 hj
    unfold nestCell
    rw [nodeAt_snoc_lt (show j / 5 < vs.length by omega), upd_other _ _ (show j / 5 ≠ vs.length by omega), upd_other _ _ (show j / 5 ≠ vs.length by omega)]
  · have e0 : ∀ k, k < 5 → (vs.length * 5 + k) % 5 = k := fun k hk => by omega
    have e1 : ∀ k, k < 5 → (vs.length * 5 + k) / 5 = vs.length := fun k hk => by omega
    have r5 : List.range 5 = [0, 1, 2, 3, 4] := rfl
    rw [r5]
    simp only [List.map_cons, List.map_nil, nestCell, e0 0 (by omega), e0 1 (by omega), e0 2 (by omega), e0 3 (by omega), e0 4 (by omega), e1 0 (by omega), e1 1 (by omega), e1 2 (by omega), e1 3 (by omega), e1 4 (by omega), nodeAt_snoc_end, upd_same]
    simp
theorem own_apart {w : World} {b b' e e' s s' n n' : Nat} {v v' : Value} {xs xs' : List Value} (h : w.ownsRow b e s v n xs) (h' : w.ownsRow b' e' s' v' n' xs') (hne : e ≠ e') : v.ownBlock = none ∨ v.ownBlock ≠ v'.ownBlock := by
  rcases h.2 with ⟨rfl, _⟩ | ⟨g, cap, cur, rfl, _, hg, _⟩
  · exact Or.inl rfl
  · right
    rcases h'.2 with ⟨rfl, _⟩ | ⟨g', cap', cur', rfl, _, hg', _⟩
    · simp [Value.ownBlock]
    · intro e
      have e2 : g = g' := by simpa [Value.ownBlock] using e
      subst e2
      rw [hg] at hg'
      simp at hg'
      exact hne hg'.2
structure Nest (base : Nat) (w : World) (v : Value) (vs : List VN) (KV IV : Nat → Value) : Prop where
  row : w.ownsRow base 32 5 v vs.length (nestCells vs KV IV)
  rk : ∀ i, i < vs.length → w.ownsRow base 9 1 (KV i) (nodeAt vs i).keys.length ((nodeAt vs i).keys.map .string)
  ri : ∀ i, i < vs.length → w.ownsRow base 2 1 (IV i) (nodeAt vs i).kids.length ((nodeAt vs i).kids.map (.int .i64))
  dkk : ∀ i j, i < vs.length → j < vs.length → i ≠ j → ∀ x, (KV i).ownBlock = some x → (KV j).ownBlock ≠ some x
  dii : ∀ i j, i < vs.length → j < vs.length → i ≠ j → ∀ x, (IV i).ownBlock = some x → (IV j).ownBlock ≠ some x
theorem Nest.nil (base : Nat) (w : World) (KV IV : Nat → Value) : Nest base w (.slice none 0 0) [] KV IV :=
  ⟨World.ownsRow_nil _ _ _ _, fun i hi => absurd hi (by simp), fun i hi => absurd hi (by simp), fun i j hi => absurd hi (by simp), fun i j hi => absurd hi (by simp)⟩
theorem Nest.kept {base : Nat} {w w' : World} {v : Value} {vs : List VN} {KV IV : Nat → Value} {row : Option Nat} (h : Nest base w v vs KV IV) (hg : w.grownBy w' row) (hv : v.ownBlock = none ∨ v.ownBlock ≠ row)
    (hk : ∀ i, i < vs.length → (KV i).ownBlock = none ∨ (KV i).ownBlock ≠ row) (hi : ∀ i, i < vs.length → (IV i).ownBlock = none ∨ (IV i).ownBlock ≠ row) : Nest base w' v vs KV IV :=
  ⟨h.row.kept hg hv, fun i hi' => (h.rk i hi').kept hg (hk i hi'), fun i hi' => (h.ri i hi').kept hg (hi i hi'), h.dkk, h.dii⟩
theorem Nest.snoc {base : Nat} {w w' : World} {v v' : Value} {vs : List VN} {KV IV : Nat → Value} {x : VN} {kv iv : Value} (h : Nest base w v vs KV IV)
    (hk : w.ownsRow base 9 1 kv x.keys.length (x.keys.map .string)) (hi : w.ownsRow base 2 1 iv x.kids.length (x.kids.map (.int .i64)))
    (fk : ∀ i, i < vs.length → ∀ y, kv.ownBlock = some y → (KV i).ownBlock ≠ some y) (fi : ∀ i, i < vs.length → ∀ y, iv.ownBlock = some y → (IV i).ownBlock ≠ some y)
    (hown : w'.ownsRow base 32 5 v' (vs.length + 1) (nestCells vs KV IV ++ [.int .i64 x.kind, .int .i64 x.n, .string x.s, kv, iv])) (hg : w.grownBy w' v.ownBlock) :
    Nest base w' v' (vs ++ [x]) (upd KV vs.length kv) (upd IV vs.length iv) := by
  refine ⟨?_, fun i hi' => ?_, fun i hi' => ?_, fun i j hi' hj' e y => ?_, fun i j hi' hj' e y => ?_⟩
  · rw [nestCells_snoc]; simpa using hown
  · by_cases e : i = vs.length
    · subst e; rw [upd_same, nodeAt_snoc_end]; exact hk.kept hg (own_apart hk h.row (by decide))
    · have hl : i < vs.length := by simp at hi'; omega
      rw [upd_other _ _ e, nodeAt_snoc_lt hl]; exact (h.rk i hl).kept hg (own_apart (h.rk i hl) h.row (by decide))
  · by_cases e : i = vs.length
    · subst e; rw [upd_same, nodeAt_snoc_end]; exact hi.kept hg (own_apart hi h.row (by decide))
    · have hl : i < vs.length := by simp at hi'; omega
      rw [upd_other _ _ e, nodeAt_snoc_lt hl]; exact (h.ri i hl).kept hg (own_apart (h.ri i hl) h.row (by decide))
  · simp at hi' hj'
    by_cases e1 : i = vs.length
    · subst e1
      rw [upd_same, upd_other _ _ (fun e2 => e e2.symm)]
      exact fk j (by omega) y
    · by_cases e2 : j = vs.length
      · subst e2
        rw [upd_same, upd_other _ _ e1]
        intro h1 h2
        exact fk i (by omega) y h2 h1
      · rw [upd_other _ _ e1, upd_other _ _ e2]
        exact h.dkk i j (by omega) (by omega) e y
  · simp at hi' hj'
    by_cases e1 : i = vs.length
    · subst e1
      rw [upd_same, upd_other _ _ (fun e2 => e e2.symm)]
      exact fi j (by omega) y
    · by_cases e2 : j = vs.length
      · subst e2
        rw [upd_same, upd_other _ _ e1]
        intro h1 h2
        exact fi i (by omega) y h2 h1
      · rw [upd_other _ _ e1, upd_other _ _ e2]
        exact h.dii i j (by omega) (by omega) e y
theorem nestCells_get (vs : List VN) (KV IV : Nat → Value) {j : Nat} (h : j < vs.length * 5) : (nestCells vs KV IV)[j]? = some (nestCell vs KV IV j) := by
  unfold nestCells; rw [List.getElem?_map, List.getElem?_range h]; rfl
theorem own_strs {base : Nat} {w : World} {v : Value} {l : List ByteArray} (h : w.ownsRow base 9 1 v l.length (l.map .string)) (h1 : l.length ≤ 8796093022208) (h2 : ∀ i, i < l.length → (keyAt l i).size ≤ 140737488355328) : StrsAt w.heap.size w v l := by
  refine ⟨h1, h2, ?_⟩
  rcases Nat.eq_zero_or_pos l.length with e | e
  · rcases h.2 with ⟨rfl, _⟩ | ⟨g, cap, cur, rfl, _⟩
    · exact ⟨none, 0, by rw [e], fun hp => by omega⟩
    · exact ⟨_, cap, rfl, fun hp => by omega⟩
  · obtain ⟨g, cap, rfl, _, hlt⟩ := h.form e
    refine ⟨_, cap, rfl, fun _ => ⟨g, 0, rfl, hlt, fun i hi => ?_⟩⟩
    rw [Nat.zero_add, h.cellAt i (by omega)]
    simp [keyAt, hi]
theorem own_ints {base : Nat} {w : World} {v : Value} {l : List Int} (h : w.ownsRow base 2 1 v l.length (l.map (.int .i64))) (h1 : l.length ≤ 17592186044416) (h2 : ∀ i, i < l.length → -9223372036854775808 ≤ intAt l i ∧ intAt l i ≤ 9223372036854775807) : IntsAt w.heap.size w v l := by
  refine ⟨h1, h2, ?_⟩
  rcases Nat.eq_zero_or_pos l.length with e | e
  · rcases h.2 with ⟨rfl, _⟩ | ⟨g, cap, cur, rfl, _⟩
    · exact ⟨none, 0, by rw [e], fun hp => by omega⟩
    · exact ⟨_, cap, rfl, fun hp => by omega⟩
  · obtain ⟨g, cap, rfl, _, hlt⟩ := h.form e
    refine ⟨_, cap, rfl, fun _ => ⟨g, 0, rfl, hlt, fun i hi => ?_⟩⟩
    rw [Nat.zero_add, h.cellAt i (by omega)]
    simp [intAt, hi]
theorem Nest.nodes {base : Nat} {w : World} {v : Value} {vs : List VN} {KV IV : Nat → Value} (h : Nest base w v vs KV IV) (hn : vs.length ≤ 1759218604416) (hf : ∀ i, i < vs.length → Fits (nodeAt vs i)) : NodesAt w.heap.size w v vs := by
  refine ⟨hn, ?_⟩
  rcases Nat.eq_zero_or_pos vs.length with e | e
  · rcases h.row.2 with ⟨rfl, _⟩ | ⟨g, cap, cur, rfl, _⟩
    · exact ⟨none, 0, by rw [e], fun hp => by omega⟩
    · exact ⟨_, cap, rfl, fun hp => by omega⟩
  · obtain ⟨g, cap, rfl, _, hlt⟩ := h.row.form e
    refine ⟨_, cap, rfl, fun _ => ⟨g, 0, rfl, hlt, fun i hi => ⟨KV i, IV i, ?_⟩⟩⟩
    have f := hf i hi
    have q : ∀ k, k < 5 → (i * 5 + k) % 5 = k ∧ (i * 5 + k) / 5 = i := fun k hk => by omega
    have q0 := q 0 (by omega)
    rw [Nat.add_zero] at q0
    rw [Nat.zero_add]
    refine ⟨?_, ?_, ?_, ?_, ?_, ⟨own_strs (h.rk i hi) f.keysN f.keysS, own_ints (h.ri i hi) f.kidsN f.kidsB, f.size, f.klo, f.khi, f.nlo, f.nhi⟩⟩
    · rw [h.row.cellAt _ (by omega), nestCells_get _ _ _ (by omega), nestCell, q0.1, q0.2]; rfl
    · rw [h.row.cellAt _ (by omega), nestCells_get _ _ _ (by omega), nestCell, (q 1 (by omega)).1, (q 1 (by omega)).2]; rfl
    · rw [h.row.cellAt _ (by omega), nestCells_get _ _ _ (by omega), nestCell, (q 2 (by omega)).1, (q 2 (by omega)).2]; rfl
    · rw [h.row.cellAt _ (by omega), nestCells_get _ _ _ (by omega), nestCell, (q 3 (by omega)).1, (q 3 (by omega)).2]; rfl
    · rw [h.row.cellAt _ (by omega), nestCells_get _ _ _ (by omega), nestCell, (q 4 (by omega)).1, (q 4 (by omega)).2]; rfl
theorem own_wrow {base e s g n cap : Nat} {w : World} {xs : List Value} (h : w.ownsRow base e s (.slice (some ⟨g, 0, none⟩) n cap) n xs) : WRow w g (n * s) := by
  intro j hj
  refine ⟨⟨xs[j]'(by have := h.1; omega), ?_⟩, h.frozenAt j⟩
  rw [h.cellAt j hj, List.getElem?_eq_getElem]
end Go.Proofs.YtcidjhnogldgmaaGreatDoor

namespace Go.Proofs.YtcidjhnogldgmaaGreatDoor
open Go.RowKit
set_option linter.unusedSimpArgs false
set_option linter.unusedVariables false
theorem run_append_none_any {P : Program} {w : World} (base : Nat) (t ty e : TypeId) (i : TypeInfo) (size c : Nat) (ht : P.underlying t = some (.slice e)) (hi : P.info? e = some i)
    (v : Value) (n : Nat) (xs : List Value) (hown : w.ownsRow base e size v n xs) :
    (Builtin.append_ #[t, t] ty #[v, .slice none 0 c]).run P w = .ok v w := by
  rcases hown.2 with ⟨rfl, rfl⟩ | ⟨g, cap, cur, rfl, _, _, hnc, _⟩
  · simp [Builtin.append_, run_underlying ht, sizeOf, typeInfo, hi, Builtin.lenOf, Builtin.firstCells]
  · simp [Builtin.append_, run_underlying ht, sizeOf, typeInfo, hi, Builtin.lenOf, Builtin.firstCells, hnc, storeCells]
theorem wpList_append_src {P : Program} {w : World} {ops : Array Oper} {rest : List Oper} {o : Oper} {a : Act} {Q : Exit → Act → World → Prop} (hgd : o.guard = none) (s x : Operand) (t : TypeId)
    (ho : o.op = .call { callee := .builtin .append, args := #[s, x], argTypes := #[t, t] })
    (base : Nat) (e : TypeId) (i : TypeInfo) (z : Value) (size bytes : Nat) (ht : P.underlying t = some (.slice e)) (hi : P.info? e = some i) (hz : i.zero = some z)
    (hsize : i.size = size) (hby : i.bytes = bytes) (hzs : z.cells.size = size) (hsz : 0 < size)
    (v : Value) (n : Nat) (xs : List Value) (hs : a.eval s = v) (hown : w.ownsRow base e size v n xs)
    (ax : Option Addr) (m c : Nat) (news : List Value) (hx : a.eval x = .slice ax m c) (hl : news.length = m * size) (hsrc : 0 < m → ∃ ad, ax = some ad ∧ ∀ j u, news[j]? = some u → w.cell? (ad.add j) = some u) (h1 : ∀ u ∈ news, u.oneCell' = true)
    (h63 : n + m ≤ maxLen) (hbytes : (n + m) * bytes ≤ 140737488355328) (hbase : base ≤ w.heap.size)
    (h : ∀ v' w', w'.ownsRow base e size v' (n + m) (xs ++ news) → w.grownBy w' v.ownBlock → (v'.ownBlock = v.ownBlock ∨ v'.ownBlock = some w.heap.size) → wpList P ops Q rest (a.put o.dst v') w') : wpList P ops Q (o :: rest) a w := by
  rcases Nat.eq_zero_or_pos m with e0 | e0
  · subst e0
    obtain rfl : news = [] := List.eq_nil_of_length_eq_zero (by simpa using hl)
    cases ax with
    | none =>
      refine wpList_plain hgd fun K hK => ?_
      have hrun := run_append_none_any (P := P) (w := w) base t o.type e i size c ht hi v n xs hown
      unfold Oper.wp
      simp [execOp, ho, resolve, invoke, builtin, hs, hx, hrun, Result.andThen]
      exact hK _ _ (h v w (by simpa using hown) ⟨rfl, rfl, rfl, Nat.le_refl _, fun _ _ _ => rfl⟩ (Or.inl rfl))
    | some ad =>
      exact wpList_append_own_at w hgd s x t ho base e i z size bytes ht hi hz hsize hby hzs hsz v n xs hs hown ad 0 c [] hx hl (fun j u hj => by simp at hj) h1 h63 hbytes hbase (fun v' w' h2 h3 _ h5 => h v' w' h2 h3 h5)
  · obtain ⟨ad, rfl, hc⟩ := hsrc e0
    exact wpList_append_own_at w hgd s x t ho base e i z size bytes ht hi hz hsize hby hzs hsz v n xs hs hown ad m c news hx hl hc h1 h63 hbytes hbase (fun v' w' h2 h3 _ h5 => h v' w' h2 h3 h5)
end Go.Proofs.YtcidjhnogldgmaaGreatDoor

namespace Go.Proofs.YtcidjhnogldgmaaGreatDoor
open Go.RowKit
set_option linter.unusedSimpArgs false
set_option linter.unusedVariables false
def From (base : Nat) (w w' : World) : Prop := w.heap.size ≤ w'.heap.size ∧ ∀ c, base ≤ c → c < w.heap.size → w'.heap[c]? = w.heap[c]?
theorem From.mono {base base' : Nat} {w w' : World} (h : From base w w') (hb : base ≤ base') : From base' w w' := ⟨h.1, fun c h1 h2 => h.2 c (by omega) h2⟩
theorem own_from {w w' : World} {base e s n : Nat} {v : Value} {xs : List Value} (h : w.ownsRow base e s v n xs) (hf : From base w w') : w'.ownsRow base e s v n xs := by
  refine ⟨h.1, ?_⟩
  rcases h.2 with hn | ⟨g, cap, cur, rfl, hg, hgg, rest⟩
  · exact .inl hn
  · exact .inr ⟨g, cap, cur, rfl, hg, (hf.2 g hg (h.lt g rfl).2).trans hgg, rest⟩
end Go.Proofs.YtcidjhnogldgmaaGreatDoor

namespace Go.Proofs.YtcidjhnogldgmaaGreatDoor
open Go.RowKit
set_option linter.unusedSimpArgs false
set_option linter.unusedVariables false
def leafN (kind n : Int) (s : ByteArray) : List VN := [{ kind := kind, n := n, s := s, keys := [], kids := [] }]
theorem leaf_nest (w : World) (kind n : Int) (s : ByteArray) : Nest w.heap.size (w.alloc (.cells #[.int .i64 kind, .int .i64 n, .string s, .slice none 0 0, .slice none 0 0] 32)) (.slice (some ⟨w.heap.size, 0, none⟩) 1 1) (leafN kind n s) (fun _ => .slice none 0 0) (fun _ => .slice none 0 0) := by
  refine ⟨?_, fun i hi => ?_, fun i hi => ?_, fun i j hi hj hne => ?_, fun i j hi hj hne => ?_⟩
  · have := World.ownsRow_lit (base := w.heap.size) (e := 32) (size := 5) w #[.int .i64 kind, .int .i64 n, .string s, .slice none 0 0, .slice none 0 0] 1 (Nat.le_refl _) (by simp [maxLen]) rfl
    have eu : upd (fun _ => Value.slice none 0 0) 0 (.slice none 0 0) = fun _ => .slice none 0 0 := by funext i; unfold upd; split <;> rfl
    have e : nestCells (leafN kind n s) (fun _ => .slice none 0 0) (fun _ => .slice none 0 0) = [.int .i64 kind, .int .i64 n, .string s, .slice none 0 0, .slice none 0 0] := by
      have h := nestCells_snoc [] { kind := kind, n := n, s := s, keys := [], kids := [] } (fun _ => .slice none 0 0) (fun _ => .slice none 0 0) (.slice none 0 0) (.slice none 0 0)
      simp only [List.length_nil, eu, List.nil_append] at h
      exact h
    rw [e]
    exact this
  · obtain rfl : i = 0 := by simp [leafN] at hi; omega
    exact World.ownsRow_nil _ _ _ _
  · obtain rfl : i = 0 := by simp [leafN] at hi; omega
    exact World.ownsRow_nil _ _ _ _
  · simp [leafN] at hi hj; omega
  · simp [leafN] at hi hj; omega
end Go.Proofs.YtcidjhnogldgmaaGreatDoor

namespace Go.Proofs.YtcidjhnogldgmaaGreatDoor
open Go.RowKit
set_option linter.unusedSimpArgs false
set_option linter.unusedVariables false
def nums (f : Nat → Int) (j : Nat) : Value := .int .i64 (f j)
def Sw (g : Nat) (w w' : World) : Prop := w'.os = w.os ∧ w'.tape = w.tape ∧ w'.output = w.output ∧ Only (· = g) w w'
end Go.Proofs.YtcidjhnogldgmaaGreatDoor

namespace Go.Proofs.YtcidjhnogldgmaaGreatDoor
open Go.RowKit
set_option linter.unusedSimpArgs false
set_option linter.unusedVariables false
def CmpAt (g N : Nat) (w0 : World) (c1 c2 : Value) (cf : Int → Int → Int) : Prop :=
  ∀ W, Sw g w0 W → ∀ x y : Int, 0 ≤ x → x < N → 0 ≤ y → y < N → Calls Tryz.prog 211 #[.int .i64 x, .int .i64 y, c1, c2] W fun e W' => e = .returned (.int .i64 (cf x y)) ∧ ∃ n, W' = W.drewN n
def NumsIn (f : Nat → Int) (N : Nat) : Prop := ∀ p, p < N → 0 ≤ f p ∧ f p < N
structure Asked (R : Int → Int → Prop) (cf : Int → Int → Int) (g N : Nat) (w0 : World) (c1 c2 : Value) (f : Nat → Int) (a m b : Nat) (w : World) : Prop where
  tot : Tot R
  cmp : CmpAt g N w0 c1 c2 cf
  cr : ∀ x y : Int, x < y → (cf y x < 0 ↔ R y x)
  row : w.rowIs g 3 N (nums f)
  sw : Sw g w0 w
  val : NumsIn f N
  am : a < m
  mb : m < b
  bN : b ≤ N
  NN : N ≤ 1099511627776
  r1 : Rises R f a m
  r2 : Rises R f m b
  cx : Cross f a m b
end Go.Proofs.YtcidjhnogldgmaaGreatDoor

namespace Go.Proofs.YtcidjhnogldgmaaGreatDoor
open Go.RowKit
set_option linter.unusedSimpArgs false
set_option linter.unusedVariables false
end Go.Proofs.YtcidjhnogldgmaaGreatDoor

namespace Go.Proofs.YtcidjhnogldgmaaGreatDoor
open Go.RowKit
set_option linter.unusedSimpArgs false
set_option linter.unusedVariables false
end Go.Proofs.YtcidjhnogldgmaaGreatDoor

namespace Go.Proofs.YtcidjhnogldgmaaGreatDoor
open Go.RowKit
set_option linter.unusedSimpArgs false
set_option linter.unusedVariables false
structure AskedI (R : Int → Int → Prop) (cf : Int → Int → Int) (g N : Nat) (w0 : World) (c1 c2 : Value) (f : Nat → Int) (a b : Nat) (w : World) : Prop where
  tot : Tot R
  cmp : CmpAt g N w0 c1 c2 cf
  cr : ∀ x y : Int, x < y → (cf y x < 0 ↔ R y x)
  row : w.rowIs g 3 N (nums f)
  sw : Sw g w0 w
  val : NumsIn f N
  ab : a ≤ b
  bN : b ≤ N
  NN : N ≤ 1099511627776
  up : ∀ p q, a ≤ p → p < q → q < b → f p < f q
end Go.Proofs.YtcidjhnogldgmaaGreatDoor

namespace Go.Proofs.YtcidjhnogldgmaaGreatDoor
open Go.RowKit
set_option linter.unusedSimpArgs false
set_option linter.unusedVariables false
structure AskedS (R : Int → Int → Prop) (cf : Int → Int → Int) (g N : Nat) (w0 : World) (c1 c2 : Value) (f : Nat → Int) (w : World) : Prop where
  tot : Tot R
  cmp : CmpAt g N w0 c1 c2 cf
  cr : ∀ x y : Int, x < y → (cf y x < 0 ↔ R y x)
  row : w.rowIs g 3 N (nums f)
  sw : Sw g w0 w
  val : NumsIn f N
  NN : N ≤ 1048576
  up : ∀ p q, p < q → q < N → f p < f q
end Go.Proofs.YtcidjhnogldgmaaGreatDoor

namespace Go.Proofs.YtcidjhnogldgmaaGreatDoor
open Go.RowKit
set_option linter.unusedSimpArgs false
set_option linter.unusedVariables false
structure RdAt (w : World) (rb n p : Nat) : Prop where
  lt : rb < w.heap.size
  src : ∃ a cap, w.cell? ⟨rb, 0, none⟩ = some (.slice a n cap) ∧ (0 < n → ∃ b o, a = some ⟨b, o, none⟩ ∧ b < rb ∧ ∀ i, i < n → ∃ x : Nat, x < 256 ∧ w.cell? ⟨b, o + i, none⟩ = some (.int .u8 x))
  place : w.cell? ⟨rb, 1, none⟩ = some (.int .i64 p)
  le : p ≤ n
  few : n ≤ 1048576
  free : w.frozen? ⟨rb, 1, none⟩ = false
structure Drawn (rb n : Nat) (w w' : World) : Prop where
  rd : ∃ p, RdAt w' rb n p
  only : Only (fun c => c = rb) w w'
  below : Below rb w w'
theorem frozen_same {w w' : World} {b o : Nat} (h : w'.heap[b]? = w.heap[b]?) : w'.frozen? ⟨b, o, none⟩ = w.frozen? ⟨b, o, none⟩ := by
  unfold World.frozen?
  rw [show w'.heap[(⟨b, o, none⟩ : Addr).block]? = w.heap[(⟨b, o, none⟩ : Addr).block]? from h]
theorem RdAt.below {w w' : World} {rb n p : Nat} (h : RdAt w rb n p) (hb : Below w.heap.size w w') : RdAt w' rb n p := by
  have hl := h.lt
  refine ⟨by have := hb.size; omega, ?_, (below_cell hb hl).trans h.place, h.le, h.few, (frozen_same (hb.block rb hl)).trans h.free⟩
  obtain ⟨a, cap, h1, h2⟩ := h.src
  refine ⟨a, cap, (below_cell hb hl).trans h1, fun hp => ?_⟩
  obtain ⟨b, o, e, hlt, hx⟩ := h2 hp
  exact ⟨b, o, e, hlt, fun i hi => by obtain ⟨x, h3, h4⟩ := hx i hi; exact ⟨x, h3, (below_cell hb (by omega)).trans h4⟩⟩
theorem RdAt.step {w : World} {rb n p : Nat} (h : RdAt w rb n p) (hp : p < n) : RdAt (w.setCell ⟨rb, 1, none⟩ (.int .i64 ((p + 1 : Nat) : Int))) rb n (p + 1) := by
  refine ⟨by simpa using h.lt, ?_, World.cell?_setCell_same _ _ _ h.place, by omega, h.few, by rw [World.frozen?_setCell]; exact h.free⟩
  obtain ⟨a, cap, h1, h2⟩ := h.src
  refine ⟨a, cap, by rw [World.cell?_setCell_other (h := by simp)]; exact h1, fun hp => ?_⟩
  obtain ⟨b, o, e, hlt, hx⟩ := h2 hp
  refine ⟨b, o, e, hlt, fun i hi => ?_⟩
  obtain ⟨x, h3, h4⟩ := hx i hi
  exact ⟨x, h3, by rw [World.cell?_setCell_other (h := by intro e2; injection e2 with e3; omega)]; exact h4⟩
theorem Drawn.refl {rb n p : Nat} {w : World} (h : RdAt w rb n p) : Drawn rb n w w := ⟨⟨p, h⟩, Only.refl _ _, Below.refl _ _⟩
theorem Drawn.trans {rb n : Nat} {a b c : World} (h : Drawn rb n a b) (k : Drawn rb n b c) : Drawn rb n a c := ⟨k.rd, h.only.trans k.only, h.below.trans k.below⟩
theorem Drawn.next {rb n : Nat} {a b c : World} (h : Drawn rb n a b) (k : Below b.heap.size b c) : Drawn rb n a c := by
  obtain ⟨p, hp⟩ := h.rd
  exact ⟨⟨p, hp.below k⟩, h.only.trans (Only.of_below k), h.below.trans (k.mono (Nat.le_of_lt hp.lt))⟩
set_option maxRecDepth 100000 in
set_option maxHeartbeats 1600000 in
theorem rdNext_any (rb n p : Nat) (w : World) (h : RdAt w rb n p) :
    Calls Tryz.prog 47 #[.pointer (some ⟨rb, 0, none⟩)] w fun e w' => (∃ x : Nat, x < 256 ∧ e = .returned (.int .i64 x)) ∧ Drawn rb n w w' := by
  have H := hideIt h
  obtain ⟨a, cap, h1, h2⟩ := h.src
  have h3 := h.place
  have h4 := h.le
  have h5 := h.few
  have h6 := h.lt
  have HS := hideIt h2
  clear h h2
  by_cases hp : p < n
  · obtain ⟨b, o, rfl, hlt, hx⟩ := HS.out (by omega)
    obtain ⟨x, hx1, hx2⟩ := hx p hp
    have hfz := H.out.free
    clear hx
    go_enter Tryz.func47, Tryz.ntmps47
    go_wp2_with fail
    go_quiet (fail)
    have hd1 := below_drewN (Below.refl w.heap.size w) nq
    have HR1 := hideIt (H.out.below hd1)
    have k1 : (w.drewN nq).cell? ⟨rb, 1, none⟩ = some (.int .i64 p) := HR1.out.place
    have k2 : (w.drewN nq).frozen? ⟨rb, 1, none⟩ = false := HR1.out.free
    have k3 := (below_cell hd1 (by omega)).trans h1
    have k4 := (below_cell hd1 (by omega)).trans hx2
    have HD1 := hideIt hd1
    generalize w.drewN nq = W1 at hd1 HR1 HD1 k1 k2 k3 k4 ⊢
    clear nq h3 h1 hx2 hfz hd1
    have z1 := HD1.out.size
    go_wp2_with fail
    have HR2 := hideIt (HR1.out.step hp)
    have l1 : (W1.setCell ⟨rb, 1, none⟩ (.int .i64 ((p : Int) + 1))).cell? ⟨rb, 1, none⟩ = some (.int .i64 ((p : Int) + 1)) := World.cell?_setCell_same _ _ _ k1
    have l3 : (W1.setCell ⟨rb, 1, none⟩ (.int .i64 ((p : Int) + 1))).cell? ⟨rb, 0, none⟩ = some (.slice (some ⟨b, o, none⟩) n cap) := by rw [World.cell?_setCell_other (h := by simp)]; exact k3
    have l4 : (W1.setCell ⟨rb, 1, none⟩ (.int .i64 ((p : Int) + 1))).cell? ⟨b, o + p, none⟩ = some (.int .u8 x) := by rw [World.cell?_setCell_other (h := by intro e2; injection e2 with e3; omega)]; exact k4
    have HDR : Hid (Drawn rb n w (W1.setCell ⟨rb, 1, none⟩ (.int .i64 ((p : Int) + 1)))) := by
      refine ⟨⟨p + 1, HR2.out⟩, (Only.of_below HD1.out).trans (Only.set (P := fun c => c = rb) _ rfl _), (HD1.out.mono (Nat.le_of_lt h6)).setCell (Nat.le_refl _) _⟩
    have p1 : (p : Int) + 1 - 1 = (p : Int) := by omega
    clear HR2
    generalize W1.setCell ⟨rb, 1, none⟩ (.int .i64 ((p : Int) + 1)) = W2 at l1 l3 l4 HDR ⊢
    clear k1 k2 k3 k4 HD1 HR1
    go_quiet (fail)
    go_wp2_with fail
    go_ret
    exact ⟨⟨x, hx1, by simp⟩, HDR.out.next (below_drewN (Below.refl _ _) nq)⟩
  · have hnp : ¬ ((p : Int) < (n : Int)) := by omega
    go_enter Tryz.func47, Tryz.ntmps47
    go_wp2_with fail
    go_quiet (fail)
    go_wp2_with fail
    go_ret
    exact ⟨⟨0, by omega, rfl⟩, (Drawn.refl H.out).next (below_drewN (Below.refl _ _) nq)⟩
set_option maxRecDepth 100000 in
set_option maxHeartbeats 1600000 in
theorem rdBelow_any (rb n m : Nat) (w : World) (h : ∃ p, RdAt w rb n p) (hm : 1 ≤ m) (hM : m ≤ 1048577) :
    Calls Tryz.prog 24 #[.pointer (some ⟨rb, 0, none⟩), .int .i64 m] w fun e w' => (∃ x : Nat, x < m ∧ e = .returned (.int .i64 x)) ∧ Drawn rb n w w' := by
  obtain ⟨p, h⟩ := h
  have H := hideIt h
  clear h
  by_cases h1 : m ≤ 1
  · have h1' : (m : Int) ≤ 1 := by omega
    go_enter Tryz.func24, Tryz.ntmps24
    go_wp2_with fail
    go_ret
    exact ⟨⟨0, by omega, rfl⟩, Drawn.refl H.out⟩
  · have h1' : ¬ (m : Int) ≤ 1 := by omega
    have hm0 : ¬ (m : Int) = 0 := by omega
    have hmb : ((m : Int) == 0) = false := by simp; omega
    by_cases h2 : m ≤ 256
    · have h2' : (m : Int) ≤ 256 := by omega
      go_enter Tryz.func24, Tryz.ntmps24
      go_wp2_with fail
      refine (rdNext_any rb n p w H.out).mono ?_
      rintro e w1 ⟨⟨x, hx, rfl⟩, hd⟩
      have HD := hideIt hd
      clear hd
      go_wp2_with fail
      go_ret
      exact ⟨⟨x % m, Nat.mod_lt _ (by omega), by simp⟩, HD.out⟩
    · have h2' : ¬ (m : Int) ≤ 256 := by omega
      go_enter Tryz.func24, Tryz.ntmps24
      go_wp2_with fail
      refine (rdNext_any rb n p w H.out).mono ?_
      rintro e w1 ⟨⟨x, hx, rfl⟩, hd⟩
      have HD := hideIt hd
      obtain ⟨p2, hp2⟩ := hd.rd
      have H2 := hideIt hp2
      clear hd hp2
      go_wp2_with fail
      refine (rdNext_any rb n p2 w1 H2.out).mono ?_
      rintro e w2 ⟨⟨y, hy, rfl⟩, hd2⟩
      have HD2 := hideIt (HD.out.trans hd2)
      clear hd2
      go_wp2_with fail
      go_ret
      exact ⟨⟨(x * 256 + y) % m, Nat.mod_lt _ (by omega), by simp⟩, HD2.out⟩
set_option maxRecDepth 100000 in
set_option maxHeartbeats 1600000 in
theorem rdOnce_any (rb n m : Nat) (w : World) (h : ∃ p, RdAt w rb n p) (hm : 1 ≤ m) (hM : m ≤ 1048577) :
    Calls Tryz.prog 23 #[.pointer (some ⟨rb, 0, none⟩), .int .i64 m] w fun e w' => (∃ x : Bool, e = .returned (.bool x)) ∧ Drawn rb n w w' := by
  have H := hideIt h
  clear h
  go_enter Tryz.func23, Tryz.ntmps23
  go_wp2_with fail
  refine (rdBelow_any rb n m w H.out hm hM).mono ?_
  rintro e w1 ⟨⟨x, hx, rfl⟩, hd⟩
  have HD := hideIt hd
  clear hd
  go_wp2_with fail
  go_ret
  exact ⟨⟨_, rfl⟩, HD.out⟩
end Go.Proofs.YtcidjhnogldgmaaGreatDoor
