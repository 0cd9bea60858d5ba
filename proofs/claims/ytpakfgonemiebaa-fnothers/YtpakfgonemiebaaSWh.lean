/-
  Nothing has turned but blocks of one range.
-/
import Derived.Test.YtpakfgonemiebaaUFol
import Derived.Test.YtpakfgonemiebaaListP
import Derived.Test.YtpakfgonemiebaaSpc3
import Derived.Test.YtpakfgonemiebaaAppS
import Derived.Deep.AppendLies
import Derived.Test.YtpakfgonemiebaaSPart
import Derived.Test.YtpakfgonemiebaaWthP
import Derived.Test.YtpakfgonemiebaaPhase
namespace Go.Proofs.Ytpakfgonemiebaa
open Go.RowKit
set_option linter.unusedSimpArgs false
set_option linter.unusedVariables false

/-- Nothing has turned but blocks from lo on and below hi, and what is new. -/
structure Out (lo hi : Nat) (w w' : World) : Prop where
  os : w'.os = w.os
  tape : w'.tape = w.tape
  output : w'.output = w.output
  size : w.heap.size ≤ w'.heap.size
  block : ∀ c, c < w.heap.size → (c < lo ∨ hi ≤ c) → w'.heap[c]? = w.heap[c]?
theorem Out.refl (lo hi : Nat) (w : World) : Out lo hi w w := ⟨rfl, rfl, rfl, Nat.le_refl _, fun _ _ _ => rfl⟩
theorem Out.of_below {lo hi : Nat} {w w' : World} (h : Below w.heap.size w w') : Out lo hi w w' := ⟨h.os, h.tape, h.output, h.size, fun c hc _ => h.block c hc⟩
theorem Out.trans {lo hi : Nat} {a b c : World} (h : Out lo hi a b) (k : Out lo hi b c) : Out lo hi a c :=
  ⟨k.os.trans h.os, k.tape.trans h.tape, k.output.trans h.output, Nat.le_trans h.size k.size, fun x hx ho => (k.block x (Nat.lt_of_lt_of_le hx h.size) ho).trans (h.block x hx ho)⟩
theorem Out.of_set {lo hi : Nat} {a : World} (b o : Nat) (u : Value) (h : lo ≤ b ∧ b < hi) : Out lo hi a (a.setCell ⟨b, o, none⟩ u) :=
  ⟨rfl, rfl, rfl, by simp, fun x _ hn => Below.heap_setCell _ _ _ _ (by show x ≠ b; omega)⟩
theorem frozenR {w w' : World} {b o : Nat} (h : w'.heap[b]? = w.heap[b]?) : w'.frozen? ⟨b, o, none⟩ = w.frozen? ⟨b, o, none⟩ := World.frozen?_of_block (w := w) (a := ⟨b, o, none⟩) h
theorem own_full {w : World} {base e n g cap : Nat} {X : Nat → Value} (h : w.ownsRow base e 1 (.slice (some ⟨g, 0, none⟩) n cap) n ((List.range n).map X)) : (∀ j, j < n → w.cell? ⟨g, j, none⟩ = some (X j) ∧ w.frozen? ⟨g, j, none⟩ = false) ∧ n ≤ cap ∧ cap ≤ maxLen ∧ base ≤ g ∧ g < w.heap.size := by
  rcases h.2 with ⟨e1, _⟩ | ⟨g', cap', cur, e1, hb, hg, h1, h2, h3, h4⟩
  · cases e1
  · cases e1
    have hlt : g < w.heap.size := (Array.getElem?_eq_some_iff.1 hg).1
    refine ⟨fun j hj => ⟨?_, ?_⟩, h1, h2, hb, hlt⟩
    · rw [h.cellAt j (by omega)]; simp [hj]
    · simp [World.frozen?, hg]
theorem keys_range (keys : List ByteArray) : keys.map Value.string = (List.range keys.length).map fun j => Value.string (keyAt keys j) := by
  conv => lhs; rw [← range_keys keys]
  rw [List.map_map]; rfl
end Go.Proofs.Ytpakfgonemiebaa

/-
  spec.ListOf.
-/
namespace Go.Proofs.Ytpakfgonemiebaa
open Go.RowKit
set_option linter.unusedSimpArgs false
set_option linter.unusedVariables false

def allB (L : Nat → List VN) (m : Nat) : Bool := (List.range m).all fun i => okB (L i)
theorem allB_yes {L : Nat → List VN} {m : Nat} (h : allB L m = true) : ∀ i, i < m → okB (L i) = true := fun i hi => by
  unfold allB at h; rw [List.all_eq_true] at h; exact h i (List.mem_range.2 hi)
theorem allB_of {L : Nat → List VN} {m : Nat} (h : ∀ i, i < m → okB (L i) = true) : allB L m = true := by
  unfold allB; rw [List.all_eq_true]; exact fun i hi => h i (List.mem_range.1 hi)
theorem allB_no {L : Nat → List VN} {m i : Nat} (hi : i < m) (h : okB (L i) = false) : allB L m = false := by
  cases e : allB L m
  · rfl
  · have := allB_yes e i hi; rw [h] at this; cases this

theorem RowsAt.below {B : Nat} {w w' : World} {v : Value} {m : Nat} {L : Nat → List VN} (h : RowsAt B w v m L) (hb : Below B w w') : RowsAt B w' v m L := by
  obtain ⟨h1, a, c, e, h2⟩ := h
  refine ⟨h1, a, c, e, fun hp => ?_⟩
  obtain ⟨b, ea, hbB, h3⟩ := h2 hp
  refine ⟨b, ea, hbB, fun i hi => ?_⟩
  obtain ⟨r, e2, hn⟩ := h3 i hi
  exact ⟨r, (below_cell hb hbB).trans e2, hn.below hb⟩

def listB (L : Nat → List VN) (m : Nat) : Bool := allB L m && decide (m ≤ 80) && okB (makeNs 5 [] L m)
def listNs (L : Nat → List VN) (m : Nat) : List VN := if listB L m = true then makeNs 5 [] L m else []

theorem near_of {L : Nat → List VN} {m : Nat} (hok : ∀ i, i < m → okB (L i) = true) : ∀ i, i < m → 0 < (L i).length ∧ ∀ j, j < (L i).length → Near (nodeAt (L i) j) := by
  intro i hi
  obtain ⟨p1, _, _, _⟩ := okB_parts (hok i hi)
  refine ⟨by omega, fun j hj => ?_⟩
  have kf := keys_few (hok i hi) j hj
  exact ⟨by omega, by omega, fun q hq => by have := kidsIn_get kf.1 hq; omega⟩

end Go.Proofs.Ytpakfgonemiebaa

/-
  An append inside a region that draws its order, of a slice that may be empty.
-/
namespace Go.Proofs.Ytpakfgonemiebaa
open Go.RowKit
set_option linter.unusedSimpArgs false
set_option linter.unusedVariables false

theorem run_append_zero {P : Program} {w : World} (base : Nat) (t ty e : TypeId) (i : TypeInfo) (size c : Nat) (ax : Option Addr) (ht : P.underlying t = some (.slice e)) (hi : P.info? e = some i)
    (v : Value) (n : Nat) (xs : List Value) (hown : w.ownsRow base e size v n xs) :
    (Builtin.append_ #[t, t] ty #[v, .slice ax 0 c]).run P w = .ok v w := by
  rcases hown.2 with ⟨rfl, rfl⟩ | ⟨g, cap, cur, rfl, _, _, hnc, _⟩
  · cases ax <;> simp [Builtin.append_, run_underlying ht, sizeOf, typeInfo, hi, Builtin.lenOf, Builtin.firstCells, loadCells, loadCellsFrom, Result.andThen]
  · cases ax <;> simp [Builtin.append_, run_underlying ht, sizeOf, typeInfo, hi, Builtin.lenOf, Builtin.firstCells, hnc, storeCells, loadCells, loadCellsFrom, Result.andThen]
theorem step_append_src {P : Program} {w : World} {ops : Array Oper} {o : Oper} {a : Act} {K : Act → World → Prop} {Q : Exit → Act → World → Prop} {E : Prop} (hgd : o.guard = none) (s x : Operand) (t : TypeId)
    (ho : o.op = .call { callee := .builtin .append, args := #[s, x], argTypes := #[t, t] })
    (base : Nat) (e : TypeId) (i : TypeInfo) (z : Value) (size bytes : Nat) (ht : P.underlying t = some (.slice e)) (hi : P.info? e = some i) (hz : i.zero = some z)
    (hsize : i.size = size) (hby : i.bytes = bytes) (hzs : z.cells.size = size) (hsz : 0 < size)
    (v : Value) (n : Nat) (xs : List Value) (hs : a.eval s = v) (hown : w.ownsRow base e size v n xs)
    (ax : Option Addr) (m c : Nat) (news : List Value) (hx : a.eval x = .slice ax m c) (hl : news.length = m * size) (hsrc : 0 < m → ∃ ad, ax = some ad ∧ ∀ j u, news[j]? = some u → w.cell? (ad.add j) = some u) (h1 : ∀ u ∈ news, u.oneCell' = true)
    (h63 : n + m ≤ maxLen) (hbytes : (n + m) * bytes ≤ 140737488355328) (hbase : base ≤ w.heap.size)
    (h : ∀ v' w', w'.ownsRow base e size v' (n + m) (xs ++ news) → w.grownBy w' v.ownBlock → (v'.ownBlock = v.ownBlock ∨ v'.ownBlock = some w.heap.size) → K (a.put o.dst v') w') :
    if Region.wanted o (yielded ops a.tmps) = true then Oper.wp P o a w K Q else E := by
  have hw : Region.wanted o (yielded ops a.tmps) = true := by simp [Region.wanted, hgd]
  rw [if_pos hw]
  rcases Nat.eq_zero_or_pos m with e0 | e0
  · subst e0
    obtain rfl : news = [] := List.eq_nil_of_length_eq_zero (by simpa using hl)
    have hrun := run_append_zero (P := P) (w := w) base t o.type e i size c ax ht hi v n xs hown
    unfold Oper.wp
    simp [execOp, ho, resolve, invoke, builtin, hs, hx, hrun, Result.andThen]
    exact h v w (by simpa using hown) ⟨rfl, rfl, rfl, Nat.le_refl _, fun _ _ _ => rfl⟩ (Or.inl rfl)
  · obtain ⟨ad, rfl, hc⟩ := hsrc e0
    exact wp_append_lies w s x t ho base e i z size bytes ht hi hz hsize hby hzs hsz v n xs hs hown ad m c news hx hl hc h1 e0 h63 hbytes hbase w.heap.size rfl (fun g cap w' h2 h3 h4 _ => h _ w' h2 h3 (by
      rcases h4 with h4 | h4
      · exact Or.inl (by rw [h4]; rfl)
      · exact Or.inr (by rw [h4]; rfl)))
theorem step_call4 {P : Program} {w : World} {ops : Array Oper} {o : Oper} {a : Act} {K : Act → World → Prop} {Q : Exit → Act → World → Prop} {E : Prop} (hgd : o.guard = none) (F : FuncId) (x1 x2 x3 x4 : Operand) (T1 T2 T3 T4 : TypeId)
    (ho : o.op = .call { callee := .value (.func F), args := #[x1, x2, x3, x4], argTypes := #[T1, T2, T3, T4] }) (v1 v2 v3 v4 : Value) (h1 : a.eval x1 = v1) (h2 : a.eval x2 = v2) (h3 : a.eval x3 = v3) (h4 : a.eval x4 = v4) (hcf : ∀ w, (callFunc F #[v1, v2, v3, v4]).run P w = .ok (.enter F #[v1, v2, v3, v4]) w) {R : Ending → World → Prop} (hc : Calls P F #[v1, v2, v3, v4] w R)
    (h : ∀ e w', R e w' → ∃ u, e = .returned u ∧ K (a.put o.dst u) w') :
    if Region.wanted o (yielded ops a.tmps) = true then Oper.wp P o a w K Q else E := by
  have hw : Region.wanted o (yielded ops a.tmps) = true := by simp [Region.wanted, hgd]
  rw [if_pos hw]
  unfold Oper.wp execOp
  have e1 : a.eval (.func F) = .func (.func F) #[] #[] := rfl
  simp [ho, resolve, invoke, h1, h2, h3, h4, e1, Deferred.ofValue, hcf, Result.andThen, Oper.upon_enter]
  refine hc.mono fun e w' hr => ?_
  obtain ⟨u, rfl, hk⟩ := h e w' hr
  exact hk
/-- A row's cells ahead of k and from j on, as they are read in whatever world behind. -/
def DelSrc (w0 : World) (xs : List Value) (g n k j : Nat) (A : Addr) : Prop :=
  (xs.take k).length = k * 1 ∧ (∀ W, Below w0.heap.size w0 W → ∀ i u, (xs.take k)[i]? = some u → W.cell? ((⟨g, 0, none⟩ : Addr).add i) = some u) ∧ (∀ u ∈ xs.take k, u.oneCell' = true) ∧
  (xs.drop j).length = (n - j) * 1 ∧ (∀ W, Below w0.heap.size w0 W → 0 < n - j → ∀ i u, (xs.drop j)[i]? = some u → W.cell? (A.add i) = some u) ∧ (∀ u ∈ xs.drop j, u.oneCell' = true)
theorem delSrc_of {w0 : World} {xs : List Value} {g n k j cL : Nat} {A : Addr} (hl : xs.length = n) (hk : k ≤ n) (hj : j ≤ n) (hc : ∀ i, i < n → w0.cell? ⟨g, i, none⟩ = xs[i]?) (hg : g < w0.heap.size) (h1 : ∀ u ∈ xs, u.oneCell' = true) (hcap : n ≤ cL) (hA : (if cL = j then some (⟨g, 0, none⟩ : Addr) else some ⟨g, j, none⟩) = some A) : DelSrc w0 xs g n k j A := by
  refine ⟨by rw [List.length_take]; omega, fun W hb i u hi => ?_, fun u hu => h1 u (List.mem_of_mem_take hu), by rw [List.length_drop]; omega, fun W hb hp i u hi => ?_, fun u hu => h1 u (List.mem_of_mem_drop hu)⟩
  · have hik : i < k := by have := (List.getElem?_eq_some_iff.1 hi).1; rw [List.length_take] at this; omega
    rw [Addr.add_lit, Nat.zero_add, hb.cell (p := ⟨g, i, none⟩) hg, hc i (by omega)]
    rw [List.getElem?_take, if_pos hik] at hi
    exact hi
  · have hij : i < n - j := by have := (List.getElem?_eq_some_iff.1 hi).1; rw [List.length_drop] at this; omega
    rw [if_neg (by omega), Option.some.injEq] at hA
    rw [← hA, Addr.add_lit, hb.cell (p := ⟨g, j + i, none⟩) hg, hc (j + i) (by omega)]
    rw [List.getElem?_drop] at hi
    exact hi
end Go.Proofs.Ytpakfgonemiebaa

/-
  A nest of nodes, from a lower block on.
-/
namespace Go.Proofs.Ytpakfgonemiebaa
open Go.RowKit

theorem Nest.low {base base' : Nat} {w : World} {v : Value} {vs : List VN} {KV IV : Nat → Value} (h : Nest base w v vs KV IV) (hb : base' ≤ base) : Nest base' w v vs KV IV :=
  ⟨own_mono h.row hb, fun i hi => own_mono (h.rk i hi) hb, fun i hi => own_mono (h.ri i hi) hb, h.dkk, h.dii⟩
end Go.Proofs.Ytpakfgonemiebaa

/-
  The specification's l6With: what serves for a part taken and a part laid.
-/
namespace Go.Proofs.Ytpakfgonemiebaa
open Go.RowKit
set_option linter.unusedSimpArgs false
set_option linter.unusedVariables false

def upN (f : Nat) (o : Option VT) : List VN := match o with
  | none => []
  | some u => layT f u 0
theorem step_kinds {f : Nat} {kind n : Int} {s : ByteArray} {keys : List ByteArray} {kids : List VT} {x : PS} {k : Nat} (hg : goodT (f + 1) (.mk kind n s keys kids)) (hk : stepT (.mk kind n s keys kids) x = some k) : (kind = 5 ∧ n = 0 ∧ s = ByteArray.empty ∧ keys = []) ∨ (kind = 6 ∧ n = 0 ∧ s = ByteArray.empty ∧ keys.length = kids.length) := by
  have hk2 : stepTo kind keys kids.length x = some k := hk
  unfold stepTo at hk2
  split at hk2
  · split at hk2
    · rename_i h6
      rcases nodeT_says hg.1 with ⟨e2, _⟩ | ⟨e2, _⟩ | ⟨e2, _⟩ | ⟨e2, _⟩ | ⟨e2, _⟩ | ⟨_, a1, a2, hm, _⟩
      · have := h6.1; omega
      · have := h6.1; omega
      · have := h6.1; omega
      · have := h6.1; omega
      · have := h6.1; omega
      · exact .inr ⟨h6.1, a1, a2, hm⟩
    · cases hk2
  · split at hk2
    · rename_i h5
      rcases nodeT_says hg.1 with ⟨e2, _⟩ | ⟨e2, _⟩ | ⟨e2, _⟩ | ⟨e2, _⟩ | ⟨_, a1, a2, a3⟩ | ⟨e2, _⟩
      · have := h5.1; omega
      · have := h5.1; omega
      · have := h5.1; omega
      · have := h5.1; omega
      · exact .inl ⟨h5.1, a1, a2, a3⟩
      · have := h5.1; omega
    · cases hk2
theorem erase_list {xs : List Value} {k j : Nat} (hj : j = k + 1) (hk : k < xs.length) (i : Nat) : (xs.take k ++ xs.drop j)[i]? = xs[if i < k then i else i + 1]? := by
  subst hj
  by_cases h : i < k
  · rw [if_pos h, List.getElem?_append_left (by rw [List.length_take]; omega), List.getElem?_take, if_pos h]
  · rw [if_neg h, List.getElem?_append_right (by rw [List.length_take]; omega), List.getElem?_drop, List.length_take, show k + 1 + (i - min k xs.length) = i + 1 by omega]
/-- A row of rows without one. -/
theorem rows_erased {B : Nat} {w : World} {v : Value} {m Q k j : Nat} {rs : Nat → Value} {L : Nat → List VN} (hrow : w.ownsRow B 24 1 v Q (((List.range m).map rs).take k ++ ((List.range m).map rs).drop j)) (hj : j = k + 1) (hk : k < m) (hQ : k + (m - j) = Q) (hm : m ≤ 80) (hn : ∀ i, i < m → NodesAt w.heap.size w (rs i) (L i)) : RowsAt w.heap.size w v Q (fun i => L (if i < k then i else i + 1)) := by
  obtain ⟨a, c, e⟩ := own_slice hrow
  subst e
  refine ⟨by omega, a, c, rfl, fun hp => ?_⟩
  obtain ⟨g, cap, e2, _, hg⟩ := hrow.form hp
  simp only [Value.slice.injEq] at e2
  obtain ⟨rfl, _, rfl⟩ := e2
  refine ⟨g, rfl, hg, fun i hi => ⟨rs (if i < k then i else i + 1), ?_, hn _ (by split <;> omega)⟩⟩
  rw [hrow.cellAt i (by omega), erase_list hj (by simp; exact hk)]
  have : (if i < k then i else i + 1) < m := by split <;> omega
  simp [this]
theorem strs_erased {B : Nat} {w : World} {v : Value} {Q k j : Nat} {keys : List ByteArray} (hrow : w.ownsRow B 9 1 v Q ((keys.map Value.string).take k ++ (keys.map Value.string).drop j)) (hj : j = k + 1) (hk : k < keys.length) (hQ : k + (keys.length - j) = Q) (hf : keys.length ≤ 8796093022208 ∧ ∀ i, i < keys.length → (keyAt keys i).size ≤ 140737488355328) : StrsAt w.heap.size w v (keys.eraseIdx k) := by
  have hel : (keys.eraseIdx k).length = Q := by rw [List.length_eraseIdx, if_pos hk]; omega
  obtain ⟨a, c, e⟩ := own_slice hrow
  subst e
  refine ⟨by rw [hel]; omega, fun i hi => ?_, a, c, by rw [hel], fun hp => ?_⟩
  · rw [hel] at hi; rw [key_erase]; exact hf.2 _ (by split <;> omega)
  · rw [hel] at hp
    obtain ⟨g, cap, e2, _, hg⟩ := hrow.form hp
    simp only [Value.slice.injEq] at e2
    obtain ⟨rfl, _, rfl⟩ := e2
    refine ⟨g, 0, rfl, hg, fun i hi => ?_⟩
    rw [hel] at hi
    rw [Nat.zero_add, hrow.cellAt i (by omega), erase_list hj (by rw [List.length_map]; exact hk), key_erase, List.getElem?_map]
    have h2 : (if i < k then i else i + 1) < keys.length := by split <;> omega
    rw [List.getElem?_eq_getElem h2]
    unfold keyAt
    rw [List.getD_eq_getElem?_getD, List.getElem?_eq_getElem h2]
    rfl
theorem rows_wideW {B B' : Nat} {w : World} {v : Value} {m : Nat} {L : Nat → List VN} (h : RowsAt B w v m L) (hb : B ≤ B') : RowsAt B' w v m L := by
  obtain ⟨h1, a, c, e, h2⟩ := h
  refine ⟨h1, a, c, e, fun hp => ?_⟩
  obtain ⟨b, ea, hb2, hc⟩ := h2 hp
  refine ⟨b, ea, by omega, fun i hi => ?_⟩
  obtain ⟨r, h3, h4⟩ := hc i hi
  exact ⟨r, h3, h4.wide hb⟩
theorem call_with6 (a b c d : Value) : ∀ w, (callFunc 44 #[a, b, c, d]).run Try.prog w = .ok (.enter 44 #[a, b, c, d]) w := fun w => by kernel_rfl
theorem nest_set {base b n cap g k : Nat} {w : World} {v u : Value} {vs : List VN} {KV IV : Nat → Value} {xs : List Value} (h : Nest base w v vs KV IV) (hr : w.ownsRow b 24 1 (.slice (some ⟨g, 0, none⟩) n cap) n xs) : Nest base (w.setCell ⟨g, k, none⟩ u) v vs KV IV :=
  h.kept (row := some g) ⟨rfl, rfl, rfl, by simp, fun c _ hc => Below.heap_setCell _ _ _ c (fun e => hc (by rw [e]))⟩ (own_apart h.row hr (by decide)) (fun i hi => own_apart (h.rk i hi) hr (by decide)) (fun i hi => own_apart (h.ri i hi) hr (by decide))
/-- A row of rows with another one at k. -/
theorem rows_set {b base cap m k g : Nat} {w : World} {rs : Nat → Value} {L : Nat → List VN} {r : Value} {ns : List VN} {KV0 IV0 : Nat → Value} {lo : Nat → Nat} {KV IV : Nat → Nat → Value} (hrow : w.ownsRow b 24 1 (.slice (some ⟨g, 0, none⟩) m cap) m ((List.range m).map rs)) (hm : m ≤ 80) (hk : k < m) (hn : ∀ i, i < m → Nest (lo i) w (rs i) (L i) (KV i) (IV i)) (hf : ∀ i, i < m → Few (L i) ∧ ∀ j, j < (L i).length → Fits (nodeAt (L i) j)) (hr : Nest base w r ns KV0 IV0) (hfr : Few ns ∧ ∀ j, j < ns.length → Fits (nodeAt ns j)) :
    RowsAt (w.setCell ⟨g, k, none⟩ r).heap.size (w.setCell ⟨g, k, none⟩ r) (.slice (some ⟨g, 0, none⟩) m cap) m (fun i => if i = k then ns else L i) := by
  obtain ⟨hc, _, _, _, hg⟩ := own_full hrow
  refine ⟨by omega, _, _, rfl, fun _ => ⟨g, rfl, by simpa using hg, fun i hi => ?_⟩⟩
  by_cases e : i = k
  · subst e
    refine ⟨r, World.cell?_setCell_same _ _ _ (hc i hi).1, ?_⟩
    show NodesAt _ _ r (if i = i then ns else L i)
    rw [if_pos rfl]
    exact (nest_set hr hrow).nodes (Nat.le_trans hfr.1.1 (by omega)) hfr.2
  · refine ⟨rs i, by rw [World.cell?_setCell_other (h := fun h => by simp only [Addr.mk.injEq] at h; omega)]; exact (hc i hi).1, ?_⟩
    show NodesAt _ _ (rs i) (if i = k then ns else L i)
    rw [if_neg e]
    exact (nest_set (hn i hi) hrow).nodes (Nat.le_trans (hf i hi).1.1 (by omega)) (hf i hi).2
theorem steps_tail {B : Nat} {w : World} {b o N cu : Nat} {x : PS} {ps : List PS} {A : Addr} (h : StepsAt B w (.slice (some ⟨b, o, none⟩) N cu) (x :: ps)) (hN : N = ps.length + 1) (hA : 0 < ps.length → A = ⟨b, o + 3, none⟩) : StepsAt B w (.slice (some A) ps.length (cu - 1)) ps := by
  obtain ⟨h1, h2, a', cap', e, h3⟩ := h
  simp only [Value.slice.injEq] at e
  obtain ⟨rfl, _, rfl⟩ := e
  rw [List.length_cons] at h1 h2 h3
  refine ⟨by omega, fun i hi => h2 (i + 1) (by omega), _, _, rfl, fun hp => ?_⟩
  obtain ⟨b2, o2, e2, hb, hc⟩ := h3 (by omega)
  cases e2
  refine ⟨b, o + 3, by rw [hA hp], hb, fun i hi => ?_⟩
  have := hc (i + 1) (by omega)
  rw [show o + (i + 1) * 3 = o + 3 + i * 3 by omega] at this
  exact this
theorem call_kid6 (u v : Value) : ∀ w, (callFunc 88 #[u, v]).run Try.prog w = .ok (.enter 88 #[u, v]) w := fun w => by kernel_rfl
end Go.Proofs.Ytpakfgonemiebaa
