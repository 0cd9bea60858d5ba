/-
  Plain: the root and the parts of the nodes that are laid for a tree.
-/
import Derived.Test.YtpakfgonemiebaaSParts
import Derived.Test.YtpakfgonemiebaaITkn
import Derived.Test.YtpakfgonemiebaaAppS
import Derived.Deep.AppendLies
import Derived.Test.YtpakfgonemiebaaSPart
namespace Go.Proofs.Ytpakfgonemiebaa
open Go.RowKit
set_option linter.unusedSimpArgs false
set_option linter.unusedVariables false

theorem ksT_lenW (f sh : Nat) (kids : List VT) : ∀ k, k ≤ kids.length → (ksT f sh kids k).length = k := by
  intro k
  induction k with
  | zero => intro _; rw [ksT_zero]; rfl
  | succ k ih => intro hk; rw [ksT_succ f sh (by omega), List.length_append, ih (by omega)]; rfl
theorem lay_rootW (f : Nat) (kind n : Int) (s : ByteArray) (keys : List ByteArray) (kids : List VT) : nodeAt (layT (f + 1) (.mk kind n s keys kids) 0) ((layT (f + 1) (.mk kind n s keys kids) 0).length - 1) = { kind := kind, n := n, s := s, keys := keys, kids := ksT f 0 kids kids.length } := by
  rw [layT_eq, List.length_append, List.length_cons, List.length_nil, show (accT f 0 kids kids.length).length + (0 + 1) - 1 = (accT f 0 kids kids.length).length by omega, nodeAt_right (Nat.le_refl _), Nat.sub_self]
  rfl
theorem lay_kidsW (f : Nat) (kind n : Int) (s : ByteArray) (keys : List ByteArray) (kids : List VT) : (rootKids (layT (f + 1) (.mk kind n s keys kids) 0)).length = kids.length := by
  unfold rootKids
  rw [lay_rootW]
  exact ksT_lenW f 0 kids _ (Nat.le_refl _)
theorem lay_PL {f : Nat} {kind n : Int} {s : ByteArray} {keys : List ByteArray} {kids : List VT} (hf : FullT (f + 1) (.mk kind n s keys kids)) (hok : okB (layT (f + 1) (.mk kind n s keys kids) 0) = true) {j : Nat} (hj : j < kids.length) : PL (layT (f + 1) (.mk kind n s keys kids) 0) j = layT f (kidT kids j) 0 := by
  obtain ⟨vs, hvs⟩ : ∃ vs, layT (f + 1) (.mk kind n s keys kids) 0 = vs := ⟨_, rfl⟩
  have hlen := lay_kidsW f kind n s keys kids
  rw [hvs] at hok hlen ⊢
  obtain ⟨p1, _⟩ := okB_parts hok
  have htb := tree_back hf vs 0 (f + vs.length + 1) (by omega) (fun i hi => by rw [Nat.zero_add, hvs])
  rw [hvs, Nat.zero_add] at htb
  rw [treeOf] at htb
  obtain ⟨q, hq, hql⟩ := root_kid hok (k := j) (by rw [hlen]; exact hj)
  have hkid : kidT kids j = treeOf vs (f + vs.length) q := by
    have h1 : kids = (rootKids vs).map fun k => treeOf vs (f + vs.length) k.toNat := by
      have := congrArg kidsT htb
      exact this.symm
    rw [h1, kidT_map (by rw [hlen]; exact hj)]
    rw [hq]
    rfl
  have hp := (lay_part hok (f := f + vs.length) (m := q) (by omega) (by omega)).1
  unfold PL
  rw [hq]
  show partOf vs (q : Int).toNat = _
  rw [Int.toNat_natCast, ← hp, ← hkid]
  exact layT_more (hf j hj) (by omega) 0
end Go.Proofs.Ytpakfgonemiebaa

/-
  An append inside a region that draws its order, of a slice that may be empty.
-/
namespace Go.Proofs.Ytpakfgonemiebaa
open Go.RowKit
set_option linter.unusedSimpArgs false
set_option linter.unusedVariables false

theorem run_append_zero {P : Program} {w : World} (base : Nat) (t ty e : TypeId) (i : TypeInfo) (size c : Nat) (ax : Option Addr) (ht : P.underlying t = some (.slice e)) (hi : P.info? e = some i)
    (v : Value) (n : Nat) (xs : List Value) (hown : w.ownsRow base e size v n xs) :
    (Builtin.append_ #[t, t] ty #[v, .slice ax 0 c]).run P w = .ok v w := by
  rcases hown.2 with ⟨rfl, rfl⟩ | ⟨g, cap, cur, rfl, _, _, hnc, _⟩
  · cases ax <;> simp [Builtin.append_, run_underlying ht, sizeOf, typeInfo, hi, Builtin.lenOf, Builtin.firstCells, loadCells, loadCellsFrom, Result.andThen]
  · cases ax <;> simp [Builtin.append_, run_underlying ht, sizeOf, typeInfo, hi, Builtin.lenOf, Builtin.firstCells, hnc, storeCells, loadCells, loadCellsFrom, Result.andThen]
theorem step_append_src {P : Program} {w : World} {ops : Array Oper} {o : Oper} {a : Act} {K : Act → World → Prop} {Q : Exit → Act → World → Prop} {E : Prop} (hgd : o.guard = none) (s x : Operand) (t : TypeId)
    (ho : o.op = .call { callee := .builtin .append, args := #[s, x], argTypes := #[t, t] })
    (base : Nat) (e : TypeId) (i : TypeInfo) (z : Value) (size bytes : Nat) (ht : P.underlying t = some (.slice e)) (hi : P.info? e = some i) (hz : i.zero = some z)
    (hsize : i.size = size) (hby : i.bytes = bytes) (hzs : z.cells.size = size) (hsz : 0 < size)
    (v : Value) (n : Nat) (xs : List Value) (hs : a.eval s = v) (hown : w.ownsRow base e size v n xs)
    (ax : Option Addr) (m c : Nat) (news : List Value) (hx : a.eval x = .slice ax m c) (hl : news.length = m * size) (hsrc : 0 < m → ∃ ad, ax = some ad ∧ ∀ j u, news[j]? = some u → w.cell? (ad.add j) = some u) (h1 : ∀ u ∈ news, u.oneCell' = true)
    (h63 : n + m ≤ maxLen) (hbytes : (n + m) * bytes ≤ 140737488355328) (hbase : base ≤ w.heap.size)
    (h : ∀ v' w', w'.ownsRow base e size v' (n + m) (xs ++ news) → w.grownBy w' v.ownBlock → (v'.ownBlock = v.ownBlock ∨ v'.ownBlock = some w.heap.size) → K (a.put o.dst v') w') :
    if Region.wanted o (yielded ops a.tmps) = true then Oper.wp P o a w K Q else E := by
  have hw : Region.wanted o (yielded ops a.tmps) = true := by simp [Region.wanted, hgd]
  rw [if_pos hw]
  rcases Nat.eq_zero_or_pos m with e0 | e0
  · subst e0
    obtain rfl : news = [] := List.eq_nil_of_length_eq_zero (by simpa using hl)
    have hrun := run_append_zero (P := P) (w := w) base t o.type e i size c ax ht hi v n xs hown
    unfold Oper.wp
    simp [execOp, ho, resolve, invoke, builtin, hs, hx, hrun, Result.andThen]
    exact h v w (by simpa using hown) ⟨rfl, rfl, rfl, Nat.le_refl _, fun _ _ _ => rfl⟩ (Or.inl rfl)
  · obtain ⟨ad, rfl, hc⟩ := hsrc e0
    exact wp_append_lies w s x t ho base e i z size bytes ht hi hz hsize hby hzs hsz v n xs hs hown ad m c news hx hl hc h1 e0 h63 hbytes hbase w.heap.size rfl (fun g cap w' h2 h3 h4 _ => h _ w' h2 h3 (by
      rcases h4 with h4 | h4
      · exact Or.inl (by rw [h4]; rfl)
      · exact Or.inr (by rw [h4]; rfl)))
theorem step_call4 {P : Program} {w : World} {ops : Array Oper} {o : Oper} {a : Act} {K : Act → World → Prop} {Q : Exit → Act → World → Prop} {E : Prop} (hgd : o.guard = none) (F : FuncId) (x1 x2 x3 x4 : Operand) (T1 T2 T3 T4 : TypeId)
    (ho : o.op = .call { callee := .value (.func F), args := #[x1, x2, x3, x4], argTypes := #[T1, T2, T3, T4] }) (v1 v2 v3 v4 : Value) (h1 : a.eval x1 = v1) (h2 : a.eval x2 = v2) (h3 : a.eval x3 = v3) (h4 : a.eval x4 = v4) (hcf : ∀ w, (callFunc F #[v1, v2, v3, v4]).run P w = .ok (.enter F #[v1, v2, v3, v4]) w) {R : Ending → World → Prop} (hc : Calls P F #[v1, v2, v3, v4] w R)
    (h : ∀ e w', R e w' → ∃ u, e = .returned u ∧ K (a.put o.dst u) w') :
    if Region.wanted o (yielded ops a.tmps) = true then Oper.wp P o a w K Q else E := by
  have hw : Region.wanted o (yielded ops a.tmps) = true := by simp [Region.wanted, hgd]
  rw [if_pos hw]
  unfold Oper.wp execOp
  have e1 : a.eval (.func F) = .func (.func F) #[] #[] := rfl
  simp [ho, resolve, invoke, h1, h2, h3, h4, e1, Deferred.ofValue, hcf, Result.andThen, Oper.upon_enter]
  refine hc.mono fun e w' hr => ?_
  obtain ⟨u, rfl, hk⟩ := h e w' hr
  exact hk
/-- A row's cells ahead of k and from j on, as they are read in whatever world behind. -/
def DelSrc (w0 : World) (xs : List Value) (g n k j : Nat) (A : Addr) : Prop :=
  (xs.take k).length = k * 1 ∧ (∀ W, Below w0.heap.size w0 W → ∀ i u, (xs.take k)[i]? = some u → W.cell? ((⟨g, 0, none⟩ : Addr).add i) = some u) ∧ (∀ u ∈ xs.take k, u.oneCell' = true) ∧
  (xs.drop j).length = (n - j) * 1 ∧ (∀ W, Below w0.heap.size w0 W → 0 < n - j → ∀ i u, (xs.drop j)[i]? = some u → W.cell? (A.add i) = some u) ∧ (∀ u ∈ xs.drop j, u.oneCell' = true)
theorem delSrc_of {w0 : World} {xs : List Value} {g n k j cL : Nat} {A : Addr} (hl : xs.length = n) (hk : k ≤ n) (hj : j ≤ n) (hc : ∀ i, i < n → w0.cell? ⟨g, i, none⟩ = xs[i]?) (hg : g < w0.heap.size) (h1 : ∀ u ∈ xs, u.oneCell' = true) (hcap : n ≤ cL) (hA : (if cL = j then some (⟨g, 0, none⟩ : Addr) else some ⟨g, j, none⟩) = some A) : DelSrc w0 xs g n k j A := by
  refine ⟨by rw [List.length_take]; omega, fun W hb i u hi => ?_, fun u hu => h1 u (List.mem_of_mem_take hu), by rw [List.length_drop]; omega, fun W hb hp i u hi => ?_, fun u hu => h1 u (List.mem_of_mem_drop hu)⟩
  · have hik : i < k := by have := (List.getElem?_eq_some_iff.1 hi).1; rw [List.length_take] at this; omega
    rw [Addr.add_lit, Nat.zero_add, hb.cell (p := ⟨g, i, none⟩) hg, hc i (by omega)]
    rw [List.getElem?_take, if_pos hik] at hi
    exact hi
  · have hij : i < n - j := by have := (List.getElem?_eq_some_iff.1 hi).1; rw [List.length_drop] at this; omega
    rw [if_neg (by omega), Option.some.injEq] at hA
    rw [← hA, Addr.add_lit, hb.cell (p := ⟨g, j + i, none⟩) hg, hc (j + i) (by omega)]
    rw [List.getElem?_drop] at hi
    exact hi
end Go.Proofs.Ytpakfgonemiebaa

/-
  A nest of nodes, from a lower block on.
-/
namespace Go.Proofs.Ytpakfgonemiebaa
open Go.RowKit

theorem Nest.low {base base' : Nat} {w : World} {v : Value} {vs : List VN} {KV IV : Nat → Value} (h : Nest base w v vs KV IV) (hb : base' ≤ base) : Nest base' w v vs KV IV :=
  ⟨own_mono h.row hb, fun i hi => own_mono (h.rk i hi) hb, fun i hi => own_mono (h.ri i hi) hb, h.dkk, h.dii⟩
end Go.Proofs.Ytpakfgonemiebaa
