/-
  The program's signReader: an escape, a text in quotes.
-/
import Derived.Test.YtagcgnhpdmhegaaJrT
import Derived.Test.YtagcgnhpdmhegaaProg
import Derived.Test.YtagcgnhpdmhegaaStb
import Derived.Test.YtagcgnhpdmhegaaStepC
import Derived.WideShapes
import Derived.Below
import Derived.Lib.FrozenHead
import Derived.Lib.AppendStr
import Derived.Lib.UnsafeStr
import Derived.Shelf.RegionOpenPlain
import Derived.RangeFuncOwn
namespace Go.Proofs.Ytagcgnhpdmhegaa
open Go.RowKit
set_option linter.unusedSimpArgs false
set_option linter.unusedVariables false

theorem esc_ix0 : ∀ n : Fin 256, n.val ≠ 47 → (escC n.val = none ∧ Go.Lib.indexByte [34, 92, 98, 116, 110, 102, 114] (UInt8.ofNat n.val) = -1) ∨ ∃ i : Fin 7, Go.Lib.indexByte [34, 92, 98, 116, 110, 102, 114] (UInt8.ofNat n.val) = (i.val : Int) ∧ escC n.val = some (([34, 92, 8, 9, 10, 12, 13] : List Nat).getD i.val 0) := by decide +kernel
theorem escJ_past {L : List UInt8} {p : Nat} (h : L.length ≤ p) : escJ L p = none := by unfold escJ; rw [if_pos h]
theorem escJ_one {L : List UInt8} {p b : Nat} (h : p < L.length) (hb : escC (byAt L p) = some b) : escJ L p = some (b, p + 1) := by unfold escJ; rw [if_neg (by omega)]; simp only [hb]
theorem escJ_code {L : List UInt8} {p : Nat} (h : p < L.length) (hb : byAt L p = 117) : escJ L p = codeJ L (p + 1) := by
  unfold escJ
  rw [if_neg (by omega)]
  have : escC (byAt L p) = none := by rw [hb]; rfl
  simp only [this, if_pos hb]
theorem escJ_none {L : List UInt8} {p : Nat} (h : p < L.length) (hb : escC (byAt L p) = none) (hc : byAt L p ≠ 117) : escJ L p = none := by
  unfold escJ
  rw [if_neg (by omega)]
  simp only [hb, if_neg hc]
theorem escS_at : ∀ i : Nat, i < 7 → ∀ h : i < (ByteArray.mk #[34, 92, 8, 9, 10, 12, 13]).size, ((ByteArray.mk #[34, 92, 8, 9, 10, 12, 13])[i]'h).toNat = ([34, 92, 8, 9, 10, 12, 13] : List Nat).getD i 0 := by
  intro i hi h
  rcases i with _ | _ | _ | _ | _ | _ | _ | i
  · rfl
  · rfl
  · rfl
  · rfl
  · rfl
  · rfl
  · rfl
  · omega

set_option maxRecDepth 100000 in
set_option maxHeartbeats 3200000 in
theorem readEscape_any {rb p : Nat} {s : ByteArray} {w : World} (h : SrAt w rb s p) (hs : s.size ≤ 1048576) :
    Calls Try.prog 66 #[.pointer (some ⟨rb, 0, none⟩)] w fun e w' => ((∃ b q, escJ s.data.toList p = some (b, q) ∧ e = .returned (.int .u8 (b : Int)) ∧ SrAt w' rb s q) ∨ (escJ s.data.toList p = none ∧ e = gup)) ∧ But rb w w' := by
  have H := hideB h
  have hps := h.br.le
  have HLN := hideB (len_is s)
  clear h
  by_cases hq : p < s.size
  · have HQL : Hid (p < s.data.toList.length) := by rw [Hid, HLN.out]; exact hq
    have HNX := hideB (nextS_yes H.out hq hs)
    rw [byS hq] at HNX
    have hb256 := byAt_lt s.data.toList p
    obtain ⟨c, hc⟩ : ∃ c, byAt s.data.toList p = c := ⟨_, rfl⟩
    have HC := hideB hc
    rw [hc] at HNX hb256
    clear hc
    by_cases c1 : c = 47
    · subst c1
      have HE : Hid (escJ s.data.toList p = some (47, p + 1)) := escJ_one HQL.out (by rw [HC.out]; rfl)
      go_enter Try.func66, Try.ntmps66
      go_wp2_with fail
      refine HNX.out.mono ?_
      rintro e w1 ⟨rfl, hr1, hb1⟩
      have HR1 := hideB hr1
      have HB1 := hideB hb1
      clear hr1 hb1
      go_wp2_with fail
      go_ret
      exact ⟨.inl ⟨47, p + 1, HE.out, rfl, HR1.out⟩, HB1.out⟩
    · have q1 : ((c : Int) == 47) = false := by simp; omega
      have q1' : ¬ (c : Int) = 47 := by omega
      by_cases c2 : c = 117
      · subst c2
        have HE : Hid (escJ s.data.toList p = codeJ s.data.toList (p + 1)) := escJ_code HQL.out HC.out
        go_enter Try.func66, Try.ntmps66
        go_wp2_with fail
        refine HNX.out.mono ?_
        rintro e w1 ⟨rfl, hr1, hb1⟩
        have HR1 := hideB hr1
        have HB1 := hideB hb1
        clear hr1 hb1
        go_wp2_with fail
        refine (readCode_any HR1.out hs).mono ?_
        rintro e w2 ⟨⟨b, z, hcd, rfl, hr2⟩ | ⟨hcd, rfl⟩, hb2⟩
        · have HCD := hideB hcd
          have HR2 := hideB hr2
          have HB2 := hideB (HB1.out.trans hb2)
          clear hcd hr2 hb2
          go_wp2_with fail
          go_ret
          exact ⟨.inl ⟨b, z, by rw [HE.out]; exact HCD.out, rfl, HR2.out⟩, HB2.out⟩
        · have HCD := hideB hcd
          have HB2 := hideB (HB1.out.trans hb2)
          clear hcd hb2
          unfold gup
          go_wp2_with fail
          exact ⟨rfl, .inr ⟨by rw [HE.out]; exact HCD.out, rfl⟩, HB2.out⟩
      · have q2 : ((c : Int) == 117) = false := by simp; omega
        have q2' : ¬ (c : Int) = 117 := by omega
        have HBI : Hid (∀ w, Calls Try.prog 52 #[.string ⟨#[34, 92, 98, 116, 110, 102, 114]⟩, .int .u8 (c : Int)] w fun e w' => e = .returned (.int .i64 (Go.Lib.indexByte [34, 92, 98, 116, 110, 102, 114] (UInt8.ofNat c))) ∧ w' = w) := fun w => by
          have := indexByte_any ⟨#[34, 92, 98, 116, 110, 102, 114]⟩ (UInt8.ofNat c) w
          rw [UInt8.toNat_ofNat', Nat.mod_eq_of_lt (by omega)] at this
          exact this
        rcases esc_ix0 ⟨c, hb256⟩ c1 with ⟨e1, e2⟩ | ⟨i, e1, e2⟩
        · have HE : Hid (escJ s.data.toList p = none) := escJ_none HQL.out (by rw [HC.out]; exact e1) (by rw [HC.out]; exact c2)
          simp only at e2
          rw [e2] at HBI
          clear e1 e2
          go_enter Try.func66, Try.ntmps66
          go_wp2_with fail
          refine HNX.out.mono ?_
          rintro e w1 ⟨rfl, hr1, hb1⟩
          have HB1 := hideB hb1
          clear hr1 hb1
          go_wp2_with fail
          refine (HBI.out _).mono ?_
          rintro e w2 ⟨rfl, rfl⟩
          go_wp2_with fail
          exact ⟨rfl, .inr ⟨HE.out, rfl⟩, HB1.out⟩
        · obtain ⟨i, hi7⟩ := i
          dsimp only at e1 e2
          have HE : Hid (escJ s.data.toList p = some (([34, 92, 8, 9, 10, 12, 13] : List Nat).getD i 0, p + 1)) := escJ_one HQL.out (by rw [HC.out]; exact e2)
          rw [e1] at HBI
          have hi0 : ¬ (i : Int) < 0 := by omega
          have hsz : (ByteArray.mk #[34, 92, 8, 9, 10, 12, 13]).size = 7 := rfl
          have HAT := hideB (escS_at i hi7 (by rw [hsz]; exact hi7))
          have hi7' : (i : Int) < 7 := by omega
          clear e1 e2
          go_enter Try.func66, Try.ntmps66
          go_wp2_with fail
          refine HNX.out.mono ?_
          rintro e w1 ⟨rfl, hr1, hb1⟩
          have HR1 := hideB hr1
          have HB1 := hideB hb1
          clear hr1 hb1
          go_wp2_with fail
          refine (HBI.out _).mono ?_
          rintro e w2 ⟨rfl, rfl⟩
          go_wp2_with fail
          go_ret
          refine ⟨.inl ⟨_, p + 1, HE.out, ?_, HR1.out⟩, HB1.out⟩
          rw [← HAT.out]
          rfl
  · obtain rfl : p = s.size := by omega
    have HE : Hid (escJ s.data.toList s.size = none) := escJ_past (by rw [HLN.out]; omega)
    have HNX := hideB (next_no H.out.br hs)
    go_enter Try.func66, Try.ntmps66
    go_wp2_with fail
    refine HNX.out.mono ?_
    rintro e w1 ⟨rfl, _, hb1⟩
    have HB1 := hideB hb1
    clear hb1
    unfold gup
    go_wp2_with fail
    exact ⟨rfl, .inr ⟨HE.out, rfl⟩, HB1.out⟩
end Go.Proofs.Ytagcgnhpdmhegaa

/-
  Rows of bytes laid by appending.
-/
namespace Go.Proofs.Ytagcgnhpdmhegaa
open Go.RowKit Go.WideShapes
set_option linter.unusedSimpArgs false
set_option linter.unusedVariables false

/-- 'v' is a row of one's own (its memory from block 'base' on) that holds the bytes 'l'. -/
def RowB (base : Nat) (w : World) (v : Value) (l : List UInt8) : Prop := w.ownsRow base 5 1 v l.length (Lib.byteCells l)
theorem RowB.slice {base : Nat} {w : World} {v : Value} {l : List UInt8} (h : RowB base w v l) : ∃ a c, v = .slice a l.length c := by
  rcases h.2 with ⟨rfl, h0⟩ | ⟨g, cap, cur, rfl, _⟩
  · rw [h0]; exact ⟨_, _, rfl⟩
  · exact ⟨_, _, rfl⟩
theorem rowB_new (w : World) : RowB w.heap.size (w.alloc (.cells #[] 5)) (.slice (some ⟨w.heap.size, 0, none⟩) 0 0) [] := by
  have := World.ownsRow_lit (base := w.heap.size) (e := 5) (size := 1) w #[] 0 (Nat.le_refl _) (by simp [maxLen]) rfl
  simpa [RowB, Lib.byteCells] using this
theorem info_byte : (Try.prog.info? 5).map (fun i => (i.zero, i.size, i.bytes)) = some (some (.int .u8 0), 1, 1) := by kernel_rfl
theorem info_three {P : Program} {t : TypeId} {z : Option Value} {s b : Nat} (h : (P.info? t).map (fun i => (i.zero, i.size, i.bytes)) = some (z, s, b)) : ∃ i, P.info? t = some i ∧ i.zero = z ∧ i.size = s ∧ i.bytes = b := by
  cases hi : P.info? t with
  | none => simp [hi] at h
  | some i => simp [hi] at h; exact ⟨i, rfl, h.1, h.2.1, h.2.2⟩
theorem byte_new (w : World) (c : UInt8) : ∀ j u, [Value.int .u8 (c.toNat : Int)][j]? = some u → (w.alloc (.cells #[.int .u8 (c.toNat : Int)] 5)).cell? ((⟨w.heap.size, 0, none⟩ : Addr).add j) = some u := by
  intro j u hj
  match j, hj with
  | 0, hj => simp at hj; subst hj; simp [Addr.add]
theorem row_end {base : Nat} {w w' : World} {v v' : Value} {l : List UInt8} {c : UInt8} (hbase : base ≤ w.heap.size) (hrow : RowB base w v l)
    (hown : w'.ownsRow base 5 1 v' (l.length + 1) (Lib.byteCells l ++ [.int .u8 (c.toNat : Int)])) (hgrow : (w.alloc (.cells #[.int .u8 (c.toNat : Int)] 5)).grownBy w' v.ownBlock) : RowB base w' v' (l ++ [c]) ∧ Below base w w' := by
  refine ⟨?_, ?_⟩
  · unfold RowB
    have e : Lib.byteCells (l ++ [c]) = Lib.byteCells l ++ [.int .u8 (c.toNat : Int)] := by simp [Lib.byteCells]
    rw [e, List.length_append]
    exact hown
  · exact ((Below.refl base w).alloc hbase _).grown hgrow (by simp; omega) (fun k hk => (hrow.lt k hk).1)
/-- append(row, c) -/
theorem wpList_push {ops : Array Oper} {rest : List Oper} {o : Oper} {a : Act} {Q : Exit → Act → World → Prop} {w : World} (hgd : o.guard = none) (s x : Operand)
    (ho : o.op = .call { callee := .builtin .append, args := #[s, x], argTypes := #[69, 69] }) (base : Nat) (l : List UInt8) (v : Value) (hs : a.eval s = v) (hrow : RowB base w v l) (c : UInt8)
    (hx : a.eval x = .slice (some ⟨w.heap.size, 0, none⟩) 1 1) (hlen : l.length + 1 ≤ 70368744177664) (hbase : base ≤ w.heap.size)
    (h : ∀ v' w', RowB base w' v' (l ++ [c]) → Below base w w' → wpList Try.prog ops Q rest (a.put o.dst v') w') : wpList Try.prog ops Q (o :: rest) a (w.alloc (.cells #[.int .u8 (c.toNat : Int)] 5)) := by
  obtain ⟨i0, hi0, hz0, hs0, hy0⟩ := info_three info_byte
  refine wpList_append_own _ hgd s x 69 ho base 5 i0 (.int .u8 0) 1 1 Try.underlying69 hi0 hz0 hs0 hy0 rfl (by decide) v l.length (Lib.byteCells l) hs (hrow.alloc _) ⟨w.heap.size, 0, none⟩ 1 1 [.int .u8 (c.toNat : Int)] hx rfl (byte_new w c) (by intro u hu; simp at hu; subst hu; rfl) (by unfold maxLen; omega) (by omega) (by simp; omega) ?_
  intro v' w' hown hgrow _
  have := row_end hbase hrow hown hgrow
  exact h v' w' this.1 this.2
/-- append(row, c), as a step of a statement whose order is open. -/
theorem step_push {ops : Array Oper} {o : Oper} {a : Act} {K : Act → World → Prop} {Q : Exit → Act → World → Prop} {E : Prop} {w : World} (hgd : o.guard = none) (s x : Operand)
    (ho : o.op = .call { callee := .builtin .append, args := #[s, x], argTypes := #[69, 69] }) (base : Nat) (l : List UInt8) (v : Value) (hs : a.eval s = v) (hrow : RowB base w v l) (c : UInt8)
    (hx : a.eval x = .slice (some ⟨w.heap.size, 0, none⟩) 1 1) (hlen : l.length + 1 ≤ 70368744177664) (hbase : base ≤ w.heap.size)
    (h : ∀ v' w', RowB base w' v' (l ++ [c]) → Below base w w' → K (a.put o.dst v') w') : if Region.wanted o (yielded ops a.tmps) = true then Oper.wp Try.prog o a (w.alloc (.cells #[.int .u8 (c.toNat : Int)] 5)) K Q else E := by
  obtain ⟨i0, hi0, hz0, hs0, hy0⟩ := info_three info_byte
  refine step_append_lies _ hgd s x 69 ho base 5 i0 (.int .u8 0) 1 1 Try.underlying69 hi0 hz0 hs0 hy0 rfl (by decide) v l.length (Lib.byteCells l) hs (hrow.alloc _) ⟨w.heap.size, 0, none⟩ 1 1 [.int .u8 (c.toNat : Int)] hx rfl (byte_new w c) (by intro u hu; simp at hu; subst hu; rfl) (by omega) (by unfold maxLen; omega) (by omega) (by simp; omega) (w.heap.size + 1) (by simp) ?_
  intro g cap w' hown hgrow _ _
  have := row_end hbase hrow hown hgrow
  exact h _ w' this.1 this.2
/-- string(row) -/
theorem RowB.text {base : Nat} {w : World} {a : Option Addr} {cap : Nat} {l : List UInt8} {n : Nat} (hn : l.length = n) (h : RowB base w (.slice a n cap) l) :
    (convert 69 9 (.slice a n cap)).run Try.prog w = .ok (.string (txt l)) w := by
  subst hn
  rcases h.2 with ⟨hv, h0⟩ | ⟨g, cap', cur, hv, _⟩
  · obtain rfl : l = [] := List.eq_nil_of_length_eq_zero h0
    cases hv
    kernel_rfl
  · cases hv
    exact run_convert_bytes_back (P := Try.prog) w 69 9 5 ⟨g, 0, none⟩ cap l Try.underlying69 Try.underlying5 Try.underlying9 (fun j hj => h.cells rfl j _ (by simp [Lib.byteCells, hj]))
theorem RowB.drew {base : Nat} {w : World} {v : Value} {l : List UInt8} (h : RowB base w v l) : RowB base w.drew v l := h
theorem RowB.below {base : Nat} {w w' : World} {v : Value} {l : List UInt8} (h : RowB base w v l) (hb : Below w.heap.size w w') : RowB base w' v l := by
  refine ⟨h.1, ?_⟩
  rcases h.2 with ⟨hv, h0⟩ | ⟨g, cap, cur, hv, h1, h2, h3⟩
  · exact .inl ⟨hv, h0⟩
  · refine .inr ⟨g, cap, cur, hv, h1, ?_, h3⟩
    rw [hb.block g ?_]
    · exact h2
    · rcases Nat.lt_or_ge g w.heap.size with h' | h'
      · exact h'
      · rw [Array.getElem?_eq_none h'] at h2; cases h2
end Go.Proofs.Ytagcgnhpdmhegaa

/-
  A strings.Builder as the first field of a struct (the writers): WriteByte, WriteString, String, in terms of the bytes written.
-/
namespace Go.Proofs.Ytagcgnhpdmhegaa
open Go.RowKit Go.Shelf
set_option linter.unusedSimpArgs false
set_option linter.unusedVariables false

/-- A type whose first field is a builder, with 'n' cells behind it. -/
structure FT (T : TypeId) (n : Nat) : Prop where
  lies : liesAt Try.prog Try.prog.depth T ((n + 2) / Try.prog.cellsOf T) 0 105 1 = true
  ne : T ≠ 5
/-- In block 'b' lies such a struct, its builder (memory from block 'B' on) has written 'l'; 'rest': its other cells. -/
def FB (T : TypeId) (B b : Nat) (rest : List Value) (l : List UInt8) (w : World) : Prop :=
  B ≤ b ∧ ∃ p v, (p = .pointer none ∨ p = .pointer (some ⟨b, 0, none⟩)) ∧ w.heap[b]? = some (.cells (p :: v :: rest).toArray T (0, 0)) ∧ RowB B w v l ∧ v.ownBlock ≠ some b

theorem cellAt {w : World} {b i : Nat} {cs : Array Value} {T : TypeId} {z : Nat × Nat} {x : Value} (h : w.heap[b]? = some (.cells cs T z)) (hx : cs[i]? = some x) : w.cell? ⟨b, i, none⟩ = some x := by
  rw [Lib.cell_of_heap h]; exact hx
theorem lt_heap {w : World} {b : Nat} {o : Obj} (h : w.heap[b]? = some o) : b < w.heap.size := by
  rcases Nat.lt_or_ge b w.heap.size with h' | h'
  · exact h'
  · rw [Array.getElem?_eq_none h'] at h; cases h
theorem set_heap {w : World} {b i : Nat} {cs : Array Value} {T : TypeId} {z : Nat × Nat} (h : w.heap[b]? = some (.cells cs T z)) (u : Value) : (w.setCell ⟨b, i, none⟩ u).heap[b]? = some (.cells (cs.setIfInBounds i u) T z) := by
  simp [World.setCell, Array.getElem?_modify, h]
theorem row_other {B b i : Nat} {w : World} {v : Value} {l : List UInt8} (h : RowB B w v l) (hne : v.ownBlock ≠ some b) (u : Value) : RowB B (w.setCell ⟨b, i, none⟩ u) v l :=
  World.ownsRow.kept (row := some b) h ⟨rfl, rfl, rfl, by simp [World.setCell], fun k _ hk => Below.heap_setCell _ _ _ _ (fun e => hk (by simp [e]))⟩ (Or.inr hne)
theorem row_ne {B b : Nat} {w : World} {v : Value} {l : List UInt8} {cs : Array Value} {T : TypeId} {z : Nat × Nat} (h : RowB B w v l) (hb : w.heap[b]? = some (.cells cs T z)) (hT : T ≠ 5) : v.ownBlock ≠ some b := by
  rcases h.2 with ⟨hv, _⟩ | ⟨g, cap, cur, hv, _, hg, _⟩
  · rw [hv]; simp [Value.ownBlock]
  · rw [hv]
    intro e
    simp [Value.ownBlock] at e
    subst e
    rw [hg] at hb
    injection hb with hb
    injection hb with _ h2
    exact hT h2.symm

/-- No block but 'b' and rows of bytes has turned. -/
def Beside (b : Nat) (w w' : World) : Prop := w.heap.size ≤ w'.heap.size ∧ ∀ c, c < w.heap.size → c ≠ b → (∀ cs z, w.heap[c]? ≠ some (.cells cs 5 z)) → w'.heap[c]? = w.heap[c]?
theorem Beside.refl (b : Nat) (w : World) : Beside b w w := ⟨Nat.le_refl _, fun _ _ _ _ => rfl⟩
theorem Beside.trans {b : Nat} {x y z : World} (h : Beside b x y) (k : Beside b y z) : Beside b x z :=
  ⟨Nat.le_trans h.1 k.1, fun c h1 h2 h3 => (k.2 c (Nat.lt_of_lt_of_le h1 h.1) h2 (fun cs z e => h3 cs z ((h.2 c h1 h2 h3) ▸ e))).trans (h.2 c h1 h2 h3)⟩
theorem Beside.set (b i : Nat) (w : World) (u : Value) : Beside b w (w.setCell ⟨b, i, none⟩ u) := ⟨by simp, fun c _ h2 _ => Below.heap_setCell _ _ _ _ h2⟩
theorem Beside.alloc (b : Nat) (w : World) (o : Obj) : Beside b w (w.alloc o) := ⟨by simp, fun c h1 _ _ => Below.heap_alloc _ _ _ h1⟩
theorem Beside.grown {b B : Nat} {w w' : World} {v : Value} {l : List UInt8} (hr : RowB B w v l) (hg : w.grownBy w' v.ownBlock) : Beside b w w' := by
  refine ⟨hg.size, fun c h1 _ h3 => hg.block c h1 (fun e => ?_)⟩
  rcases hr.2 with ⟨hv, _⟩ | ⟨g, cap, cur, hv, _, hgg, _⟩
  · rw [hv] at e; simp [Value.ownBlock] at e
  · rw [hv] at e
    simp [Value.ownBlock] at e
    subst e
    exact h3 _ _ hgg
theorem Beside.below {b : Nat} {w w' : World} (h : Below w.heap.size w w') : Beside b w w' := ⟨h.size, fun c h1 _ _ => h.block c h1⟩

/-- The same, when it has been written to. -/
def FU (T : TypeId) (B b : Nat) (rest : List Value) (l : List UInt8) (w : World) : Prop :=
  B ≤ b ∧ ∃ v, w.heap[b]? = some (.cells (.pointer (some ⟨b, 0, none⟩) :: v :: rest).toArray T (0, 0)) ∧ RowB B w v l ∧ v.ownBlock ≠ some b
theorem FU.fb {T : TypeId} {B b : Nat} {rest : List Value} {l : List UInt8} {w : World} (h : FU T B b rest l w) : FB T B b rest l w := by
  obtain ⟨h1, v, h2, h3⟩ := h
  exact ⟨h1, _, v, .inr rfl, h2, h3⟩

theorem info_builder : ∃ j, Try.prog.info? 105 = some j ∧ j.size = 2 := Option.map_eq_some_iff.1 (show (Try.prog.info? 105).map (·.size) = some 2 by kernel_rfl)

set_option maxRecDepth 100000 in
set_option maxHeartbeats 1600000 in
theorem fb_check {T : TypeId} {B b : Nat} {rest : List Value} {l : List UInt8} {w : World} (hT : FT T rest.length) (h : FB T B b rest l w) :
    Calls Try.prog 75 #[.pointer (some ⟨b, 0, none⟩)] w fun e w' => e = .returned (.tuple #[]) ∧ FU T B b rest l w' ∧ Below B w w' ∧ Beside b w w' := by
  obtain ⟨hB, p, v, hp, hb, hrow, hne⟩ := h
  obtain ⟨j, hj, hjs⟩ := info_builder
  have h0 := cellAt hb (i := 0) (x := p) (by simp)
  have hsh : w.shape? b = some (T, rest.length + 2) := by simp [World.shape?, hb]
  have hf : w.frozen? ⟨b, 0, none⟩ = false := Lib.frozen_of_heap hb 0
  rcases hp with rfl | rfl
  · go_enter Try.func75, Try.ntmps75
    go_wp2
    rw [Lib.run_to_unsafe w ⟨b, 0, none⟩ Try.underlying103 Try.underlying119 hj (by rw [hjs]; decide) hsh (by simp)]
    simp only [Result.andThen]
    rw [Oper.upon_value]
    go_wp2
    rw [run_callFunc_extern Try.func79 (by kernel_rfl) (by kernel_rfl) (by kernel_rfl) (e := Extern.AbiNoEscape.same) (by kernel_rfl)]
    rw [Lib.run_noEscape]
    simp only [Result.andThen]
    rw [Oper.upon_value]
    go_wp2
    rw [Lib.run_from_unsafe w ⟨b, 0, none⟩ Try.underlying119 Try.underlying103 hj hsh hT.lies]
    simp only [Result.andThen]
    rw [Oper.upon_value]
    go_wp2
    go_end0
    refine ⟨rfl, ⟨hB, v, ?_, row_other hrow hne _, hne⟩, (Below.refl _ _).setCell hB _, Beside.set _ _ _ _⟩
    rw [set_heap hb]
    simp
  · go_enter Try.func75, Try.ntmps75
    go_wp2
    rw [Lib.run_neq_ptr_same w _ Try.underlying103 hj]
    go_wp2
    go_end0
    exact ⟨rfl, ⟨hB, v, hb, hrow, hne⟩, Below.refl _ _, Beside.refl _ _⟩
theorem call_check (v : Value) (w : World) : (callFunc 75 #[v]).run Try.prog w = .ok (.enter 75 #[v]) w := by kernel_rfl
theorem byteCellsApp (l m : List UInt8) : Lib.byteCells (l ++ m) = Lib.byteCells l ++ Lib.byteCells m := by simp [Lib.byteCells]
theorem strCellsB (s : ByteArray) : Lib.strCells s = Lib.byteCells s.data.toList := by simp [Lib.strCells, Lib.byteCells]

set_option maxRecDepth 100000 in
set_option maxHeartbeats 2000000 in
theorem fb_byte {T : TypeId} {B b : Nat} {rest : List Value} {l : List UInt8} {w : World} (hT : FT T rest.length) (h : FB T B b rest l w) (x : UInt8) (hlen : l.length + 1 ≤ 1000000000) (hBw : B ≤ w.heap.size) :
    Calls Try.prog 67 #[.pointer (some ⟨b, 0, none⟩), .int .u8 (x.toNat : Int)] w fun e w' => e = .returned .nilIface ∧ FB T B b rest (l ++ [x]) w' ∧ Below B w w' ∧ Beside b w w' := by
  go_enter Try.func67, Try.ntmps67
  go_wp2_with (go_at_call 75; refine (fb_check hT h).mono ?_)
  rintro e w1 ⟨rfl, ⟨hB, v, hb, hrow, hne⟩, hb1, hk1⟩
  have HK1 := hideB hk1
  clear hk1
  have c1 := cellAt hb (i := 1) (x := v) (by simp)
  have z1 := hb1.size
  obtain ⟨av, cv, ev⟩ := hrow.slice
  have HR := hideB hrow
  have HB := hideB hb
  have HNE := hideB hne
  have hlt := lt_heap hb
  obtain ⟨n, hn⟩ : ∃ n, l.length = n := ⟨_, rfl⟩
  have HN := hideB hn
  rw [hn] at ev hlen
  subst ev
  clear hb hrow hne hn
  obtain ⟨i0, hi0, hz0, hs0, hy0⟩ := info_three info_byte
  go_wp2_with (at_builtin; refine wpList_append_own _ rfl _ _ 69 rfl B 5 i0 (.int .u8 0) 1 1 Try.underlying69 hi0 hz0 hs0 hy0 rfl (by decide) _ _ _ rfl (HR.out.alloc _) ⟨w1.heap.size, 0, none⟩ 1 1 [.int .u8 (x.toNat : Int)] rfl rfl (byte_new w1 x) ?c1 ?c2 ?c3 ?c4 ?_)
  case c1 => intro u hu; simp at hu; subst hu; rfl
  case c2 => rw [HN.out]; unfold maxLen; omega
  case c3 => rw [HN.out]; omega
  case c4 => simp; omega
  intro v' w2 hown hgrow _
  obtain ⟨av2, cv2, ev2⟩ : ∃ a c, v' = .slice a (l.length + 1) c := by
    rcases hown.2 with ⟨_, h0⟩ | ⟨g, cap, cur, hv, _⟩
    · omega
    · exact ⟨_, _, hv⟩
  have hr2 := row_end (by omega) HR.out hown hgrow
  have HK2 := hideB (((HK1.out.trans (Beside.alloc _ _ _)).trans (Beside.grown (HR.out.alloc _) hgrow)).trans (Beside.set b 1 _ v'))
  have hb2 : w2.heap[b]? = some (.cells (.pointer (some ⟨b, 0, none⟩) :: .slice av n cv :: rest).toArray T (0, 0)) := by
    rw [hgrow.block b (by simp; omega) (fun e => HNE.out e.symm), Below.heap_alloc _ _ _ hlt]
    exact HB.out
  have hne2 := row_ne hr2.1 hb2 hT.ne
  have d1 := cellAt hb2 (i := 1) (x := .slice av n cv) (by simp)
  have f1 : w2.frozen? ⟨b, 1, none⟩ = false := Lib.frozen_of_heap hb2 1
  rw [HN.out] at ev2
  subst ev2
  have HR2 := hideB hr2.1
  have HBL := hideB ((hb1.trans (hr2.2)).setCell (p := ⟨b, 1, none⟩) hB (.slice av2 (n + 1) cv2))
  have HB2 := hideB hb2
  have HNE2 := hideB hne2
  clear hown hgrow hr2 hb2 hne2
  go_wp2
  go_ret
  refine ⟨rfl, ⟨hB, _, _, .inr rfl, ?_, row_other HR2.out HNE2.out _, HNE2.out⟩, HBL.out, HK2.out⟩
  rw [set_heap HB2.out]
  simp

theorem cells_byte : Try.prog.cellsOf 5 = 1 := by kernel_rfl
set_option maxRecDepth 100000 in
set_option maxHeartbeats 2000000 in
theorem fb_string {T : TypeId} {B b : Nat} {rest : List Value} {l : List UInt8} {w : World} (h : FB T B b rest l w) (hl0 : l ≠ []) :
    Calls Try.prog 65 #[.pointer (some ⟨b, 0, none⟩)] w fun e w' => e = .returned (.string (txt l)) ∧ Below B w w' := by
  obtain ⟨hB, p, v, hp, hb, hrow, hne⟩ := h
  have hl : l.length ≠ 0 := by simpa using hl0
  have mixed : Try.prog.follows .mixedOrders = true := by kernel_rfl
  obtain ⟨g, cap, cur, rfl, hbg, hg, hnc, hcm, hcs, htake⟩ : ∃ g cap cur, v = .slice (some ⟨g, 0, none⟩) l.length cap ∧ B ≤ g ∧ w.heap[g]? = some (.cells cur 5 (0, 0)) ∧ l.length ≤ cap ∧ cap ≤ maxLen ∧ cur.size = cap * 1 ∧ cur.toList.take (l.length * 1) = Lib.byteCells l := by
    rcases hrow.2 with ⟨_, hz⟩ | ⟨g, cap, cur, hv, r⟩
    · exact absurd hz hl
    · exact ⟨g, cap, cur, hv, r⟩
  have hb' : w.drew.heap[b]? = some (.cells (p :: .slice (some ⟨g, 0, none⟩) l.length cap :: rest).toArray T (0, 0)) := hb
  have hg' : w.drew.heap[g]? = some (.cells cur 5 (0, 0)) := hg
  have c1 : w.drew.cell? ⟨b, 1, none⟩ = some (.slice (some ⟨g, 0, none⟩) l.length cap) := cellAt hb' (by simp)
  have hSD : (Builtin.unsafeSliceData_ #[69] 115 #[.slice (some ⟨g, 0, none⟩) l.length cap]).run Try.prog w.drew = .ok (.pointer (some ⟨g, 0, none⟩)) w.drew :=
    Lib.run_unsafeSliceData_row _ _ _ _ _ _ (by omega)
  have hUS : (Builtin.unsafeString_ #[115, 3] 9 #[.pointer (some ⟨g, 0, none⟩), .int .i64 l.length]).run Try.prog w.drew = .ok (.string ⟨l.toArray⟩) (w.drew.freeze ⟨g, 0, none⟩ l.length) := by
    refine Lib.run_unsafeString_row w.drew 115 3 9 5 Try.underlying115 cells_byte g cur.size (by simp [World.shape?, hg']) l hl0 (by omega) (by unfold maxLen at hcm; omega) ?_
    intro j x hx
    exact hrow.cells (g := g) rfl j (.int .u8 x.toNat) (by simp [Lib.byteCells, hx])
  have HE := hideB (show Below B w (w.drew.freeze ⟨g, 0, none⟩ l.length) from Lib.below_freeze (Below.drew (Below.refl B w)) (p := ⟨g, 0, none⟩) hbg _)
  clear hrow htake hcs hcm hb' hg'
  go_enter Try.func65, Try.ntmps65
  go_wp2
  go_region_o
  all_goals (go_wp2; go_ret; exact ⟨rfl, HE.out⟩)
end Go.Proofs.Ytagcgnhpdmhegaa

/-
  A builder in a struct, kept while other memory is made.
-/
namespace Go.Proofs.Ytagcgnhpdmhegaa
open Go.RowKit Go.Shelf
set_option linter.unusedSimpArgs false
set_option linter.unusedVariables false

theorem FB.grown {T : TypeId} {B b : Nat} {rest : List Value} {l : List UInt8} {X Y : World} {row : Option Nat} (h : FB T B b rest l X) (hg : X.grownBy Y row) (hr : ∀ r, row = some r → ∃ o : Obj, X.heap[r]? = some o ∧ o.isCells = false) : FB T B b rest l Y := by
  obtain ⟨hB, p, v, hp, hb, hrow, hne⟩ := h
  refine ⟨hB, p, v, hp, (grownBy_keeps_cells hg hr hb rfl).trans hb, ⟨hrow.1, ?_⟩, hne⟩
  rcases hrow.2 with h0 | ⟨g, cap, cur, hv, h1, h2, h3⟩
  · exact .inl h0
  · exact .inr ⟨g, cap, cur, hv, h1, (grownBy_keeps_cells hg hr h2 rfl).trans h2, h3⟩
theorem FB.lt {T : TypeId} {B b : Nat} {rest : List Value} {l : List UInt8} {w : World} (h : FB T B b rest l w) : b < w.heap.size := by
  obtain ⟨hB, p, v, hp, hb, _⟩ := h
  exact lt_heap hb
theorem FB.drew {T : TypeId} {B b : Nat} {rest : List Value} {l : List UInt8} {X : World} (h : FB T B b rest l X) : FB T B b rest l X.drew := h
theorem FB.alloc {T : TypeId} {B b : Nat} {rest : List Value} {l : List UInt8} {X : World} (h : FB T B b rest l X) (o : Obj) : FB T B b rest l (X.alloc o) := h.grown (World.grownBy_alloc X o none) (fun r e => by cases e)

theorem FB.keep {T : TypeId} {B b : Nat} {rest : List Value} {l : List UInt8} {X Y : World} (h : FB T B b rest l X) (hk : Below X.heap.size X Y) : FB T B b rest l Y := by
  obtain ⟨hB, p, v, hp, hb, hrow, hne⟩ := h
  refine ⟨hB, p, v, hp, (hk.block b (lt_heap hb)).trans hb, ⟨hrow.1, ?_⟩, hne⟩
  rcases hrow.2 with h0 | ⟨g, cap, cur, hv, h1, h2, h3⟩
  · exact .inl h0
  · exact .inr ⟨g, cap, cur, hv, h1, (hk.block g (lt_heap h2)).trans h2, h3⟩
theorem call_wbyte (u v : Value) : ∀ w, (callFunc 67 #[u, v]).run Try.prog w = .ok (.enter 67 #[u, v]) w := fun w => by kernel_rfl
end Go.Proofs.Ytagcgnhpdmhegaa
