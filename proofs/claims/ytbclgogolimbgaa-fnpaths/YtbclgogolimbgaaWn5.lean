/-
  Rows of rows of nodes: how they lie, laid by appending. No walk.
-/
import Derived.Test.YtbclgogolimbgaaSPart
import Derived.Test.YtbclgogolimbgaaLeaf
import Derived.Maps.Range
import Derived.Test.YtbclgogolimbgaaWn1
namespace Go.Proofs.Ytbclgogolimbgaa
open Go.RowKit
set_option linter.unusedSimpArgs false
set_option linter.unusedVariables false

theorem From.only {base : Nat} {P : Nat → Prop} {a w w' : World} (h : From base a w) (ho : Only P w w') (hP : ∀ c, P c → c < base) : From base a w' :=
  ⟨Nat.le_trans h.1 ho.1, fun c h1 h2 => (ho.2 c (by have := h.1; omega) (fun p => by have := hP c p; omega)).trans (h.2 c h1 h2)⟩
theorem Nest.from {base : Nat} {w w' : World} {v : Value} {vs : List VN} {KV IV : Nat → Value} (h : Nest base w v vs KV IV) (hf : From base w w') : Nest base w' v vs KV IV :=
  ⟨own_from h.row hf, fun i hi => own_from (h.rk i hi) hf, fun i hi => own_from (h.ri i hi) hf, h.dkk, h.dii⟩

def blk (v : Value) : Nat := (v.ownBlock).getD 0
def knOf (vs : List VN) (i : Nat) : Nat := (nodeAt vs i).keys.length
def inOf (vs : List VN) (i : Nat) : Nat := (nodeAt vs i).kids.length

/-- Few nodes, with few keys and kids. -/
def Few (vs : List VN) : Prop := vs.length ≤ 80 ∧ ∀ i, i < vs.length → (nodeAt vs i).keys.length ≤ 80 ∧ (nodeAt vs i).kids.length ≤ 80

/-- A Nest, ready to be marked. -/
theorem Nest.mark {base : Nat} {w : World} {a : Option Addr} {n c : Nat} {vs : List VN} {KV IV : Nat → Value} (h : Nest base w (.slice a n c) vs KV IV) (hl : vs.length = n) (hf : Few vs) :
    0 < n → a = some ⟨blk (.slice a n c), 0, none⟩ ∧ Marky base w (blk (.slice a n c)) n (knOf vs) (inOf vs) (fun i => blk (KV i)) (fun i => blk (IV i)) := by
  subst hl
  intro hp
  obtain ⟨g, cap, e, _⟩ := h.row.form hp
  cases e
  exact ⟨rfl, Nest.marky h (by have := hf.1; omega) (fun i hi => by have := hf.2 i hi; omega)⟩

/-- The blocks of a Nest. -/
def InNest (r : Value) (n : Nat) (K I : Nat → Value) (x : Nat) : Prop := r.ownBlock = some x ∨ ∃ j, j < n ∧ ((K j).ownBlock = some x ∨ (I j).ownBlock = some x)

theorem Nest.inn {base : Nat} {w : World} {v : Value} {vs : List VN} {KV IV : Nat → Value} (h : Nest base w v vs KV IV) {x : Nat} (hx : InNest v vs.length KV IV x) : base ≤ x ∧ x < w.heap.size := by
  rcases hx with hx | ⟨j, hj, hx | hx⟩
  · exact h.row.lt x hx
  · exact (h.rk j hj).lt x hx
  · exact (h.ri j hj).lt x hx

theorem blk_of {w : World} {base e s n : Nat} {v : Value} {xs : List Value} (h : w.ownsRow base e s v n xs) (hn : 0 < n) : v.ownBlock = some (blk v) := by
  obtain ⟨g, cap, rfl, _⟩ := h.form hn
  rfl

theorem Nest.marked {base : Nat} {w : World} {v : Value} {vs : List VN} {KV IV : Nat → Value} (h : Nest base w v vs KV IV) {x : Nat} (hx : Marked (blk v) vs.length (knOf vs) (inOf vs) (fun i => blk (KV i)) (fun i => blk (IV i)) x) : InNest v vs.length KV IV x := by
  obtain ⟨hp, rfl | ⟨i, hi, ⟨hk, rfl⟩ | ⟨hk, rfl⟩⟩⟩ := hx
  · exact Or.inl (blk_of h.row hp)
  · exact Or.inr ⟨i, hi, Or.inl (blk_of (h.rk i hi) hk)⟩
  · exact Or.inr ⟨i, hi, Or.inr (blk_of (h.ri i hi) hk)⟩

/-- A row of slices lies apart from a Nest. -/
theorem Nest.far {base base' : Nat} {w : World} {v r : Value} {n : Nat} {xs : List Value} {vs : List VN} {KV IV : Nat → Value} (h : Nest base w v vs KV IV) (hr : w.ownsRow base' 24 1 r n xs) {x : Nat} (hx : InNest v vs.length KV IV x) : r.ownBlock ≠ some x := by
  intro e
  rcases hx with hx | ⟨j, hj, hx | hx⟩
  · rcases own_apart hr h.row (by decide) with e2 | e2
    · rw [e] at e2; cases e2
    · exact e2 (e.trans hx.symm)
  · rcases own_apart hr (h.rk j hj) (by decide) with e2 | e2
    · rw [e] at e2; cases e2
    · exact e2 (e.trans hx.symm)
  · rcases own_apart hr (h.ri j hj) (by decide) with e2 | e2
    · rw [e] at e2; cases e2
    · exact e2 (e.trans hx.symm)

def updF {α : Type} (F : Nat → α) (k : Nat) (v : α) (i : Nat) : α := if i = k then v else F i
theorem updF_same {α : Type} (F : Nat → α) (k : Nat) (v : α) : updF F k v k = v := if_pos rfl
theorem updF_other {α : Type} (F : Nat → α) {k i : Nat} (v : α) (h : i ≠ k) : updF F k v i = F i := if_neg h

structure Rows2 (base : Nat) (w : World) (v : Value) (m : Nat) (L : Nat → List VN) (rs : Nat → Value) (KV IV : Nat → Nat → Value) (lo : Nat → Nat) : Prop where
  row : w.ownsRow base 24 1 v m ((List.range m).map rs)
  nest : ∀ i, i < m → Nest (lo i) w (rs i) (L i) (KV i) (IV i)
  low : ∀ i, i ≤ m → base ≤ lo i
  mono : ∀ i j, i ≤ j → j ≤ m → lo i ≤ lo j
  top : lo m ≤ w.heap.size
  inn : ∀ i, i < m → ∀ x, InNest (rs i) (L i).length (KV i) (IV i) x → x < lo (i + 1)

theorem Rows2.start {base : Nat} {w : World} {v : Value} (h : w.ownsRow base 24 1 v 0 []) (hb : base ≤ w.heap.size) (L : Nat → List VN) : Rows2 base w v 0 L (fun _ => undef) (fun _ _ => undef) (fun _ _ => undef) (fun _ => base) :=
  ⟨by simpa using h, fun i hi => absurd hi (by omega), fun _ _ => Nat.le_refl _, fun _ _ _ _ => Nat.le_refl _, hb, fun i hi => absurd hi (by omega)⟩

theorem Rows2.below {base : Nat} {w w' : World} {v : Value} {m : Nat} {L : Nat → List VN} {rs : Nat → Value} {KV IV : Nat → Nat → Value} {lo : Nat → Nat} (h : Rows2 base w v m L rs KV IV lo) (hb : Below w.heap.size w w') : Rows2 base w' v m L rs KV IV lo :=
  ⟨own_below h.row hb (fun x hx => (h.row.lt x hx).2), fun i hi => (h.nest i hi).below hb, h.low, h.mono, Nat.le_trans h.top hb.size, h.inn⟩

theorem Rows2.from {base : Nat} {w w' : World} {v : Value} {m : Nat} {L : Nat → List VN} {rs : Nat → Value} {KV IV : Nat → Nat → Value} {lo : Nat → Nat} (h : Rows2 base w v m L rs KV IV lo) (hf : From base w w') : Rows2 base w' v m L rs KV IV lo :=
  ⟨own_from h.row hf, fun i hi => (h.nest i hi).from (hf.mono (h.low i (by omega))), h.low, h.mono, Nat.le_trans h.top hf.1, h.inn⟩

theorem range_map_snoc {m : Nat} {rs : Nat → Value} {r : Value} : (List.range (m + 1)).map (updF rs m r) = (List.range m).map rs ++ [r] := by
  rw [List.range_succ, List.map_append]
  congr 1
  · apply List.map_congr_left
    intro j hj
    exact updF_other _ _ (by have := List.mem_range.1 hj; omega)
  · simp [updF_same]

/-- One row more: made in new memory, then appended. -/
theorem Rows2.snoc {base : Nat} {w w1 w5 : World} {v v' r : Value} {m : Nat} {L : Nat → List VN} {rs : Nat → Value} {KV IV : Nat → Nat → Value} {lo : Nat → Nat} {K I : Nat → Value} {o : Obj} (h : Rows2 base w v m L rs KV IV lo) (hb : Below w.heap.size w w1) (hn : Nest w.heap.size w1 r (L m) K I)
    (hown : w5.ownsRow base 24 1 v' (m + 1) ((List.range m).map rs ++ [r])) (hg : (w1.alloc o).grownBy w5 v.ownBlock) :
    Rows2 base w5 v' (m + 1) L (updF rs m r) (updF KV m K) (updF IV m I) (fun i => if i < m then lo i else if i = m then w.heap.size else w1.heap.size) := by
  have h1 := h.below hb
  have hg1 : w1.grownBy w5 v.ownBlock := (World.grownBy_alloc w1 o _).trans hg
  have hs := hb.size
  have hgs := hg1.size
  have kept : ∀ {b : Nat} {u : Value} {vs : List VN} {A C : Nat → Value}, Nest b w1 u vs A C → Nest b w5 u vs A C := fun hx => hx.kept hg1 (own_apart hx.row h1.row (by decide)) (fun i hi => own_apart (hx.rk i hi) h1.row (by decide)) (fun i hi => own_apart (hx.ri i hi) h1.row (by decide))
  refine ⟨by rw [range_map_snoc]; exact hown, fun i hi => ?_, fun i hi => ?_, fun i j hij hj => ?_, ?_, fun i hi x hx => ?_⟩
  · by_cases e : i = m
    · subst e
      simp only [updF_same, Nat.lt_irrefl, if_true, if_false]
      exact kept hn
    · simp only [updF_other _ _ e, if_pos (show i < m by omega)]
      exact kept (h1.nest i (by omega))
  · have hl := h.low m (Nat.le_refl _)
    have ht := h.top
    by_cases e : i < m
    · simp only [if_pos e]; exact h.low i (by omega)
    · by_cases e2 : i = m
      · simp only [if_neg e, if_pos e2]; omega
      · simp only [if_neg e, if_neg e2]; omega
  · have ht := h.top
    by_cases e : j < m
    · simp only [if_pos e, if_pos (show i < m by omega)]; exact h.mono i j hij (by omega)
    · by_cases e1 : i < m
      · have := h.mono i m (by omega) (Nat.le_refl _)
        by_cases e2 : j = m
        · simp only [if_pos e1, if_neg e, if_pos e2]; omega
        · simp only [if_pos e1, if_neg e, if_neg e2]; omega
      · by_cases e2 : j = m
        · simp only [if_neg e1, if_neg e, if_pos e2, if_pos (show i = m by omega)]; omega
        · by_cases e3 : i = m
          · simp only [if_neg e1, if_neg e, if_neg e2, if_pos e3]; omega
          · simp only [if_neg e1, if_neg e, if_neg e2, if_neg e3]; omega
  · simp only [if_neg (show ¬ m + 1 < m by omega), if_neg (show ¬ m + 1 = m by omega)]; omega
  · have ht := h.top
    by_cases e : i = m
    · subst e
      simp only [updF_same] at hx
      simp only [if_neg (show ¬ i + 1 < i by omega), if_neg (show ¬ i + 1 = i by omega)]
      exact (hn.inn hx).2
    · simp only [updF_other _ _ e] at hx
      have := h.inn i (by omega) x hx
      by_cases e2 : i + 1 < m
      · simp only [if_pos e2]; exact this
      · obtain e3 : i + 1 = m := by omega
        rw [e3] at this
        simp only [if_neg e2, if_pos e3]; omega

/-- Rows of nodes as they are read. -/
def RowsAt (B : Nat) (w : World) (v : Value) (m : Nat) (L : Nat → List VN) : Prop :=
  m ≤ 1048576 ∧ ∃ a cap, v = .slice a m cap ∧ (0 < m → ∃ b, a = some ⟨b, 0, none⟩ ∧ b < B ∧ ∀ i, i < m → ∃ r, w.cell? ⟨b, i, none⟩ = some r ∧ NodesAt B w r (L i))

theorem Rows2.rows {base : Nat} {w : World} {v : Value} {m : Nat} {L : Nat → List VN} {rs : Nat → Value} {KV IV : Nat → Nat → Value} {lo : Nat → Nat} (h : Rows2 base w v m L rs KV IV lo) (hm : m ≤ 80) (hf : ∀ i, i < m → Few (L i) ∧ ∀ j, j < (L i).length → Fits (nodeAt (L i) j)) : RowsAt w.heap.size w v m L := by
  obtain ⟨a, c, e⟩ := own_slice h.row
  subst e
  refine ⟨by omega, a, c, rfl, fun hp => ?_⟩
  obtain ⟨g, cap, e, _, hlt⟩ := h.row.form hp
  cases e
  refine ⟨g, rfl, hlt, fun i hi => ⟨rs i, ?_, (h.nest i hi).nodes (by have := (hf i hi).1.1; omega) (hf i hi).2⟩⟩
  rw [h.row.cellAt i (by omega)]
  simp [hi]
end Go.Proofs.Ytbclgogolimbgaa

/-
  impl.withNodes at a list, if it does as it should at the list's parts.
-/
namespace Go.Proofs.Ytbclgogolimbgaa
open Go.RowKit
set_option linter.unusedSimpArgs false
set_option linter.unusedVariables false

theorem Mid.keepB {base : Nat} {w wr : World} {nb : Nat} {v0 v kv : Value} {ns acc : List VN} {ks : List Int} {cs : List Value} {KV0 IV0 KV IV : Nat → Value} {B : Nat} (h : Mid base w wr nb v0 v kv ns acc ks cs KV0 IV0 KV IV) (hB : B ≤ base) : ∀ k, k < B → wr.heap[k]? = w.heap[k]? :=
  fun k hk => h.frame.block k (by have := h.hbase; omega) (fun e => by have := h.v0b k e.symm; omega)

/-- withNodes does as it should at trees of that height. -/
def LaysAll (B base f : Nat) : Prop :=
  ∀ (t : VT) (x v : Value) (ns : List VN) (KV IV : Nat → Value) (w : World), Nest base w v ns KV IV → TreeAt B w f t x → base ≤ w.heap.size → ns.length + (layT f t ns.length).length ≤ 100000 →
    Calls Try.prog 50 #[v, x] w fun e w' => ∃ v' KV' IV', e = .returned v' ∧ Laid base w w' v v' ns (layT f t ns.length) KV IV KV' IV'

theorem node_after {base : Nat} {w w3 w5 : World} {nb : Nat} {v0 v kv : Value} {ns acc : List VN} {ks : List Int} {cs : List Value} {KV0 IV0 KV IV : Nat → Value} {o : Obj} (h : Mid base w w3 nb v0 v kv ns acc ks cs KV0 IV0 KV IV) (hg : (w3.alloc o).grownBy w5 kv.ownBlock) :
    w5.ownsRow w.heap.size 72 5 (.slice (some ⟨nb, 0, none⟩) 1 1) 1 cs :=
  h.node.kept ((World.grownBy_alloc w3 o _).trans hg) (own_apart h.node h.kids (by decide))

set_option maxRecDepth 100000 in
set_option maxHeartbeats 6400000 in
theorem withNodes_list (B base f : Nat) (hB : B ≤ base) (ih : LaysAll B base f) (kids : List VT) (it v : Value) (ns : List VN) (KV IV : Nat → Value) (w : World) (hit : TItems B w it kids.length (fun j u => TreeAt B w f (kidT kids j) u)) (h : Nest base w v ns KV IV) (hb : base ≤ w.heap.size) (hn : ns.length + (accT f ns.length kids kids.length).length + 1 ≤ 100000) :
    Calls Try.prog 50 #[v, .iface 129 (.agg #[it])] w fun e w' => ∃ v' KV' IV', e = .returned v' ∧ Laid base w w' v v' ns (accT f ns.length kids kids.length ++ [{ kind := 5, n := 0, s := ByteArray.empty, keys := [], kids := ksT f ns.length kids kids.length }]) KV IV KV' IV' := by
  have H := hideIt h
  obtain ⟨av, cv, rfl⟩ := own_slice h.row
  clear h
  obtain ⟨hm0, ai, ci, rfl, hx⟩ := hit
  have HX := hideIt hx
  have IH := hideIt ih
  clear hx ih
  have ta0 := ta_list_bool
  have ta1 := ta_list_int
  have ta2 := ta_list_text
  have ta3 := ta_list_map
  obtain ⟨i0, hi0, hz0, hs0, hy0⟩ := info_parts infoNode
  obtain ⟨i2, hi2, hz2, hs2, hy2⟩ := info_parts infoInt
  go_enter Try.func50, Try.ntmps50
  go_wp2_with fail
  refine (kind5_any _ _ _ _).mono ?_
  rintro e w1 ⟨rfl, hb1⟩
  have HB1 := hideIt hb1
  go_wp2_with fail
  refine (parts5_any _ _ _ _).mono ?_
  rintro e w2 ⟨rfl, hb2⟩
  have HM := hideIt (Mid.start H.out hb HB1.out hb2)
  have z2 : w1.heap.size < w2.heap.size := by have := hb2.size; simp at this; omega
  clear hb1 hb2
  go_wp2_with fail
  go_loopw [0, 18] (fun o i wr => ∃ (k : Nat) (kv : Value) (KV' IV' : Nat → Value), k ≤ kids.length ∧ i = .int .i64 k ∧ Mid base w wr w1.heap.size (.slice av ns.length cv) o kv ns (accT f ns.length kids k) (ksT f ns.length kids k) [.int .i64 5, .int .i64 0, .string ⟨#[]⟩, .slice none 0 0, kv] KV IV KV' IV') (fun _ i _ => kids.length - (intOf i).toNat)
  case atStart => exact ⟨0, _, _, _, Nat.zero_le _, rfl, by rw [accT_zero, ksT_zero]; exact HM.out⟩
  case round =>
    obtain ⟨k, kv, KV', IV', hk, rfl, hm⟩ := hrel
    clear HM z2
    have HM := hideIt hm
    obtain ⟨ao, co, ho⟩ := own_slice hm.nest.row
    obtain ⟨M, hM⟩ : ∃ M, (ns ++ accT f ns.length kids k).length = M := ⟨_, rfl⟩
    have HMM := hideIt hM
    have hacc := accT_le f ns.length kids k
    rw [hM] at ho
    subst ho
    have hfs := hm.frame.size
    have hM1 : M + 1 ≤ 100000 := by rw [← hM, List.length_append]; omega
    clear hm hM
    by_cases hlt : k < kids.length
    · obtain ⟨b, rfl, hbB, hc⟩ := HX.out (by omega)
      obtain ⟨t, x, hck, htr⟩ := hc k hlt
      have hck' : wr.cell? ⟨b, k, none⟩ = some (.iface t x) := (World.cell?_of_block (HM.out.keepB hB b hbB)).trans hck
      have HT := hideIt (TreeAt.keep (HM.out.keepB hB) (Nat.le_refl _) htr)
      have hacc1 := accT_le f ns.length kids (k + 1)
      have HA := hideIt (accT_succ f ns.length hlt)
      have HL0 : Hid ((ns ++ accT f ns.length kids k).length = ns.length + (accT f ns.length kids k).length) := List.length_append
      clear hc hck htr
      go_wp2_with fail
      refine (IH.out (kidT kids k) (.iface t x) _ (ns ++ accT f ns.length kids k) KV' IV' wr HM.out.nest HT.out (by omega) (by rw [HL0.out]; rw [HA.out, List.length_append] at hacc1; omega)).mono ?_
      rintro e w3 ⟨v3, KV3, IV3, rfl, hl⟩
      have hm3 := HM.out.laid hl
      rw [HL0.out, ← HA.out] at hm3
      have HM3 := hideIt hm3
      obtain ⟨a3, c3, h3⟩ := own_slice hm3.nest.row
      obtain ⟨L, hL⟩ : ∃ L, (ns ++ accT f ns.length kids (k + 1)).length = L := ⟨_, rfl⟩
      rw [hL] at h3
      subst h3
      have hL1 : L ≤ 100000 := by rw [← hL, List.length_append]; omega
      have HKS : Hid (ksT f ns.length kids (k + 1) = ksT f ns.length kids k ++ [(L : Int) - 1]) := by rw [Hid, ksT_succ f ns.length hlt, ← hL, List.length_append]
      have hkl := ksT_len f ns.length kids hk
      have HKL := hideIt hkl
      have y4 : w3.cell? ⟨w1.heap.size, 4, none⟩ = some kv := HM3.out.node.cellAt 4 (by omega)
      have hL0 : 1 ≤ L := by
        have := layT_pos HT.out (ns.length + (accT f ns.length kids k).length)
        rw [← hL, HA.out, List.length_append, List.length_append]
        omega
      have HK3 := hideIt HM3.out.kids
      obtain ⟨ak, ck, hkv⟩ := own_slice HK3.out
      rw [HKL.out] at hkv
      subst hkv
      have HZ3 := hideIt HM3.out.frame.size
      clear hm3 hl hL hkl hacc hacc1
      go_wp2_with (at_builtin; refine wpList_append_own_at _ rfl _ _ 70 rfl w.heap.size 2 i2 (.int .i64 0) 1 8 Try.underlying70 hi2 hz2 hs2 hy2 rfl (by decide) _ _ _ rfl (HK3.out.alloc _) ⟨w3.heap.size, 0, none⟩ 1 1 [.int .i64 ((L : Int) - 1)] rfl rfl ?c1 ?c2 ?c3 ?c4 ?c5 ?_)
      case c1 => exact cell_one_new _ _ _
      case c2 => intro u hu; simp at hu; subst hu; rfl
      case c3 => rw [HKL.out]; simp [maxLen]; omega
      case c4 => rw [HKL.out]; omega
      case c5 => have := HZ3.out; simp; omega
      intro kv' w5 hown hgrow _ hat
      obtain ⟨ak', ck', hk'⟩ := own_slice hown
      rw [HKL.out] at hk'
      subst hk'
      have n5 := node_after HM3.out hgrow
      have x4 : w5.cell? ⟨w1.heap.size, 4, none⟩ = some (.slice ak k ck) := n5.cellAt 4 (by omega)
      have f4 : w5.frozen? ⟨w1.heap.size, 4, none⟩ = false := n5.frozenAt 4
      have HMK := hideIt (HM3.out.kid hown hgrow (by simpa using hat))
      clear hown hgrow hat n5
      go_wp2_with fail
      go_roundw
      case rel => exact ⟨k + 1, _, KV3, IV3, by omega, by go_num, by rw [HKS.out]; exact HMK.out⟩
      case measure => simp [intOf]; omega
    · obtain rfl : k = kids.length := by omega
      have y0 : wr.cell? ⟨w1.heap.size, 0, none⟩ = some (.int .i64 5) := HM.out.node.cellAt 0 (by omega)
      have y1 : wr.cell? ⟨w1.heap.size, 1, none⟩ = some (.int .i64 0) := HM.out.node.cellAt 1 (by omega)
      have y2 : wr.cell? ⟨w1.heap.size, 2, none⟩ = some (.string ⟨#[]⟩) := HM.out.node.cellAt 2 (by omega)
      have y3 : wr.cell? ⟨w1.heap.size, 3, none⟩ = some (.slice none 0 0) := HM.out.node.cellAt 3 (by omega)
      have y4 : wr.cell? ⟨w1.heap.size, 4, none⟩ = some kv := HM.out.node.cellAt 4 (by omega)
      have HN := hideIt (HM.out.nest.row.alloc (.cells #[.int .i64 5, .int .i64 0, .string ⟨#[]⟩, .slice none 0 0, kv] 72))
      rw [HMM.out] at HN
      have h1 : kv.oneCell' = true := by obtain ⟨a, c, rfl⟩ := own_slice HM.out.kids; rfl
      go_wp2_with (at_builtin; refine wpList_append_own_at _ rfl _ _ 24 rfl base 72 i0 zeroNode 5 80 Try.underlying24 hi0 hz0 hs0 hy0 rfl (by decide) _ _ _ rfl HN.out ⟨wr.heap.size, 0, none⟩ 1 1 [.int .i64 5, .int .i64 0, .string ⟨#[]⟩, .slice none 0 0, kv] rfl rfl ?c1 ?c2 ?c3 ?c4 ?c5 ?_)
      case c1 => exact news5 _ _ _ _ _ _
      case c2 => intro u hu; simp at hu; rcases hu with rfl | rfl | rfl | rfl | rfl <;> first | rfl | exact h1
      case c3 => unfold maxLen; omega
      case c4 => omega
      case c5 => simp; omega
      intro v' w6 hown hgrow _ hat
      have HL := hideIt (Mid.fin (x := { kind := 5, n := 0, s := ⟨#[]⟩, keys := [], kids := ksT f ns.length kids kids.length }) HM.out rfl (World.ownsRow_nil _ _ _ _) (fun j _ y hy => by simp [Value.ownBlock] at hy) (by rw [HMM.out]; exact hown) hgrow hat)
      clear hown hgrow hat
      go_wp2_with fail
      go_ret
      exact ⟨_, _, _, rfl, HL.out⟩
end Go.Proofs.Ytbclgogolimbgaa
