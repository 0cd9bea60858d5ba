/-
  impl.withNodes at a list, if it does as it should at the list's parts.
-/
import Derived.Test.YtgmnihofkpjboaaGreatDoorWn1
import Derived.Test.YtgmnihofkpjboaaGreatDoorStbB
import Derived.Test.YtgmnihofkpjboaaGreatDoorPartOk
namespace Go.Proofs.YtgmnihofkpjboaaGreatDoor
open Go.RowKit
set_option linter.unusedSimpArgs false
set_option linter.unusedVariables false

theorem Mid.keepB {base : Nat} {w wr : World} {nb : Nat} {v0 v kv : Value} {ns acc : List VN} {ks : List Int} {cs : List Value} {KV0 IV0 KV IV : Nat → Value} {B : Nat} (h : Mid base w wr nb v0 v kv ns acc ks cs KV0 IV0 KV IV) (hB : B ≤ base) : ∀ k, k < B → wr.heap[k]? = w.heap[k]? :=
  fun k hk => h.frame.block k (by have := h.hbase; omega) (fun e => by have := h.v0b k e.symm; omega)

/-- withNodes does as it should at trees of that height. -/
def LaysAll (B base f : Nat) : Prop :=
  ∀ (t : VT) (x v : Value) (ns : List VN) (KV IV : Nat → Value) (w : World), Nest base w v ns KV IV → TreeAt B w f t x → base ≤ w.heap.size → ns.length + (layT f t ns.length).length ≤ 100000 →
    Calls Tryz.prog 49 #[v, x] w fun e w' => ∃ v' KV' IV', e = .returned v' ∧ Laid base w w' v v' ns (layT f t ns.length) KV IV KV' IV'

theorem node_after {base : Nat} {w w3 w5 : World} {nb : Nat} {v0 v kv : Value} {ns acc : List VN} {ks : List Int} {cs : List Value} {KV0 IV0 KV IV : Nat → Value} {o : Obj} (h : Mid base w w3 nb v0 v kv ns acc ks cs KV0 IV0 KV IV) (hg : (w3.alloc o).grownBy w5 kv.ownBlock) :
    w5.ownsRow w.heap.size 37 5 (.slice (some ⟨nb, 0, none⟩) 1 1) 1 cs :=
  h.node.kept ((World.grownBy_alloc w3 o _).trans hg) (own_apart h.node h.kids (by decide))

set_option maxRecDepth 100000 in
set_option maxHeartbeats 6400000 in
theorem withNodes_list (B base f : Nat) (hB : B ≤ base) (ih : LaysAll B base f) (kids : List VT) (it v : Value) (ns : List VN) (KV IV : Nat → Value) (w : World) (hit : TItems B w it kids.length (fun j u => TreeAt B w f (kidT kids j) u)) (h : Nest base w v ns KV IV) (hb : base ≤ w.heap.size) (hn : ns.length + (accT f ns.length kids kids.length).length + 1 ≤ 100000) :
    Calls Tryz.prog 49 #[v, .iface 73 (.agg #[it])] w fun e w' => ∃ v' KV' IV', e = .returned v' ∧ Laid base w w' v v' ns (accT f ns.length kids kids.length ++ [{ kind := 5, n := 0, s := ByteArray.empty, keys := [], kids := ksT f ns.length kids kids.length }]) KV IV KV' IV' := by
  have H := hideIt h
  obtain ⟨av, cv, rfl⟩ := own_slice h.row
  clear h
  obtain ⟨hm0, ai, ci, rfl, hx⟩ := hit
  have HX := hideIt hx
  have IH := hideIt ih
  clear hx ih
  have ta0 := ta_list_bool
  have ta1 := ta_list_int
  have ta2 := ta_list_text
  have ta3 := ta_list_map
  obtain ⟨i0, hi0, hz0, hs0, hy0⟩ := info_parts infoNode
  obtain ⟨i2, hi2, hz2, hs2, hy2⟩ := info_parts infoInt
  go_enter Tryz.func49, Tryz.ntmps49
  go_wp2_with fail
  refine (kind5_any _ _ _ _).mono ?_
  rintro e w1 ⟨rfl, hb1⟩
  have HB1 := hideIt hb1
  go_wp2_with fail
  refine (parts5_any _ _ _ _).mono ?_
  rintro e w2 ⟨rfl, hb2⟩
  have HM := hideIt (Mid.start H.out hb HB1.out hb2)
  have z2 : w1.heap.size < w2.heap.size := by have := hb2.size; simp at this; omega
  clear hb1 hb2
  go_wp2_with fail
  go_loopw [0, 18] (fun o i wr => ∃ (k : Nat) (kv : Value) (KV' IV' : Nat → Value), k ≤ kids.length ∧ i = .int .i64 k ∧ Mid base w wr w1.heap.size (.slice av ns.length cv) o kv ns (accT f ns.length kids k) (ksT f ns.length kids k) [.int .i64 5, .int .i64 0, .string ⟨#[]⟩, .slice none 0 0, kv] KV IV KV' IV') (fun _ i _ => kids.length - (intOf i).toNat)
  case atStart => exact ⟨0, _, _, _, Nat.zero_le _, rfl, by rw [accT_zero, ksT_zero]; exact HM.out⟩
  case round =>
    obtain ⟨k, kv, KV', IV', hk, rfl, hm⟩ := hrel
    clear HM z2
    have HM := hideIt hm
    obtain ⟨ao, co, ho⟩ := own_slice hm.nest.row
    obtain ⟨M, hM⟩ : ∃ M, (ns ++ accT f ns.length kids k).length = M := ⟨_, rfl⟩
    have HMM := hideIt hM
    have hacc := accT_le f ns.length kids k
    rw [hM] at ho
    subst ho
    have hfs := hm.frame.size
    have hM1 : M + 1 ≤ 100000 := by rw [← hM, List.length_append]; omega
    clear hm hM
    by_cases hlt : k < kids.length
    · obtain ⟨b, rfl, hbB, hc⟩ := HX.out (by omega)
      obtain ⟨t, x, hck, htr⟩ := hc k hlt
      have hck' : wr.cell? ⟨b, k, none⟩ = some (.iface t x) := (World.cell?_of_block (HM.out.keepB hB b hbB)).trans hck
      have HT := hideIt (TreeAt.keep (HM.out.keepB hB) (Nat.le_refl _) htr)
      have hacc1 := accT_le f ns.length kids (k + 1)
      have HA := hideIt (accT_succ f ns.length hlt)
      have HL0 : Hid ((ns ++ accT f ns.length kids k).length = ns.length + (accT f ns.length kids k).length) := List.length_append
      clear hc hck htr
      go_wp2_with fail
      refine (IH.out (kidT kids k) (.iface t x) _ (ns ++ accT f ns.length kids k) KV' IV' wr HM.out.nest HT.out (by omega) (by rw [HL0.out]; rw [HA.out, List.length_append] at hacc1; omega)).mono ?_
      rintro e w3 ⟨v3, KV3, IV3, rfl, hl⟩
      have hm3 := HM.out.laid hl
      rw [HL0.out, ← HA.out] at hm3
      have HM3 := hideIt hm3
      obtain ⟨a3, c3, h3⟩ := own_slice hm3.nest.row
      obtain ⟨L, hL⟩ : ∃ L, (ns ++ accT f ns.length kids (k + 1)).length = L := ⟨_, rfl⟩
      rw [hL] at h3
      subst h3
      have hL1 : L ≤ 100000 := by rw [← hL, List.length_append]; omega
      have HKS : Hid (ksT f ns.length kids (k + 1) = ksT f ns.length kids k ++ [(L : Int) - 1]) := by rw [Hid, ksT_succ f ns.length hlt, ← hL, List.length_append]
      have hkl := ksT_len f ns.length kids hk
      have HKL := hideIt hkl
      have y4 : w3.cell? ⟨w1.heap.size, 4, none⟩ = some kv := HM3.out.node.cellAt 4 (by omega)
      have hL0 : 1 ≤ L := by
        have := layT_pos HT.out (ns.length + (accT f ns.length kids k).length)
        rw [← hL, HA.out, List.length_append, List.length_append]
        omega
      have HK3 := hideIt HM3.out.kids
      obtain ⟨ak, ck, hkv⟩ := own_slice HK3.out
      rw [HKL.out] at hkv
      subst hkv
      have HZ3 := hideIt HM3.out.frame.size
      clear hm3 hl hL hkl hacc hacc1
      go_wp2_with (at_builtin; refine wpList_append_own_at _ rfl _ _ 33 rfl w.heap.size 2 i2 (.int .i64 0) 1 8 Tryz.underlying33 hi2 hz2 hs2 hy2 rfl (by decide) _ _ _ rfl (HK3.out.alloc _) ⟨w3.heap.size, 0, none⟩ 1 1 [.int .i64 ((L : Int) - 1)] rfl rfl ?c1 ?c2 ?c3 ?c4 ?c5 ?_)
      case c1 => exact cell_one_new _ _ _
      case c2 => intro u hu; simp at hu; subst hu; rfl
      case c3 => rw [HKL.out]; simp [maxLen]; omega
      case c4 => rw [HKL.out]; omega
      case c5 => have := HZ3.out; simp; omega
      intro kv' w5 hown hgrow _ hat
      obtain ⟨ak', ck', hk'⟩ := own_slice hown
      rw [HKL.out] at hk'
      subst hk'
      have n5 := node_after HM3.out hgrow
      have x4 : w5.cell? ⟨w1.heap.size, 4, none⟩ = some (.slice ak k ck) := n5.cellAt 4 (by omega)
      have f4 : w5.frozen? ⟨w1.heap.size, 4, none⟩ = false := n5.frozenAt 4
      have HMK := hideIt (HM3.out.kid hown hgrow (by simpa using hat))
      clear hown hgrow hat n5
      go_wp2_with fail
      go_roundw
      case rel => exact ⟨k + 1, _, KV3, IV3, by omega, by go_num, by rw [HKS.out]; exact HMK.out⟩
      case measure => simp [intOf]; omega
    · obtain rfl : k = kids.length := by omega
      have y0 : wr.cell? ⟨w1.heap.size, 0, none⟩ = some (.int .i64 5) := HM.out.node.cellAt 0 (by omega)
      have y1 : wr.cell? ⟨w1.heap.size, 1, none⟩ = some (.int .i64 0) := HM.out.node.cellAt 1 (by omega)
      have y2 : wr.cell? ⟨w1.heap.size, 2, none⟩ = some (.string ⟨#[]⟩) := HM.out.node.cellAt 2 (by omega)
      have y3 : wr.cell? ⟨w1.heap.size, 3, none⟩ = some (.slice none 0 0) := HM.out.node.cellAt 3 (by omega)
      have y4 : wr.cell? ⟨w1.heap.size, 4, none⟩ = some kv := HM.out.node.cellAt 4 (by omega)
      have HN := hideIt (HM.out.nest.row.alloc (.cells #[.int .i64 5, .int .i64 0, .string ⟨#[]⟩, .slice none 0 0, kv] 37))
      rw [HMM.out] at HN
      have h1 : kv.oneCell' = true := by obtain ⟨a, c, rfl⟩ := own_slice HM.out.kids; rfl
      go_wp2_with (at_builtin; refine wpList_append_own_at _ rfl _ _ 24 rfl base 37 i0 zeroNode 5 80 Tryz.underlying24 hi0 hz0 hs0 hy0 rfl (by decide) _ _ _ rfl HN.out ⟨wr.heap.size, 0, none⟩ 1 1 [.int .i64 5, .int .i64 0, .string ⟨#[]⟩, .slice none 0 0, kv] rfl rfl ?c1 ?c2 ?c3 ?c4 ?c5 ?_)
      case c1 => exact news5 _ _ _ _ _ _
      case c2 => intro u hu; simp at hu; rcases hu with rfl | rfl | rfl | rfl | rfl <;> first | rfl | exact h1
      case c3 => unfold maxLen; omega
      case c4 => omega
      case c5 => simp; omega
      intro v' w6 hown hgrow _ hat
      have HL := hideIt (Mid.fin (x := { kind := 5, n := 0, s := ⟨#[]⟩, keys := [], kids := ksT f ns.length kids kids.length }) HM.out rfl (World.ownsRow_nil _ _ _ _) (fun j _ y hy => by simp [Value.ownBlock] at hy) (by rw [HMM.out]; exact hown) hgrow hat)
      clear hown hgrow hat
      go_wp2_with fail
      go_ret
      exact ⟨_, _, _, rfl, HL.out⟩
end Go.Proofs.YtgmnihofkpjboaaGreatDoor

/-
  Paths into nodes: where a step leads, said by the place of a key among keys that rise. Plain mathematics.
-/
namespace Go.Proofs.YtgmnihofkpjboaaGreatDoor
open Go.RowKit
set_option linter.unusedSimpArgs false
set_option linter.unusedVariables false

theorem bytes_lt (x : List UInt8) : ∀ y : List UInt8, Op.bytesLess x y = true ↔ x < y := by
  induction x with
  | nil => intro y; cases y <;> simp [Op.bytesLess]
  | cons a x ih =>
    intro y
    cases y with
    | nil => simp [Op.bytesLess]
    | cons b y =>
      have h := ih y
      rw [List.cons_lt_cons_iff, ← h]
      by_cases h1 : a < b <;> by_cases h2 : a = b <;> simp [Op.bytesLess, h1, h2]

theorem less_iff (a b : ByteArray) : lessB a b = true ↔ a.toList < b.toList := bytes_lt _ _

theorem less_trans {a b c : ByteArray} (h1 : lessB a b = true) (h2 : lessB b c = true) : lessB a c = true := by
  rw [less_iff] at *; exact List.lt_trans h1 h2
theorem less_irr (a : ByteArray) : lessB a a = false := by
  cases h : lessB a a
  · rfl
  · rw [less_iff] at h; exact absurd h (List.lt_irrefl _)
theorem less_total {a b : ByteArray} (h1 : lessB a b = false) (h2 : a.toList ≠ b.toList) : lessB b a = true := by
  have h3 : ¬ a.toList < b.toList := fun h => by rw [← less_iff] at h; rw [h1] at h; cases h
  rw [less_iff]
  by_cases h : b.toList < a.toList
  · exact h
  · exact absurd (List.le_antisymm (List.not_lt.1 h) (List.not_lt.1 h3)) h2

/-- Keys rise: each is ahead of the next one. -/
def Rise (l : List ByteArray) : Prop := ∀ i j, i < j → j < l.length → lessB (keyAt l i) (keyAt l j) = true

theorem riseB_rise {l : List ByteArray} (h : riseB l = true) : Rise l := by
  unfold riseB at h
  rw [List.all_eq_true] at h
  have h1 : ∀ j, j < l.length → 0 < j → lessB (keyAt l (j - 1)) (keyAt l j) = true := by
    intro j hj h0
    have := h j (List.mem_range.2 hj)
    unfold riseAt at this
    simp only [Bool.and_eq_true, Bool.or_eq_true, decide_eq_true_eq] at this
    rcases this.2 with e | e
    · omega
    · exact e
  intro i j hij hj
  induction j with
  | zero => omega
  | succ j ih =>
    have h2 := h1 (j + 1) hj (by omega)
    rw [Nat.add_sub_cancel] at h2
    by_cases e : i = j
    · subst e; exact h2
    · exact less_trans (ih (by omega) (by omega)) h2

/-- How many keys are ahead. -/
def posK (l : List ByteArray) (key : ByteArray) : Nat := (l.takeWhile fun k => lessB k key).length
/-- Is the key there? -/
def hasK (l : List ByteArray) (key : ByteArray) : Bool := decide (posK l key < l.length) && decide ((keyAt l (posK l key)).toList = key.toList)

theorem take_len {p : ByteArray → Bool} : ∀ {l : List ByteArray} {i : Nat}, i ≤ l.length → (∀ j, j < i → p (keyAt l j) = true) → (i < l.length → p (keyAt l i) = false) → (l.takeWhile p).length = i := by
  intro l
  induction l with
  | nil => intro i hi _ _; simp at hi; subst hi; rfl
  | cons a l ih =>
    intro i hi h1 h2
    cases i with
    | zero =>
      have := h2 (by simp)
      simp [keyAt] at this
      simp [List.takeWhile_cons, this]
    | succ i =>
      have ha := h1 0 (by omega)
      simp [keyAt] at ha
      rw [List.takeWhile_cons, if_pos ha, List.length_cons]
      rw [ih (i := i) (by simp at hi; omega) (fun j hj => by have := h1 (j + 1) (by omega); simpa [keyAt] using this) (fun hl => by have := h2 (by simp; omega); simpa [keyAt] using this)]

theorem posK_eq {l : List ByteArray} {key : ByteArray} {i : Nat} (hi : i ≤ l.length) (h1 : ∀ j, j < i → lessB (keyAt l j) key = true) (h2 : i < l.length → lessB (keyAt l i) key = false) : posK l key = i := take_len hi h1 h2

theorem posK_spec {l : List ByteArray} (key : ByteArray) : posK l key ≤ l.length ∧ (∀ j, j < posK l key → lessB (keyAt l j) key = true) ∧ (posK l key < l.length → lessB (keyAt l (posK l key)) key = false) := by
  unfold posK
  induction l with
  | nil => exact ⟨by simp, fun j hj => absurd hj (by simp), fun h => absurd h (by simp)⟩
  | cons a l ih =>
    cases h : lessB a key
    · rw [List.takeWhile_cons, h]
      refine ⟨by simp, fun j hj => absurd hj (by simp), fun _ => ?_⟩
      simpa [keyAt] using h
    · rw [List.takeWhile_cons, h]
      simp only [if_true, List.length_cons]
      refine ⟨by omega, fun j hj => ?_, fun hl => ?_⟩
      · cases j with
        | zero => simpa [keyAt] using h
        | succ j => have := ih.2.1 j (by omega); simpa [keyAt] using this
      · have := ih.2.2 (by omega); simpa [keyAt] using this

/-- Keys behind the place are not ahead of the key, but for the first they are behind it. -/
theorem Rise.behind {l : List ByteArray} (h : Rise l) {key : ByteArray} {i : Nat} (hi : i < l.length) (h1 : lessB (keyAt l i) key = false) {j : Nat} (hij : i < j) (hj : j < l.length) : lessB (keyAt l j) key = false ∧ (keyAt l j).toList ≠ key.toList := by
  have h2 := h i j hij hj
  have key1 : lessB key (keyAt l j) = true := by
    by_cases e : (keyAt l i).toList = key.toList
    · rw [less_iff] at h2 ⊢; rw [← e]; exact h2
    · exact less_trans (less_total h1 e) h2
  rw [less_iff] at key1
  refine ⟨?_, fun e => ?_⟩
  · cases h3 : lessB (keyAt l j) key
    · rfl
    · rw [less_iff] at h3; exact absurd (List.lt_trans h3 key1) (List.lt_irrefl _)
  · rw [e] at key1; exact absurd key1 (List.lt_irrefl _)

theorem less_ne {a b : ByteArray} (h : lessB a b = true) : a.toList ≠ b.toList := fun e => by
  rw [less_iff, e] at h; exact absurd h (List.lt_irrefl _)

/-- The place to which a step leads, of a value of that kind with those keys and so many parts. -/
def stepTo (kind : Int) (keys : List ByteArray) (n : Nat) (x : PS) : Option Nat :=
  if x.named = true then (if kind = 6 ∧ hasK keys x.key = true then some (posK keys x.key) else none)
  else if kind = 5 ∧ x.pl < (n : Int) then some x.pl.toNat else none

def stepN (x : VN) (s : PS) : Option Nat := stepTo x.kind x.keys x.kids.length s

/-- The first place of the key. -/
theorem hasK_first {l : List ByteArray} (h : Rise l) {key : ByteArray} {i : Nat} (hi : i < l.length) (he : (keyAt l i).toList = key.toList) (hf : ∀ j, j < i → (keyAt l j).toList ≠ key.toList) : hasK l key = true ∧ posK l key = i := by
  have hp : posK l key = i := posK_eq (by omega) (fun j hj => by
      have := h j i hj hi
      rw [less_iff] at this ⊢
      rw [← he]; exact this) (fun _ => by
      cases h3 : lessB (keyAt l i) key
      · rfl
      · exact absurd he (less_ne h3))
  refine ⟨?_, hp⟩
  unfold hasK
  rw [hp]
  simp [hi, he]

theorem hasK_none {l : List ByteArray} {key : ByteArray} (hf : ∀ j, j < l.length → (keyAt l j).toList ≠ key.toList) : hasK l key = false := by
  unfold hasK
  by_cases h : posK l key < l.length
  · simp [h, hf _ h]
  · simp [h]

/-- Following steps, node by node. -/
def gotN (vs : List VN) : Nat → List PS → Option Nat
  | i, [] => some i
  | i, s :: r => match stepN (nodeAt vs i) s with
    | none => none
    | some k => gotN vs (intAt (nodeAt vs i).kids k).toNat r

theorem stepN_lt {vs : List VN} {i k : Nat} {s : PS} (hs : s.named = true ∨ 0 ≤ s.pl) (hk : (nodeAt vs i).kind = 6 → (nodeAt vs i).keys.length = (nodeAt vs i).kids.length) (h : stepN (nodeAt vs i) s = some k) : k < (nodeAt vs i).kids.length := by
  unfold stepN stepTo at h
  split at h
  · split at h
    · rename_i h1 h2
      simp only [Option.some.injEq] at h
      subst h
      have := h2.2
      unfold hasK at this
      simp at this
      rw [← hk h2.1]
      exact this.1
    · cases h
  · split at h
    · rename_i h1 h2
      simp only [Option.some.injEq] at h
      subst h
      rcases hs with e | e
      · rw [e] at h1; exact absurd rfl h1
      · omega
    · cases h

theorem gotN_append (vs : List VN) : ∀ (p : List PS) (i : Nat) (s : PS), gotN vs i (p ++ [s]) = (gotN vs i p).bind fun j => match stepN (nodeAt vs j) s with | none => none | some k => some (intAt (nodeAt vs j).kids k).toNat := by
  intro p
  induction p with
  | nil =>
    intro i s
    simp only [List.nil_append, gotN, Option.bind_some]
  | cons a p ih =>
    intro i s
    simp only [List.cons_append, gotN]
    cases stepN (nodeAt vs i) a with
    | none => rfl
    | some k => exact ih _ s

theorem take_step {ps : List PS} {k : Nat} (h : k < ps.length) : ps.take (k + 1) = ps.take k ++ [stepAt ps k] := by
  rw [List.take_add_one, List.getElem?_eq_getElem h]
  simp [stepAt, h]

theorem gotN_none (vs : List VN) (i : Nat) {ps : List PS} {k : Nat} (h : gotN vs i (ps.take k) = none) : gotN vs i ps = none := by
  have e : ps = ps.take k ++ ps.drop k := by simp
  rw [e]
  generalize ps.drop k = r
  generalize ps.take k = q at h
  clear e
  induction q generalizing i with
  | nil => simp [gotN] at h
  | cons a q ih =>
    simp only [gotN, List.cons_append] at h ⊢
    cases hs : stepN (nodeAt vs i) a with
    | none => rfl
    | some k => rw [hs] at h; exact ih _ h
end Go.Proofs.YtgmnihofkpjboaaGreatDoor
