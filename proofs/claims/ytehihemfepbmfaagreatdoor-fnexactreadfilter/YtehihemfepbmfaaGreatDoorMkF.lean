/-
  The laws' marks of nodes of filters.
-/
import Derived.Test.YtehihemfepbmfaaGreatDoorLeaf
import Derived.Test.YtehihemfepbmfaaGreatDoorFrFt
namespace Go.Proofs.YtehihemfepbmfaaGreatDoor
open Go.RowKit
set_option linter.unusedSimpArgs false
set_option linter.unusedVariables false
set_option linter.unusedSectionVars false

def z0 (_ : Nat) : Nat := 0
theorem off0 (k : Nat) : ∀ n, off z0 z0 k n = k + 3 * n := by
  intro n
  induction n with
  | zero => rfl
  | succ n ih => rw [off, ih]; show k + 3 * n + 3 + 0 + 0 = _; omega
def offF (NC NN NI : Nat → Nat) (k : Nat) : Nat → Nat
  | 0 => k
  | i + 1 => offF NC NN NI k i + 3 + 3 * NC i + NN i + NI i
theorem offF_ge (NC NN NI : Nat → Nat) (k : Nat) : ∀ i, k ≤ offF NC NN NI k i := by
  intro i
  induction i with
  | zero => exact Nat.le_refl _
  | succ i ih => rw [offF]; omega
theorem offF_le (NC NN NI : Nat → Nat) (k : Nat) : ∀ i, (∀ j, j < i → NC j ≤ 1 ∧ NN j ≤ 100000 ∧ NI j ≤ 100000) → offF NC NN NI k i ≤ k + i * 200006 := by
  intro i
  induction i with
  | zero => intro _; simp [offF]
  | succ i ih =>
    intro h
    have := ih (fun j hj => h j (by omega))
    have := h i (by omega)
    rw [offF]
    omega
/-- The blocks of a node's rows. -/
def PbF (NC NN NI BC BN BI : Nat → Nat) (i x : Nat) : Prop := (0 < NC i ∧ x = BC i) ∨ (0 < NN i ∧ x = BN i) ∨ (0 < NI i ∧ x = BI i)
/-- Nodes of filters whose memory is their own, to be marked from node c on. -/
structure MkyF (lo : Nat) (w : World) (b n : Nat) (NC NN NI BC BN BI : Nat → Nat) (c : Nat) : Prop where
  low : lo ≤ b
  lt : b < w.heap.size
  few : n ≤ 4000
  row : WRow w b (n * 6)
  le : ∀ i, i < n → NC i ≤ 1 ∧ NN i ≤ 100000 ∧ NI i ≤ 100000
  c3 : ∀ i, c ≤ i → i < n → ∃ a p, w.cell? ⟨b, i * 6 + 3, none⟩ = some (.slice a (NC i) p) ∧ (0 < NC i → a = some ⟨BC i, 0, none⟩ ∧ Marky lo w (BC i) (NC i) z0 z0 z0 z0)
  c4 : ∀ i, c ≤ i → i < n → ∃ a p, w.cell? ⟨b, i * 6 + 4, none⟩ = some (.slice a (NN i) p) ∧ (0 < NN i → a = some ⟨BN i, 0, none⟩ ∧ lo ≤ BN i ∧ BN i < w.heap.size ∧ WRow w (BN i) (NN i))
  c5 : ∀ i, c ≤ i → i < n → ∃ a p, w.cell? ⟨b, i * 6 + 5, none⟩ = some (.slice a (NI i) p) ∧ (0 < NI i → a = some ⟨BI i, 0, none⟩ ∧ lo ≤ BI i ∧ BI i < w.heap.size ∧ WRow w (BI i) (NI i))
  dis : ∀ i j, i < n → j < n → i ≠ j → ∀ x, PbF NC NN NI BC BN BI i x → ¬ PbF NC NN NI BC BN BI j x
  inn : ∀ i, i < n → (0 < NC i → 0 < NN i → BC i ≠ BN i) ∧ (0 < NC i → 0 < NI i → BC i ≠ BI i) ∧ (0 < NN i → 0 < NI i → BN i ≠ BI i)
  off : ∀ i, i < n → ∀ x, PbF NC NN NI BC BN BI i x → x ≠ b ∧ x < w.heap.size
/-- Node i holds its marks, from o on. -/
structure HNdF (w : World) (b i : Nat) (NC NN NI BC BN BI : Nat → Nat) (o : Nat) : Prop where
  lt : b < w.heap.size
  c0 : w.cell? ⟨b, i * 6, none⟩ = some (.int .i64 (o : Nat))
  c1 : w.cell? ⟨b, i * 6 + 1, none⟩ = some (.string (markOf (o + 1)))
  c2 : w.cell? ⟨b, i * 6 + 2, none⟩ = some (.int .i64 (o + 2 : Nat))
  c3 : ∃ a p, w.cell? ⟨b, i * 6 + 3, none⟩ = some (.slice a (NC i) p) ∧ (0 < NC i → a = some ⟨BC i, 0, none⟩) ∧ ∀ j, j < NC i → HNode w (BC i) j 0 0 0 0 (off z0 z0 (o + 3) j)
  c4 : ∃ a p, w.cell? ⟨b, i * 6 + 4, none⟩ = some (.slice a (NN i) p) ∧ (0 < NN i → a = some ⟨BN i, 0, none⟩ ∧ BN i < w.heap.size ∧ ∀ j, j < NN i → w.cell? ⟨BN i, j, none⟩ = some (.string (markOf (o + 3 + 3 * NC i + j))))
  c5 : ∃ a p, w.cell? ⟨b, i * 6 + 5, none⟩ = some (.slice a (NI i) p) ∧ (0 < NI i → a = some ⟨BI i, 0, none⟩ ∧ BI i < w.heap.size ∧ ∀ j, j < NI i → w.cell? ⟨BI i, j, none⟩ = some (.int .i64 (o + 3 + 3 * NC i + NN i + j : Nat)))
section
variable {lo b n : Nat} {w w' : World} {NC NN NI BC BN BI : Nat → Nat}
theorem HNdF.keep {i o : Nat} (h : HNdF w b i NC NN NI BC BN BI o) (hs : w.heap.size ≤ w'.heap.size) (hb : ∀ j, j < 6 → w'.cell? ⟨b, i * 6 + j, none⟩ = w.cell? ⟨b, i * 6 + j, none⟩) (hr : ∀ x, PbF NC NN NI BC BN BI i x → w'.heap[x]? = w.heap[x]?) : HNdF w' b i NC NN NI BC BN BI o := by
  have cell : ∀ x j, PbF NC NN NI BC BN BI i x → w'.cell? ⟨x, j, none⟩ = w.cell? ⟨x, j, none⟩ := fun x j hx => by
    unfold World.cell?
    rw [show w'.heap[(⟨x, j, none⟩ : Addr).block]? = w.heap[(⟨x, j, none⟩ : Addr).block]? from hr x hx]
  refine ⟨by have := h.lt; omega, (hb 0 (by omega)).trans h.c0, (hb 1 (by omega)).trans h.c1, (hb 2 (by omega)).trans h.c2, ?_, ?_, ?_⟩
  · obtain ⟨a, p, e1, e2, e3⟩ := h.c3
    refine ⟨a, p, (hb 3 (by omega)).trans e1, e2, fun j hj => (e3 j hj).keep hs (fun k hk => cell _ _ (.inl ⟨by omega, rfl⟩)) (fun hp => by omega) (fun hp => by omega)⟩
  · obtain ⟨a, p, e1, e2⟩ := h.c4
    refine ⟨a, p, (hb 4 (by omega)).trans e1, fun hp => ?_⟩
    obtain ⟨e3, e4, e5⟩ := e2 hp
    exact ⟨e3, by omega, fun j hj => (cell _ _ (.inr (.inl ⟨hp, rfl⟩))).trans (e5 j hj)⟩
  · obtain ⟨a, p, e1, e2⟩ := h.c5
    refine ⟨a, p, (hb 5 (by omega)).trans e1, fun hp => ?_⟩
    obtain ⟨e3, e4, e5⟩ := e2 hp
    exact ⟨e3, by omega, fun j hj => (cell _ _ (.inr (.inr ⟨hp, rfl⟩))).trans (e5 j hj)⟩
theorem HNdF.below {i o : Nat} (h : HNdF w b i NC NN NI BC BN BI o) (hb : Below w.heap.size w w') : HNdF w' b i NC NN NI BC BN BI o := by
  refine h.keep hb.size (fun j _ => below_cell hb h.lt) (fun x hx => hb.block x ?_)
  rcases hx with ⟨hp, rfl⟩ | ⟨hp, rfl⟩ | ⟨hp, rfl⟩
  · obtain ⟨_, _, _, _, e3⟩ := h.c3; exact (e3 0 hp).lt
  · obtain ⟨_, _, _, e2⟩ := h.c4; exact (e2 hp).2.1
  · obtain ⟨_, _, _, e2⟩ := h.c5; exact (e2 hp).2.1

set_option maxRecDepth 100000 in
set_option maxHeartbeats 3200000 in
theorem heldFNodeS_any (b n cap k : Nat) (a : Option Addr) (NC NN NI BC BN BI : Nat → Nat) (w : World) (ha : 0 < n → a = some ⟨b, 0, none⟩) (hn : n ≤ 4000) (hkn : ∀ i, i < n → NC i ≤ 1 ∧ NN i ≤ 100000 ∧ NI i ≤ 100000) (hk0 : 1 ≤ k) (hk : k ≤ 1000)
    (h : ∀ i, i < n → HNdF w b i NC NN NI BC BN BI (offF NC NN NI k i)) :
    Calls Tryz.prog 21 #[.slice a n cap, .int .i64 k] w fun e w' => e = .returned (.int .i64 (offF NC NN NI k n : Nat)) ∧ Below w.heap.size w w' := by
  have HA := hideIt ha
  have HK := hideIt hkn
  have HH := hideIt h
  clear ha hkn h
  go_enter Tryz.func21, Tryz.ntmps21
  go_wp2_with fail
  go_loopw [1, 5] (fun q i wr => ∃ c : Nat, c ≤ n ∧ q = .int .i64 (offF NC NN NI k c : Nat) ∧ i = .int .i64 c ∧ Below w.heap.size w wr) (fun _ i _ => n - (intOf i).toNat)
  case atStart => exact ⟨0, Nat.zero_le _, rfl, rfl, Below.refl _ _⟩
  case round =>
    obtain ⟨c, hc, rfl, rfl, hbl⟩ := hrel
    have zs := hbl.size
    by_cases hlt : c < n
    · obtain rfl := HA.out (by omega)
      have hN := (HH.out c hlt).below hbl
      have c0 := hN.c0
      have c1 := hN.c1
      have c2 := hN.c2
      obtain ⟨a3, p3, c3, g3, h3⟩ := hN.c3
      obtain ⟨a4, p4, c4, h4⟩ := hN.c4
      obtain ⟨a5, p5, c5, h5⟩ := hN.c5
      have hbs := hN.lt
      have ob := offF_le NC NN NI k c (fun j hj => HK.out j (by omega))
      have og := offF_ge NC NN NI k c
      have HN := hideIt hN
      have H3 := hideIt h3
      have G3 := hideIt g3
      have H4 := hideIt h4
      have H5 := hideIt h5
      have kk := HK.out c hlt
      have HO : Hid (offF NC NN NI k (c + 1) = offF NC NN NI k c + 3 + 3 * NC c + NN c + NI c) := rfl
      clear h3 g3 h4 h5 hN
      generalize offF NC NN NI k c = o at *
      go_wp2_with fail
      go_region_with (go_at_call 48; (try rw [show ((o : Int) + 1) = ((o + 1 : Nat) : Int) by omega]); refine (markText_any (o + 1) _ ?_ ?_).mono ?_; exact (by omega); exact (by omega); rintro e w5 ⟨rfl, hb5⟩; have d1 := (below_cell (o := c * 6 + 1) hb5 (by simpa using hbs)).trans c1)
      all_goals
        have hbq : Below wr.heap.size wr w5 := ((Below.refl wr.heap.size wr).drew).trans (by simpa using hb5)
        have z5 := hbq.size
        have HB5 := hideIt (hbl.trans (hbq.mono zs))
        have HN5 := hideIt (HN.out.below hbq)
        have d2 := HN5.out.c2
        obtain ⟨a3', p3', d3, g3', h3'⟩ := HN5.out.c3
        obtain ⟨a4', p4', d4, h4'⟩ := HN5.out.c4
        obtain ⟨a5', p5', d5, h5'⟩ := HN5.out.c5
        clear hb5 c0 c1 c2 c3 c4 c5 d1 H3 G3 H4 H5
        have H3 := hideIt h3'
        have G3 := hideIt g3'
        have H4 := hideIt h4'
        have H5 := hideIt h5'
        clear h3' g3' h4' h5' hbq
        go_wp2_with fail
        (try rw [show ((o : Int) + 1 + 1 + 1) = ((o + 3 : Nat) : Int) by omega])
        (try rw [show ((o : Int) + 2 + 1) = ((o + 3 : Nat) : Int) by omega])
        (try rw [show ((o : Int) + 3) = ((o + 3 : Nat) : Int) by omega])
        refine (heldVNodeS_any (BC c) (NC c) p3' (o + 3) a3' z0 z0 z0 z0 _ G3.out (by omega) (fun _ _ => ⟨Nat.zero_le _, Nat.zero_le _⟩) (by omega) (by omega) H3.out).mono ?_
        rintro e w6 ⟨rfl, hb6⟩
        rw [off0]
        have z6 := hb6.size
        have HB6 := hideIt (HB5.out.trans (hb6.mono (by omega)))
        have e4 := (below_cell (o := c * 6 + 4) hb6 HN5.out.lt).trans d4
        have e5 := (below_cell (o := c * 6 + 5) hb6 HN5.out.lt).trans d5
        have H46 : Hid (0 < NN c → ∃ b, a4' = some ⟨b, 0, none⟩ ∧ b < w6.heap.size ∧ ∀ j, j < NN c → w6.cell? ⟨b, j, none⟩ = some (.string (markOf (o + 3 + 3 * NC c + j)))) := fun hp => by
          obtain ⟨x1, x2, x3⟩ := H4.out hp
          exact ⟨BN c, x1, by omega, fun j hj => (below_cell hb6 x2).trans (x3 j hj)⟩
        have H56 : Hid (0 < NI c → ∃ b, a5' = some ⟨b, 0, none⟩ ∧ b < w6.heap.size ∧ ∀ j, j < NI c → w6.cell? ⟨b, j, none⟩ = some (.int .i64 (o + 3 + 3 * NC c + NN c + j : Nat))) := fun hp => by
          obtain ⟨x1, x2, x3⟩ := H5.out hp
          exact ⟨BI c, x1, by omega, fun j hj => (below_cell hb6 x2).trans (x3 j hj)⟩
        have hb6lt : b < w6.heap.size := by have := HN5.out.lt; omega
        clear hb6 d2 d3 d4 d5
        go_wp2_with fail
        refine (heldStringS_any 0 a4' (NN c) p4' (o + 3 + 3 * NC c) _ H46.out (by omega) (by omega) (by omega)).mono ?_
        rintro e w7 ⟨rfl, hb7⟩
        have z7 := hb7.size
        have HB7 := hideIt (HB6.out.trans (hb7.mono (by omega)))
        have f5 := (below_cell (o := c * 6 + 5) hb7 hb6lt).trans e5
        have H57 : Hid (0 < NI c → ∃ b, a5' = some ⟨b, 0, none⟩ ∧ ∀ j, j < NI c → w7.cell? ⟨b, j, none⟩ = some (.int .i64 (o + 3 + 3 * NC c + NN c + j : Nat))) := fun hp => by
          obtain ⟨y, x1, x2, x3⟩ := H56.out hp
          exact ⟨y, x1, fun j hj => (below_cell hb7 x2).trans (x3 j hj)⟩
        clear hb7 e4 e5
        go_wp2_with fail
        refine (heldInt64S_any 0 a5' (NI c) p5' (o + 3 + 3 * NC c + NN c) _ H57.out (by omega) (by omega)).mono ?_
        rintro e w8 ⟨rfl, rfl⟩
        go_wp2_with fail
        go_roundw
        case rel => exact ⟨c + 1, by omega, by rw [HO.out]; first | rfl | go_num | simp | (simp; omega), by go_num, HB7.out⟩
        case measure => simp [intOf]; omega
    · obtain rfl : c = n := by omega
      go_wp2_with fail
      go_ret
      exact ⟨rfl, hbl⟩

/-- What marks of node c turn. -/
structure TurnF (b c : Nat) (P : Nat → Prop) (w w' : World) : Prop where
  size : w.heap.size ≤ w'.heap.size
  row : ∀ o, o ≠ c * 6 → o ≠ c * 6 + 1 → o ≠ c * 6 + 2 → w'.cell? ⟨b, o, none⟩ = w.cell? ⟨b, o, none⟩
  rest : ∀ x, x < w.heap.size → x ≠ b → ¬ P x → w'.heap[x]? = w.heap[x]?
theorem TurnF.trans {c : Nat} {P : Nat → Prop} {w1 w2 w3 : World} (h : TurnF b c P w1 w2) (k : TurnF b c P w2 w3) : TurnF b c P w1 w3 :=
  ⟨Nat.le_trans h.size k.size, fun o h1 h2 h3 => (k.row o h1 h2 h3).trans (h.row o h1 h2 h3), fun x h1 h2 h3 => (k.rest x (by have := h.size; omega) h2 h3).trans (h.rest x h1 h2 h3)⟩
theorem TurnF.set {c : Nat} {P : Nat → Prop} (w : World) (v : Value) {p : Nat} (hp : p = c * 6 ∨ p = c * 6 + 1 ∨ p = c * 6 + 2) : TurnF b c P w (w.setCell ⟨b, p, none⟩ v) :=
  ⟨by simp, fun o h1 h2 h3 => World.cell?_setCell_other _ _ _ _ (fun e => by have := congrArg Addr.off e; simp at this; omega), fun x h1 h2 h3 => Below.heap_setCell w _ v x h2⟩
theorem TurnF.below {c : Nat} {P : Nat → Prop} (hb : Below w.heap.size w w') (hl : b < w.heap.size) : TurnF b c P w w' := ⟨hb.size, fun o _ _ _ => below_cell hb hl, fun x h _ _ => hb.block x h⟩
theorem TurnF.only {c : Nat} {P Q : Nat → Prop} (ho : Only Q w w') (hl : b < w.heap.size) (hb : ¬ Q b) (hP : ∀ x, Q x → P x) : TurnF b c P w w' :=
  ⟨ho.1, fun o _ _ _ => ho.cell hl hb, fun x h h1 h2 => ho.2 x h fun hq => h2 (hP x hq)⟩
/-- The nodes behind are as they were, those ahead hold what they held. -/
theorem MkyF.next {c : Nat} (h : MkyF lo w b n NC NN NI BC BN BI c) (hc : c < n) (t : TurnF b c (PbF NC NN NI BC BN BI c) w w') (hrow : WRow w' b (n * 6)) : MkyF lo w' b n NC NN NI BC BN BI (c + 1) := by
  have hx : ∀ i, c + 1 ≤ i → i < n → ∀ x, PbF NC NN NI BC BN BI i x → w'.heap[x]? = w.heap[x]? := fun i h1 h2 x hp => t.rest x (h.off i h2 x hp).2 (h.off i h2 x hp).1 (h.dis i c h2 hc (by omega) x hp)
  refine ⟨h.low, by have := h.lt; have := t.size; omega, h.few, hrow, h.le, fun i h1 h2 => ?_, fun i h1 h2 => ?_, fun i h1 h2 => ?_, h.dis, h.inn, fun i hi x hp => ⟨(h.off i hi x hp).1, by have := (h.off i hi x hp).2; have := t.size; omega⟩⟩
  · obtain ⟨a, p, e1, e2⟩ := h.c3 i (by omega) h2
    refine ⟨a, p, (t.row _ (by omega) (by omega) (by omega)).trans e1, fun hp => ⟨(e2 hp).1, ?_⟩⟩
    have hb := hx i h1 h2 _ (.inl ⟨hp, rfl⟩)
    have hm := (e2 hp).2
    exact hm.keep t.size (hm.row.same hb) (fun j k hj h3 h5 => by unfold World.cell?; rw [show w'.heap[(⟨BC i, j * 5 + k, none⟩ : Addr).block]? = w.heap[(⟨BC i, j * 5 + k, none⟩ : Addr).block]? from hb]) (fun j hj hp => absurd hp (by show ¬ 0 < 0; omega)) (fun j hj hp => absurd hp (by show ¬ 0 < 0; omega))
  · obtain ⟨a, p, e1, e2⟩ := h.c4 i (by omega) h2
    refine ⟨a, p, (t.row _ (by omega) (by omega) (by omega)).trans e1, fun hp => ?_⟩
    obtain ⟨e3, e4, e5, e6⟩ := e2 hp
    exact ⟨e3, e4, by have := t.size; omega, e6.same (hx i h1 h2 _ (.inr (.inl ⟨hp, rfl⟩)))⟩
  · obtain ⟨a, p, e1, e2⟩ := h.c5 i (by omega) h2
    refine ⟨a, p, (t.row _ (by omega) (by omega) (by omega)).trans e1, fun hp => ?_⟩
    obtain ⟨e3, e4, e5, e6⟩ := e2 hp
    exact ⟨e3, e4, by have := t.size; omega, e6.same (hx i h1 h2 _ (.inr (.inr ⟨hp, rfl⟩)))⟩
theorem TurnF.held {c i o : Nat} (h : MkyF lo w b n NC NN NI BC BN BI c) (hc : c < n) (hi : i < c) (t : TurnF b c (PbF NC NN NI BC BN BI c) w w') (hn : HNdF w b i NC NN NI BC BN BI o) : HNdF w' b i NC NN NI BC BN BI o :=
  hn.keep t.size (fun j hj => t.row _ (by omega) (by omega) (by omega)) (fun x hx => t.rest x (h.off i (by omega) x hx).2 (h.off i (by omega) x hx).1 (h.dis i c (by omega) hc (by omega) x hx))

set_option maxRecDepth 100000 in
set_option maxHeartbeats 6400000 in
theorem markFNodeS_any (lo b n cap k : Nat) (a : Option Addr) (NC NN NI BC BN BI : Nat → Nat) (w : World) (h : 0 < n → a = some ⟨b, 0, none⟩ ∧ MkyF lo w b n NC NN NI BC BN BI 0) (hlo : lo ≤ w.heap.size) (hn : n ≤ 4000) (hk0 : 1 ≤ k) (hk : k ≤ 1000) :
    Calls Tryz.prog 20 #[.slice a n cap, .int .i64 k] w fun e w' => e = .returned (.int .i64 (offF NC NN NI k n : Nat)) ∧ (∀ i, i < n → HNdF w' b i NC NN NI BC BN BI (offF NC NN NI k i)) ∧ Below lo w w' := by
  have HA := hideIt h
  clear h
  go_enter Tryz.func20, Tryz.ntmps20
  go_wp2_with fail
  go_loopw [1, 5] (fun q i wr => ∃ c : Nat, c ≤ n ∧ q = .int .i64 (offF NC NN NI k c : Nat) ∧ i = .int .i64 c ∧ (0 < n → MkyF lo wr b n NC NN NI BC BN BI c) ∧ (∀ i, i < c → HNdF wr b i NC NN NI BC BN BI (offF NC NN NI k i)) ∧ w.heap.size ≤ wr.heap.size ∧ Below lo w wr) (fun _ i _ => n - (intOf i).toNat)
  case atStart => exact ⟨0, Nat.zero_le _, rfl, rfl, fun h => (HA.out h).2, fun i hi => by omega, Nat.le_refl _, Below.refl _ _⟩
  case round =>
    obtain ⟨c, hc, rfl, rfl, hm, hd, zs, hbl⟩ := hrel
    have HD := hideIt hd
    have HBL := hideIt hbl
    clear hd hbl
    by_cases hlt : c < n
    · obtain ⟨rfl, _⟩ := HA.out (by omega)
      have HM := hideIt (hm (by omega))
      clear hm
      have kk := HM.out.le c hlt
      have ob := offF_le NC NN NI k c (fun j hj => HM.out.le j (by omega))
      have og := offF_ge NC NN NI k c
      have HOF : Hid (offF NC NN NI k (c + 1) = offF NC NN NI k c + 3 + 3 * NC c + NN c + NI c) := rfl
      have hbs := HM.out.lt
      have hlow := HM.out.low
      obtain ⟨⟨v0, r0⟩, f0⟩ := HM.out.row (c * 6) (by omega)
      generalize hoo : offF NC NN NI k c = o at *
      have HOO := hideIt hoo
      clear hoo
      obtain ⟨W2, hW2⟩ : ∃ W2, wr.setCell ⟨b, c * 6, none⟩ (.int .i64 (o : Int)) = W2 := ⟨_, rfl⟩
      have HT2 : Hid (TurnF b c (PbF NC NN NI BC BN BI c) wr W2) := by rw [Hid, ← hW2]; exact TurnF.set _ _ (.inl rfl)
      have HR2 : Hid (WRow W2 b (n * 6)) := by rw [Hid, ← hW2]; exact HM.out.row.set _ _
      have HB2 : Hid (Below lo w W2) := by rw [Hid, ← hW2]; exact HBL.out.setCell (p := ⟨b, c * 6, none⟩) hlow _
      have HC2 : Hid (W2.cell? ⟨b, c * 6, none⟩ = some (.int .i64 (o : Nat))) := by rw [Hid, ← hW2]; exact World.cell?_setCell_same _ _ _ r0
      have z2 : W2.heap.size = wr.heap.size := by rw [← hW2]; simp
      have HW2 := hideIt hW2
      clear hW2
      go_wp2_with fail
      rw [HW2.out]
      (try rw [show ((o : Int) + 1) = ((o + 1 : Nat) : Int) by omega])
      clear r0 f0
      refine (markText_any (o + 1) _ (by omega) (by omega)).mono ?_
      rintro e w3 ⟨rfl, hb3⟩
      have z3 := hb3.size
      have HT3 := hideIt (HT2.out.trans (TurnF.below hb3 (by omega)))
      have HR3 := hideIt (HR2.out.below hb3 (by omega))
      have HB3 := hideIt (HB2.out.trans (hb3.mono (by omega)))
      have HC3 := hideIt ((below_cell hb3 (by omega)).trans HC2.out)
      have HX3 : Hid (∀ x, x ≠ b → x < wr.heap.size → w3.heap[x]? = wr.heap[x]?) := fun x h1 h2 => (hb3.block x (by omega)).trans (by rw [← HW2.out]; exact Below.heap_setCell _ _ _ _ h1)
      clear hb3
      obtain ⟨⟨v1, r1⟩, f1⟩ := HR3.out (c * 6 + 1) (by omega)
      obtain ⟨⟨v2, r2⟩, f2⟩ := HR3.out (c * 6 + 2) (by omega)
      have r2' : (w3.setCell ⟨b, c * 6 + 1, none⟩ (.string (markOf (o + 1)))).cell? ⟨b, c * 6 + 2, none⟩ = some v2 := (World.cell?_setCell_other _ _ _ _ (by simp)).trans r2
      obtain ⟨W4, hW4⟩ : ∃ W4, (w3.setCell ⟨b, c * 6 + 1, none⟩ (.string (markOf (o + 1)))).setCell ⟨b, c * 6 + 2, none⟩ (.int .i64 ((o : Int) + 1 + 1)) = W4 := ⟨_, rfl⟩
      have HT4 : Hid (TurnF b c (PbF NC NN NI BC BN BI c) wr W4) := by rw [Hid, ← hW4]; exact (HT3.out.trans (TurnF.set _ _ (.inr (.inl rfl)))).trans (TurnF.set _ _ (.inr (.inr rfl)))
      have HR4 : Hid (WRow W4 b (n * 6)) := by rw [Hid, ← hW4]; exact (HR3.out.set _ _).set _ _
      have HB4 : Hid (Below lo w W4) := by rw [Hid, ← hW4]; exact (HB3.out.setCell (p := ⟨b, c * 6 + 1, none⟩) hlow _).setCell (p := ⟨b, c * 6 + 2, none⟩) hlow _
      have HC4 : Hid (W4.cell? ⟨b, c * 6, none⟩ = some (.int .i64 (o : Nat)) ∧ W4.cell? ⟨b, c * 6 + 1, none⟩ = some (.string (markOf (o + 1))) ∧ W4.cell? ⟨b, c * 6 + 2, none⟩ = some (.int .i64 (o + 2 : Nat))) := by
        rw [Hid, ← hW4]
        refine ⟨(World.cell?_setCell_other _ _ _ _ (by simp)).trans ((World.cell?_setCell_other _ _ _ _ (by simp)).trans HC3.out), (World.cell?_setCell_other _ _ _ _ (by simp)).trans (World.cell?_setCell_same _ _ _ r1), by rw [show ((o + 2 : Nat) : Int) = (o : Int) + 1 + 1 by omega]; exact World.cell?_setCell_same _ _ _ r2'⟩
      have z4 : W4.heap.size = w3.heap.size := by rw [← hW4]; simp
      have HX4 : Hid (∀ x, PbF NC NN NI BC BN BI c x → W4.heap[x]? = wr.heap[x]?) := fun x hp => by
        obtain ⟨h1, h2⟩ := HM.out.off c hlt x hp
        rw [← hW4]
        exact (Below.heap_setCell _ _ _ _ h1).trans ((Below.heap_setCell _ _ _ _ h1).trans (HX3.out x h1 h2))
      have HW4 := hideIt hW4
      obtain ⟨a3, p3, d3', h3⟩ := HM.out.c3 c (Nat.le_refl _) hlt
      obtain ⟨a4, p4, d4', h4⟩ := HM.out.c4 c (Nat.le_refl _) hlt
      obtain ⟨a5, p5, d5', h5⟩ := HM.out.c5 c (Nat.le_refl _) hlt
      have d33 : w3.cell? ⟨b, c * 6 + 3, none⟩ = some (.slice a3 (NC c) p3) := (HT3.out.row (c * 6 + 3) (by omega) (by omega) (by omega)).trans d3'
      have d3 := (HT4.out.row (c * 6 + 3) (by omega) (by omega) (by omega)).trans d3'
      have d4 := (HT4.out.row (c * 6 + 4) (by omega) (by omega) (by omega)).trans d4'
      have d5 := (HT4.out.row (c * 6 + 5) (by omega) (by omega) (by omega)).trans d5'
      have zz4 : wr.heap.size ≤ W4.heap.size := by omega
      have H3 : Hid (0 < NC c → a3 = some ⟨BC c, 0, none⟩ ∧ Marky lo W4 (BC c) (NC c) z0 z0 z0 z0) := fun hp => by
        have hb := HX4.out _ (.inl ⟨hp, rfl⟩)
        have hm := (h3 hp).2
        exact ⟨(h3 hp).1, hm.keep zz4 (hm.row.same hb) (fun j k hj h3 h5 => by unfold World.cell?; rw [show W4.heap[(⟨BC c, j * 5 + k, none⟩ : Addr).block]? = wr.heap[(⟨BC c, j * 5 + k, none⟩ : Addr).block]? from hb]) (fun j hj hp => absurd hp (by show ¬ 0 < 0; omega)) (fun j hj hp => absurd hp (by show ¬ 0 < 0; omega))⟩
      have H4 : Hid (0 < NN c → a4 = some ⟨BN c, 0, none⟩ ∧ lo ≤ BN c ∧ BN c < W4.heap.size ∧ WRow W4 (BN c) (NN c)) := fun hp => by
        obtain ⟨e3, e4, e5, e6⟩ := h4 hp
        exact ⟨e3, e4, by omega, e6.same (HX4.out _ (.inr (.inl ⟨hp, rfl⟩)))⟩
      have H5 : Hid (0 < NI c → a5 = some ⟨BI c, 0, none⟩ ∧ lo ≤ BI c ∧ BI c < W4.heap.size ∧ WRow W4 (BI c) (NI c)) := fun hp => by
        obtain ⟨e3, e4, e5, e6⟩ := h5 hp
        exact ⟨e3, e4, by omega, e6.same (HX4.out _ (.inr (.inr ⟨hp, rfl⟩)))⟩
      have hb4 : b < W4.heap.size := by omega
      have hlo4 : lo ≤ W4.heap.size := by omega
      have inn := HM.out.inn c hlt
      have INN := hideIt inn
      have OFF := hideIt (HM.out.off c hlt)
      clear d3' d4' d5' h3 h4 h5 hW4 inn
      go_wp2_with fail
      rw [HW4.out]
      (try rw [show ((o : Int) + 1 + 1 + 1) = ((o + 3 : Nat) : Int) by omega])
      (try rw [show ((o : Int) + 2 + 1) = ((o + 3 : Nat) : Int) by omega])
      (try rw [show ((o : Int) + 3) = ((o + 3 : Nat) : Int) by omega])
      refine (markVNodeS_any lo (BC c) (NC c) p3 (o + 3) a3 z0 z0 z0 z0 _ H3.out hlo4 (by omega) (by omega) (by omega)).mono ?_
      rintro e w5 ⟨rfl, hk5, ho5, hb5⟩
      rw [off0]
      have hm5 : ∀ x, Marked (BC c) (NC c) z0 z0 z0 z0 x → 0 < NC c ∧ x = BC c := fun x ⟨h1, h2⟩ => by
        rcases h2 with h2 | ⟨i, _, ⟨h3, _⟩ | ⟨h3, _⟩⟩
        · exact ⟨h1, h2⟩
        · exact absurd h3 (by show ¬ 0 < 0; omega)
        · exact absurd h3 (by show ¬ 0 < 0; omega)
      have nb5 : ¬ Marked (BC c) (NC c) z0 z0 z0 z0 b := fun hx => by
        obtain ⟨h1, h2⟩ := hm5 b hx
        exact (OFF.out _ (.inl ⟨h1, rfl⟩)).1 h2.symm
      have HT5 := hideIt (HT4.out.trans (TurnF.only ho5 hb4 nb5 (fun x hx => .inl (hm5 x hx))))
      have HR5 := hideIt (HR4.out.same (ho5.2 b hb4 nb5))
      have HB5 := hideIt (HB4.out.trans hb5)
      have HC5 := hideIt (And.intro ((ho5.cell hb4 nb5).trans HC4.out.1) (And.intro ((ho5.cell hb4 nb5).trans HC4.out.2.1) (And.intro ((ho5.cell hb4 nb5).trans HC4.out.2.2) ((ho5.cell hb4 nb5).trans d3))))
      have e4 := (ho5.cell hb4 nb5).trans d4
      have e5 := (ho5.cell hb4 nb5).trans d5
      have z5 := ho5.1
      have H45 : Hid (0 < NN c → a4 = some ⟨BN c, 0, none⟩ ∧ lo ≤ BN c ∧ BN c < w5.heap.size ∧ WRow w5 (BN c) (NN c)) := fun hp => by
        obtain ⟨q1, q2, q3, q4⟩ := H4.out hp
        refine ⟨q1, q2, by omega, q4.same (ho5.2 _ q3 (fun hx => ?_))⟩
        obtain ⟨h1, h2⟩ := hm5 _ hx
        exact INN.out.1 h1 hp h2.symm
      have H55 : Hid (0 < NI c → a5 = some ⟨BI c, 0, none⟩ ∧ lo ≤ BI c ∧ BI c < w5.heap.size ∧ WRow w5 (BI c) (NI c)) := fun hp => by
        obtain ⟨q1, q2, q3, q4⟩ := H5.out hp
        refine ⟨q1, q2, by omega, q4.same (ho5.2 _ q3 (fun hx => ?_))⟩
        obtain ⟨h1, h2⟩ := hm5 _ hx
        exact INN.out.2.1 h1 hp h2.symm
      have HK5 := hideIt hk5
      have hb5l : b < w5.heap.size := by omega
      clear hk5 ho5 hb5 hm5 nb5 d3 d4 d5
      go_wp2_with fail
      refine (markStringS_any lo (BN c) (NN c) p4 (o + 3 + 3 * NC c) a4 _ H45.out (by omega) (by omega) (by omega) (by omega)).mono ?_
      rintro e w6 ⟨rfl, hk6, hw6, ho6, hb6⟩
      have nb6 : ¬ (0 < NN c ∧ b = BN c) := fun ⟨h1, h2⟩ => (OFF.out _ (.inr (.inl ⟨h1, rfl⟩))).1 h2.symm
      have HT6 := hideIt (HT5.out.trans (TurnF.only ho6 hb5l nb6 (fun x hx => .inr (.inl hx))))
      have HR6 := hideIt (HR5.out.same (ho6.2 b hb5l nb6))
      have HB6 := hideIt (HB5.out.trans hb6)
      have HC6 := hideIt (And.intro ((ho6.cell hb5l nb6).trans HC5.out.1) (And.intro ((ho6.cell hb5l nb6).trans HC5.out.2.1) (And.intro ((ho6.cell hb5l nb6).trans HC5.out.2.2.1) (And.intro ((ho6.cell hb5l nb6).trans HC5.out.2.2.2) ((ho6.cell hb5l nb6).trans e4)))))
      have f5 := (ho6.cell hb5l nb6).trans e5
      have z6 := ho6.1
      have HK6 : Hid (∀ j, j < NC c → HNode w6 (BC c) j 0 0 0 0 (off z0 z0 (o + 3) j)) := fun j hj => (HK5.out j hj).keep z6 (fun k hk => ho6.cell (HK5.out j hj).lt (fun ⟨h1, h2⟩ => INN.out.1 (by omega) h1 h2)) (fun hp => absurd hp (by show ¬ 0 < 0; omega)) (fun hp => absurd hp (by show ¬ 0 < 0; omega))
      have HL6 := hideIt hk6
      have H56 : Hid (0 < NI c → a5 = some ⟨BI c, 0, none⟩ ∧ lo ≤ BI c ∧ BI c < w6.heap.size ∧ WRow w6 (BI c) (NI c)) := fun hp => by
        obtain ⟨q1, q2, q3, q4⟩ := H55.out hp
        exact ⟨q1, q2, by omega, q4.same (ho6.2 _ q3 (fun ⟨h1, h2⟩ => INN.out.2.2 h1 hp h2.symm))⟩
      have H46 : Hid (0 < NN c → BN c < w6.heap.size) := fun hp => by have := (H45.out hp).2.2.1; omega
      have hb6l : b < w6.heap.size := by omega
      clear hk6 hw6 ho6 hb6 nb6 e4 e5
      go_wp2_with fail
      refine (markInt64S_any lo (BI c) (NI c) p5 (o + 3 + 3 * NC c + NN c) a5 _ H56.out (by omega) (by omega) (by omega)).mono ?_
      rintro e w7 ⟨rfl, hk7, hw7, ho7, hb7⟩
      have nb7 : ¬ (0 < NI c ∧ b = BI c) := fun ⟨h1, h2⟩ => (OFF.out _ (.inr (.inr ⟨h1, rfl⟩))).1 h2.symm
      have HT7 := hideIt (HT6.out.trans (TurnF.only ho7 hb6l nb7 (fun x hx => .inr (.inr hx))))
      have HR7 := hideIt (HR6.out.same (ho7.2 b hb6l nb7))
      have HB7 := hideIt (HB6.out.trans hb7)
      have z7 := ho7.1
      have HN7 : Hid (HNdF w7 b c NC NN NI BC BN BI o) := by
        refine ⟨by omega, (ho7.cell hb6l nb7).trans HC6.out.1, (ho7.cell hb6l nb7).trans HC6.out.2.1, (ho7.cell hb6l nb7).trans HC6.out.2.2.1, ⟨a3, p3, (ho7.cell hb6l nb7).trans HC6.out.2.2.2.1, fun hp => (H3.out hp).1, fun j hj => (HK6.out j hj).keep z7 (fun k hk => ho7.cell (HK6.out j hj).lt (fun ⟨h1, h2⟩ => INN.out.2.1 (by omega) h1 h2)) (fun hp => absurd hp (by show ¬ 0 < 0; omega)) (fun hp => absurd hp (by show ¬ 0 < 0; omega))⟩, ⟨a4, p4, (ho7.cell hb6l nb7).trans HC6.out.2.2.2.2, fun hp => ⟨(H4.out hp).1, by have := H46.out hp; omega, fun j hj => (ho7.cell (H46.out hp) (fun ⟨h1, h2⟩ => INN.out.2.2 hp h1 h2)).trans (HL6.out j hj)⟩⟩, ⟨a5, p5, (ho7.cell hb6l nb7).trans f5, fun hp => ⟨(H5.out hp).1, by have := (H56.out hp).2.2.1; omega, hk7⟩⟩⟩
      clear hk7 hw7 ho7 hb7 nb7 f5
      go_wp2_with fail
      go_roundw
      case rel =>
        refine ⟨c + 1, by omega, by rw [HOF.out]; first | rfl | go_num | simp | (simp; omega), by go_num, fun _ => HM.out.next hlt HT7.out HR7.out, fun i hi => ?_, by omega, HB7.out⟩
        by_cases e : i = c
        · subst e; rw [HOO.out]; exact HN7.out
        · exact TurnF.held HM.out hlt (by omega) HT7.out (HD.out i (by omega))
      case measure => simp [intOf]; omega
    · obtain rfl : c = n := by omega
      go_wp2_with fail
      go_ret
      exact ⟨rfl, HD.out, HBL.out⟩
end
end Go.Proofs.YtehihemfepbmfaaGreatDoor
