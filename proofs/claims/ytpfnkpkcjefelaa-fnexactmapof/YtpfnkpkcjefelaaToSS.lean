/-
  Rows of rows of nodes that came in are copied: each row of the copy has memory of its own.
-/
import Derived.Test.YtpfnkpkcjefelaaSz2
import Derived.Test.YtpfnkpkcjefelaaTo
import Derived.Test.YtpfnkpkcjefelaaTree
namespace Go.Proofs.Ytpfnkpkcjefelaa
open Go.RowKit
set_option linter.unusedSimpArgs false
set_option linter.unusedVariables false

theorem rowOwns {w : World} {base b t n s m : Nat} {f : Nat → Value} (h : w.rowIs b t m f) (hm : m = n * s) (hb : base ≤ b) (hn : n ≤ 9223372036854775807) : w.ownsRow base t s (.slice (some ⟨b, 0, none⟩) n n) n ((List.range m).map f) := by
  obtain ⟨c, h1, h2, h3⟩ := h
  refine ⟨by simp [hm], .inr ⟨b, n, c, rfl, hb, h1, Nat.le_refl _, by unfold maxLen; omega, by rw [h2, hm], ?_⟩⟩
  apply List.ext_getElem?
  intro i
  by_cases hi : i < m
  · rw [List.getElem?_take_of_lt (by omega), List.getElem?_map, List.getElem?_range hi]
    have := h3 i hi
    simpa using this
  · rw [List.getElem?_eq_none (by simp; omega), List.getElem?_eq_none (by simp; omega)]

theorem range_keys (l : List ByteArray) : (List.range l.length).map (fun j => Value.string (keyAt l j)) = l.map .string := by
  apply List.ext_getElem?
  intro i
  by_cases hi : i < l.length
  · simp [hi, keyAt]
  · simp [hi]
theorem range_ints (l : List Int) : (List.range l.length).map (fun j => Value.int .i64 (intAt l j)) = l.map (.int .i64) := by
  apply List.ext_getElem?
  intro i
  by_cases hi : i < l.length
  · simp [hi, intAt]
  · simp [hi]

def ownK (vs : List VN) (KB : Nat → Nat) (i : Nat) : Value := .slice (some ⟨KB i, 0, none⟩) (nodeAt vs i).keys.length (nodeAt vs i).keys.length
def ownI (vs : List VN) (KI : Nat → Nat) (i : Nat) : Value := .slice (some ⟨KI i, 0, none⟩) (nodeAt vs i).kids.length (nodeAt vs i).kids.length

/-- A copy is a Nest. -/
theorem OwnAt.nest {w : World} {b : Nat} {vs : List VN} {KB KI : Nat → Nat} (h : OwnAt w b vs KB KI) (hn : vs.length ≤ 1048576) (hk : ∀ i, i < vs.length → (nodeAt vs i).keys.length ≤ 1048576 ∧ (nodeAt vs i).kids.length ≤ 1048576) :
    Nest b w (.slice (some ⟨b, 0, none⟩) vs.length vs.length) vs (ownK vs KB) (ownI vs KI) := by
  have mono : ∀ i j, i < vs.length → j < vs.length → i ≠ j → KI i < KB j ∨ KI j < KB i := by
    intro i j hi hj e
    rcases Nat.lt_or_gt_of_ne e with e | e
    · exact Or.inl (h.to.mono i j e hj)
    · exact Or.inr (h.to.mono j i e hi)
  refine ⟨?_, fun i hi => ?_, fun i hi => ?_, fun i j hi hj e x hx hy => ?_, fun i j hi hj e x hx hy => ?_⟩
  · exact rowOwns h.row rfl (Nat.le_refl _) (by omega)
  · have := rowOwns (base := b) (s := 1) (n := (nodeAt vs i).keys.length) (h.to.rk i hi) (by omega) (by have := h.to.lo i hi; omega) (by have := hk i hi; omega)
    rw [range_keys] at this
    exact this
  · have := rowOwns (base := b) (s := 1) (n := (nodeAt vs i).kids.length) (h.to.ri i hi) (by omega) (by have := h.to.lo i hi; omega) (by have := hk i hi; omega)
    rw [range_ints] at this
    exact this
  · have e1 : KB i = x := by simpa [ownK, Value.ownBlock] using hx
    have e2 : KB j = x := by simpa [ownK, Value.ownBlock] using hy
    have := mono i j hi hj e
    have := h.to.lo i hi
    have := h.to.lo j hj
    omega
  · have e1 : KI i = x := by simpa [ownI, Value.ownBlock] using hx
    have e2 : KI j = x := by simpa [ownI, Value.ownBlock] using hy
    have := mono i j hi hj e
    have := h.to.lo i hi
    have := h.to.lo j hj
    omega

/-- The first k rows, each in memory of its own, one behind the other. -/
structure Nests (base : Nat) (w : World) (k : Nat) (L : Nat → List VN) (rs : Nat → Value) (KV IV : Nat → Nat → Value) (lo : Nat → Nat) : Prop where
  nest : ∀ i, i < k → Nest (lo i) w (rs i) (L i) (KV i) (IV i)
  low : ∀ i, i ≤ k → base ≤ lo i
  mono : ∀ i j, i ≤ j → j ≤ k → lo i ≤ lo j
  top : lo k ≤ w.heap.size
  inn : ∀ i, i < k → ∀ x, InNest (rs i) (L i).length (KV i) (IV i) x → x < lo (i + 1)

theorem Nests.start {base : Nat} {w : World} (hb : base ≤ w.heap.size) (L : Nat → List VN) : Nests base w 0 L (fun _ => undef) (fun _ _ => undef) (fun _ _ => undef) (fun _ => base) :=
  ⟨fun i hi => absurd hi (by omega), fun _ _ => Nat.le_refl _, fun _ _ _ _ => Nat.le_refl _, hb, fun i hi => absurd hi (by omega)⟩

theorem Nests.step {base : Nat} {w w1 w2 : World} {r : Value} {m : Nat} {L : Nat → List VN} {rs : Nat → Value} {KV IV : Nat → Nat → Value} {lo : Nat → Nat} {K I : Nat → Value} (h : Nests base w m L rs KV IV lo) (hb : Below w.heap.size w w1) (hn : Nest w.heap.size w1 r (L m) K I) (hf : From base w1 w2) :
    Nests base w2 (m + 1) L (updF rs m r) (updF KV m K) (updF IV m I) (fun i => if i < m then lo i else if i = m then w.heap.size else w1.heap.size) := by
  have hs := hb.size
  have hgs := hf.1
  have hl := h.low m (Nat.le_refl _)
  have ht := h.top
  refine ⟨fun i hi => ?_, fun i hi => ?_, fun i j hij hj => ?_, ?_, fun i hi x hx => ?_⟩
  · by_cases e : i = m
    · subst e
      simp only [updF_same, Nat.lt_irrefl, if_true, if_false]
      exact hn.from (hf.mono (by omega))
    · simp only [updF_other _ _ e, if_pos (show i < m by omega)]
      exact ((h.nest i (by omega)).below hb).from (hf.mono (h.low i (by omega)))
  · by_cases e : i < m
    · simp only [if_pos e]; exact h.low i (by omega)
    · by_cases e2 : i = m
      · simp only [if_neg e, if_pos e2]; omega
      · simp only [if_neg e, if_neg e2]; omega
  · by_cases e : j < m
    · simp only [if_pos e, if_pos (show i < m by omega)]; exact h.mono i j hij (by omega)
    · by_cases e1 : i < m
      · have := h.mono i m (by omega) (Nat.le_refl _)
        by_cases e2 : j = m
        · simp only [if_pos e1, if_neg e, if_pos e2]; omega
        · simp only [if_pos e1, if_neg e, if_neg e2]; omega
      · by_cases e2 : j = m
        · simp only [if_neg e1, if_neg e, if_pos e2, if_pos (show i = m by omega)]; omega
        · by_cases e3 : i = m
          · simp only [if_neg e1, if_neg e, if_neg e2, if_pos e3]; omega
          · simp only [if_neg e1, if_neg e, if_neg e2, if_neg e3]; omega
  · simp only [if_neg (show ¬ m + 1 < m by omega), if_neg (show ¬ m + 1 = m by omega)]; omega
  · by_cases e : i = m
    · subst e
      simp only [updF_same] at hx
      simp only [if_neg (show ¬ i + 1 < i by omega), if_neg (show ¬ i + 1 = i by omega)]
      exact (hn.inn hx).2
    · simp only [updF_other _ _ e] at hx
      have := h.inn i (by omega) x hx
      by_cases e2 : i + 1 < m
      · simp only [if_pos e2]; exact this
      · obtain e3 : i + 1 = m := by omega
        rw [e3] at this
        simp only [if_neg e2, if_pos e3]; omega

/-- Rows that came in, not too great. -/
def RowsIn (B : Nat) (w : World) (v : Value) (m : Nat) (L : Nat → List VN) : Prop :=
  m ≤ 1048576 ∧ ∃ a cap, v = .slice a m cap ∧ (0 < m → ∃ b o, a = some ⟨b, o, none⟩ ∧ b < B ∧ ∀ i, i < m → ∃ r, w.cell? ⟨b, o + i, none⟩ = some r ∧ NodesAt B w r (L i))

theorem RowsIn.below {B : Nat} {w w' : World} {v : Value} {m : Nat} {L : Nat → List VN} (h : RowsIn B w v m L) (hb : Below B w w') : RowsIn B w' v m L := by
  obtain ⟨h1, a, c, e, h2⟩ := h
  refine ⟨h1, a, c, e, fun hp => ?_⟩
  obtain ⟨b, o, ea, hbB, h3⟩ := h2 hp
  refine ⟨b, o, ea, hbB, fun i hi => ?_⟩
  obtain ⟨r, e2, hn⟩ := h3 i hi
  exact ⟨r, (below_cell hb hbB).trans e2, hn.below hb⟩

theorem RawRows.fit {B : Nat} {w : World} {v : Value} {m : Nat} {L : Nat → List VN} (h : RawRows B w v m L) (hm : m ≤ 1048576) (hs : ∀ i, i < m → (L i).length ≤ 1048576 ∧ ∀ j, j < (L i).length → Small (nodeAt (L i) j)) : RowsIn B w v m L := by
  obtain ⟨h1, a, c, e, h2⟩ := h
  refine ⟨hm, a, c, e, fun hp => ?_⟩
  obtain ⟨b, o, ea, hbB, h3⟩ := h2 hp
  refine ⟨b, o, ea, hbB, fun i hi => ?_⟩
  obtain ⟨r, e2, hn⟩ := h3 i hi
  exact ⟨r, e2, hn.fit (hs i hi).1 (hs i hi).2⟩

theorem RowsIn.fits {B : Nat} {w : World} {v : Value} {m : Nat} {L : Nat → List VN} (h : RowsIn B w v m L) : ∀ i, i < m → ∀ j, j < (L i).length → Fits (nodeAt (L i) j) := by
  obtain ⟨h1, a, c, e, h2⟩ := h
  intro i hi
  obtain ⟨b, o, ea, hbB, h3⟩ := h2 (by omega)
  obtain ⟨r, e2, hn⟩ := h3 i hi
  exact hn.fits

/-- Rows of rows as they are read, whatever their number. -/
theorem Rows2.rowsAny {base : Nat} {w : World} {v : Value} {m : Nat} {L : Nat → List VN} {rs : Nat → Value} {KV IV : Nat → Nat → Value} {lo : Nat → Nat} (h : Rows2 base w v m L rs KV IV lo) (hm : m ≤ 1048576) (hf : ∀ i, i < m → (L i).length ≤ 1048576 ∧ ∀ j, j < (L i).length → Fits (nodeAt (L i) j)) : RowsAt w.heap.size w v m L := by
  obtain ⟨a, c, e⟩ := own_slice h.row
  subst e
  refine ⟨by omega, a, c, rfl, fun hp => ?_⟩
  obtain ⟨g, cap, e, _, hlt⟩ := h.row.form hp
  cases e
  refine ⟨g, rfl, hlt, fun i hi => ⟨rs i, ?_, (h.nest i hi).nodes (by have := (hf i hi).1; omega) (hf i hi).2⟩⟩
  rw [h.row.cellAt i (by omega)]
  simp [hi]

theorem infoNs : (Try.prog.info? 24).map (fun i => (i.zero, i.size, i.bytes)) = some (some (.slice none 0 0), 1, 24) := by kernel_rfl

def fillR (rs : Nat → Value) (k j : Nat) : Value := if j < k then rs j else .slice none 0 0
theorem fillR_step {w : World} {b t n k : Nat} {rs : Nat → Value} {v : Value} (h : w.rowIs b t n (fillR rs k)) : (w.setCell ⟨b, k, none⟩ v).rowIs b t n (fillR (updF rs k v) (k + 1)) := by
  refine (h.set k _).congr fun i _ => ?_
  unfold fillR
  by_cases e : i = k
  · subst e; rw [if_pos rfl, if_pos (by omega), updF_same]
  · rw [if_neg e]; by_cases g : i < k
    · rw [if_pos g, if_pos (by omega), updF_other _ _ e]
    · rw [if_neg g, if_neg (by omega)]

set_option maxRecDepth 100000 in
set_option maxHeartbeats 1600000 in
theorem toVNodeSS_any (B : Nat) (v : Value) (m : Nat) (L : Nat → List VN) (w : World) (h : RowsIn B w v m L) (hs : ∀ i, i < m → (L i).length ≤ 1048576 ∧ ∀ j, j < (L i).length → Small (nodeAt (L i) j)) (hB : B ≤ w.heap.size) :
    Calls Try.prog 39 #[v] w fun e w' => ∃ rs KV IV lo, e = .returned (.slice (some ⟨w.heap.size, 0, none⟩) m m) ∧
      Rows2 w.heap.size w' (.slice (some ⟨w.heap.size, 0, none⟩) m m) m L rs KV IV lo ∧ Below w.heap.size w w' := by
  obtain ⟨hm, a, cap, rfl, hcell⟩ := h
  have HC := hideIt hcell
  have HS := hideIt hs
  clear hcell hs
  have hmk := run_make_row' (P := Try.prog) 35 24 (.slice none 0 0) 24 Try.underlying35 infoNs rfl .i64 .i64 m (by omega) (by omega)
  go_enter Try.func39, Try.ntmps39
  go_wp2_with fail
  clear hmk
  have hr0 : (w.alloc (.cells (madeCells #[Value.slice none 0 0] m) 24)).rowIs w.heap.size 24 m (fillR (fun _ => undef) 0) := (World.rowIs_made w _ _ _).congr fun i _ => by simp [fillR]
  have hbz : Below w.heap.size w (w.alloc (.cells (madeCells #[Value.slice none 0 0] m) 24)) := (Below.refl _ _).alloc (Nat.le_refl _) _
  go_loopw [4] (fun i wr => ∃ (k : Nat) (rs : Nat → Value) (KV IV : Nat → Nat → Value) (lo : Nat → Nat), k ≤ m ∧ i = .int .i64 k ∧ wr.rowIs w.heap.size 24 m (fillR rs k) ∧ Nests (w.heap.size + 1) wr k L rs KV IV lo ∧ Below w.heap.size w wr) (fun i _ => m - (intOf i).toNat)
  case atStart => exact ⟨0, _, _, _, _, Nat.zero_le _, rfl, hr0, Nests.start (by simp) L, hbz⟩
  case round =>
    obtain ⟨k, rs, KV, IV, lo, hk, rfl, hrow, hnest, hbel⟩ := hrel
    have HN := hideIt hnest
    clear hr0 hbz hnest
    have hsize := hbel.size
    have hlt0 := hrow.lt
    by_cases hlt : k < m
    · obtain ⟨b, o, rfl, hbB, hc⟩ := HC.out (by omega)
      obtain ⟨u, hcu, hn⟩ := hc k hlt
      have c0 := (below_cell (hbel.mono hB) hbB).trans hcu
      have HNK := hideIt (hn.below (hbel.mono hB))
      obtain ⟨_, au, cu, rfl, _⟩ := hn
      have HR := hideIt hrow
      clear hc hcu hrow
      go_wp2_with fail
      refine (toVNodeS_any B _ (L k) _ HNK.out (by omega)).mono ?_
      rintro e w1 ⟨KB, KI, rfl, ho, hb1⟩
      have hz1 := hb1.size
      have HO := hideIt (ho.nest (HS.out k hlt).1 (fun j hj => ⟨((HS.out k hlt).2 j hj).kn, ((HS.out k hlt).2 j hj).ki⟩))
      have hrow1 := rowIs_below HR.out hb1 hlt0
      have hcs := hrow1.cell hlt
      have hfs := hrow1.frozen k
      have hnew := hideIt (fillR_step (v := .slice (some ⟨wr.heap.size, 0, none⟩) (L k).length (L k).length) hrow1)
      have HN2 := hideIt (HN.out.step hb1 HO.out (w2 := w1.setCell ⟨w.heap.size, k, none⟩ (.slice (some ⟨wr.heap.size, 0, none⟩) (L k).length (L k).length)) ⟨by simp, fun c h1 h2 => Below.heap_setCell w1 _ _ c (by simp; omega)⟩)
      have hbn := hideIt ((hbel.trans (hb1.mono hsize)).setCell (p := ⟨w.heap.size, k, none⟩) (Nat.le_refl _) (.slice (some ⟨wr.heap.size, 0, none⟩) (L k).length (L k).length))
      clear ho hrow1 hb1
      go_wp2_with fail
      go_roundw
      case rel => exact ⟨k + 1, _, _, _, _, by omega, by go_num, hnew.out, HN2.out, hbn.out⟩
      case measure => simp [intOf]; omega
    · obtain rfl : k = m := by omega
      go_wp2_with fail
      go_ret
      refine ⟨rs, KV, IV, lo, rfl, ⟨?_, HN.out.nest, fun i hi => by have := HN.out.low i hi; omega, HN.out.mono, HN.out.top, HN.out.inn⟩, hbel⟩
      have := rowOwns (base := w.heap.size) (s := 1) (n := k) (hrow.congr (g := rs) fun i hi => by simp [fillR, hi]) (by omega) (Nat.le_refl _) (by omega)
      exact this

/-! ### Marks -/
def off3 (L : Nat → List VN) : Nat → Nat
  | 0 => 1
  | i + 1 => off (knOf (L i)) (inOf (L i)) (off3 L i) (L i).length

theorem off_shift (K I : Nat → Nat) (k : Nat) : ∀ n, off K I k n = k + off K I 0 n := by
  intro n
  induction n with
  | zero => rfl
  | succ n ih => rw [off, off, ih]; omega

theorem off3_eq (L : Nat → List VN) : ∀ i, off3 L i = 1 + wts L i := by
  intro i
  induction i with
  | zero => rfl
  | succ i ih => rw [off3, off_shift, ih, wts]; show 1 + wts L i + wt (L i) = _; omega

theorem wts_mono (L : Nat → List VN) : ∀ i j, i ≤ j → wts L i ≤ wts L j := by
  intro i j h
  induction j with
  | zero => obtain rfl : i = 0 := by omega
            exact Nat.le_refl _
  | succ j ih =>
    by_cases e : i = j + 1
    · subst e; exact Nat.le_refl _
    · have := ih (by omega); rw [wts]; omega

/-- Rows ready to be marked. -/
theorem Nest.mark2 {base : Nat} {w : World} {a : Option Addr} {n c : Nat} {vs : List VN} {KV IV : Nat → Value} (h : Nest base w (.slice a n c) vs KV IV) (hl : vs.length = n) (hn : vs.length ≤ 1048576) (hk : ∀ i, i < vs.length → Small (nodeAt vs i)) :
    0 < n → a = some ⟨blk (.slice a n c), 0, none⟩ ∧ Marky base w (blk (.slice a n c)) n (knOf vs) (inOf vs) (fun i => blk (KV i)) (fun i => blk (IV i)) := by
  subst hl
  intro hp
  obtain ⟨g, cap, e, _⟩ := h.row.form hp
  cases e
  exact ⟨rfl, Nest.marky h hn (fun i hi => ⟨(hk i hi).kn, (hk i hi).ki⟩)⟩

theorem own_only2 {P : Nat → Prop} {w w' : World} {base e s n : Nat} {v : Value} {xs : List Value} (h : w.ownsRow base e s v n xs) (ho : Only P w w') (hP : ∀ x, P x → v.ownBlock ≠ some x) : w'.ownsRow base e s v n xs := by
  refine ⟨h.1, ?_⟩
  rcases h.2 with hn | ⟨g, cap, cur, rfl, hg, hgg, rest⟩
  · exact .inl hn
  · exact .inr ⟨g, cap, cur, rfl, hg, (ho.2 g (h.lt g rfl).2 (fun p => hP g p rfl)).trans hgg, rest⟩

set_option maxRecDepth 100000 in
set_option maxHeartbeats 1600000 in
theorem markVNodeSS_gen (base : Nat) (v : Value) (m : Nat) (L : Nat → List VN) (rs : Nat → Value) (KV IV : Nat → Nat → Value) (lo : Nat → Nat) (w : World) (h : Rows2 base w v m L rs KV IV lo) (hm : m ≤ 1048576) (hs : ∀ i, i < m → (L i).length ≤ 1048576 ∧ ∀ j, j < (L i).length → Small (nodeAt (L i) j)) (hw : wts L m ≤ 3145728) :
    Calls Try.prog 41 #[v, .int .i64 1] w fun e w' => e = .returned (.int .i64 (off3 L m : Nat)) ∧ Below base w w' ∧ From (lo m) w w' := by
  have H := hideIt h
  have HF := hideIt hs
  obtain ⟨a, c, e⟩ := own_slice h.row
  subst e
  clear h hs
  go_enter Try.func41, Try.ntmps41
  go_wp2_with fail
  go_loopw [1, 5] (fun q i wr => ∃ k : Nat, k ≤ m ∧ q = .int .i64 (off3 L k : Nat) ∧ i = .int .i64 k ∧ Below base w wr ∧ wr.ownsRow base 24 1 (.slice a m c) m ((List.range m).map rs) ∧ (∀ j, k ≤ j → j < m → Nest (lo j) wr (rs j) (L j) (KV j) (IV j)) ∧ From (lo m) w wr) (fun _ i _ => m - (intOf i).toNat)
  case atStart => exact ⟨0, Nat.zero_le _, rfl, rfl, Below.refl _ _, H.out.row, fun j _ hj => H.out.nest j hj, From.refl _ _⟩
  case round =>
    obtain ⟨k, hk, rfl, rfl, hbel, hrow, hnest, hfrom⟩ := hrel
    have HR := hideIt hrow
    have HN := hideIt hnest
    have HH := hideIt hfrom
    have hs := hbel.size
    clear hrow hnest hfrom
    have ob : 1 ≤ off3 L k ∧ off3 L k ≤ 3145729 := by rw [off3_eq]; have := wts_mono L k m hk; omega
    by_cases hlt : k < m
    · obtain ⟨g, cap, e, _, hgl⟩ := HR.out.form (by omega)
      cases e
      have nk := HN.out k (Nat.le_refl _) hlt
      have HNK := hideIt nk
      obtain ⟨ak, ck, er⟩ := own_slice nk.row
      have hcell : wr.cell? ⟨g, k, none⟩ = some (rs k) := by rw [HR.out.cellAt k (by omega)]; simp [hlt]
      obtain ⟨Lk, hLk⟩ : ∃ Lk, (L k).length = Lk := ⟨_, rfl⟩
      rw [hLk] at er
      rw [er] at hcell
      have HER := hideIt er
      have HLK := hideIt hLk
      have hL80 : Lk ≤ 1048576 := by rw [← hLk]; exact (HF.out k hlt).1
      have hlo : lo k ≤ wr.heap.size := by have := H.out.mono k m (by omega) (Nat.le_refl _); have := H.out.top; omega
      have HMK := hideIt (Nest.mark2 (by rw [← HER.out]; exact HNK.out) HLK.out (HF.out k hlt).1 (HF.out k hlt).2)
      have HO2 : Hid (off3 L (k + 1) = off (knOf (L k)) (inOf (L k)) (off3 L k) Lk) := by rw [Hid, ← HLK.out]; rfl
      clear nk er hLk
      have HOE : Hid (∃ o, off3 L k = o) := ⟨_, rfl⟩
      obtain ⟨o, ho⟩ := HOE.out
      rw [ho] at ob HO2 ⊢
      have HOO := hideIt ho
      clear ho
      go_wp2_with fail
      refine (markVNodeS_any (lo k) _ Lk ck o ak _ _ _ _ wr HMK.out hlo (by omega) (by omega) (by omega)).mono ?_
      rintro e w3 ⟨rfl, hh3, hon3, hb3⟩
      rw [← HO2.out]
      have HMX : Hid (∀ x, Marked (blk (.slice ak Lk ck)) Lk (knOf (L k)) (inOf (L k)) (fun i => blk (KV k i)) (fun i => blk (IV k i)) x → InNest (rs k) (L k).length (KV k) (IV k) x) := by
        intro x hx
        apply HNK.out.marked
        rw [HER.out, HLK.out]
        exact hx
      have HB3 := hideIt (hbel.trans (hb3.mono (H.out.low k hk)))
      have HR3 := hideIt (own_only2 HR.out hon3 (fun x hx => HNK.out.far HR.out (HMX.out x hx)))
      have HN3 : Hid (∀ j, k + 1 ≤ j → j < m → Nest (lo j) w3 (rs j) (L j) (KV j) (IV j)) := fun j h1 h2 =>
        (HN.out j (by omega) h2).from ((From.refl (lo j) wr).only hon3 (fun x hx => Nat.lt_of_lt_of_le (H.out.inn k hlt x (HMX.out x hx)) (H.out.mono (k + 1) j h1 (by omega))))
      have HH3 := hideIt (HH.out.only hon3 (fun x hx => Nat.lt_of_lt_of_le (H.out.inn k hlt x (HMX.out x hx)) (H.out.mono (k + 1) m hlt (Nat.le_refl _))))
      clear hh3 hon3 hb3
      go_wp2_with fail
      go_roundw
      case rel => exact ⟨k + 1, by omega, rfl, by go_num, HB3.out, HR3.out, HN3.out, HH3.out⟩
      case measure => simp [intOf]; omega
    · obtain rfl : k = m := by omega
      go_wp2_with fail
      go_ret
      exact ⟨rfl, hbel, HH.out⟩
end Go.Proofs.Ytpfnkpkcjefelaa
