/-
  Nodes of filters: what makes one right (plain mathematics), and how rows of them lie in memory.
-/
import Derived.Test.YtbclgogolimbgaaImp3
namespace Go.Proofs.Ytbclgogolimbgaa
open Go.RowKit
set_option linter.unusedSimpArgs false
set_option linter.unusedVariables false

/-- A node of a filter. -/
structure FN where
  kind : Int
  name : ByteArray
  place : Int
  cst : List VN
  names : List ByteArray
  kids : List Int

def FN.zero : FN := ⟨0, ByteArray.empty, 0, [], [], []⟩
def fnAt (fs : List FN) (i : Nat) : FN := fs.getD i FN.zero
def fkids (fs : List FN) (i : Nat) : List Int := (fnAt fs i).kids

def letN (c : Nat) : Bool := (decide (97 ≤ c) && decide (c ≤ 122)) || ((decide (65 ≤ c) && decide (c ≤ 90)) || decide (c = 95))
def digN (c : Nat) : Bool := decide (48 ≤ c) && decide (c ≤ 57)
def byteAt (s : ByteArray) (j : Nat) : Nat := (s.data.getD j 0).toNat
def nameB (s : ByteArray) : Bool := decide (0 < s.size) && decide (s.size ≤ 60) && letN (byteAt s 0) && (List.range s.size).all fun j => letN (byteAt s j) || digN (byteAt s j)

theorem byteAt_get {s : ByteArray} {j : Nat} (h : j < s.size) : s[j].toNat = byteAt s j := by
  unfold byteAt
  have h' : j < s.data.size := h
  rw [show s.data.getD j 0 = s.data[j] by unfold Array.getD; exact dif_pos h']
  rfl

theorem nameB_text {s : ByteArray} (h : nameB s = true) : textB s = true := by
  unfold nameB at h
  simp only [Bool.and_eq_true, decide_eq_true_eq, List.all_eq_true, List.mem_range] at h
  unfold textB
  rw [Bool.and_eq_true, List.all_eq_true]
  refine ⟨by simp [h.1.1.2], fun c hc => ?_⟩
  obtain ⟨j, hj, rfl⟩ := List.getElem_of_mem hc
  have hj' : j < s.size := by simpa using hj
  have := h.2 j hj'
  rw [← byteAt_get hj'] at this
  rw [decide_eq_true_eq]
  show s[j].toNat ≤ 127
  unfold letN digN at this
  simp only [Bool.or_eq_true, Bool.and_eq_true, decide_eq_true_eq] at this
  omega

def nriseAt (l : List ByteArray) (j : Nat) : Bool := nameB (keyAt l j) && (decide (j = 0) || lessB (keyAt l (j - 1)) (keyAt l j))
def nriseB (l : List ByteArray) : Bool := (List.range l.length).all (nriseAt l)
def namesB (l : List ByteArray) : Bool := decide (l.length ≤ 5) && nriseB l

theorem nriseB_eq (l : List ByteArray) : nriseB l = (((List.range l.length).all fun j => nameB (keyAt l j)) && riseB l) := by
  rw [Bool.eq_iff_iff]
  unfold nriseB riseB
  simp only [Bool.and_eq_true, List.all_eq_true, List.mem_range]
  constructor
  · intro h
    refine ⟨fun j hj => ?_, fun j hj => ?_⟩
    · have := h j hj
      unfold nriseAt at this
      rw [Bool.and_eq_true] at this
      exact this.1
    · have := h j hj
      unfold nriseAt at this
      rw [Bool.and_eq_true] at this
      unfold riseAt
      rw [nameB_text this.1, Bool.true_and]
      exact this.2
  · rintro ⟨h1, h2⟩ j hj
    have := h2 j hj
    unfold riseAt at this
    rw [Bool.and_eq_true] at this
    unfold nriseAt
    rw [h1 j hj, Bool.true_and]
    exact this.2

theorem nriseB_false {l : List ByteArray} {k : Nat} (hk : k < l.length) (h : nriseAt l k = false) : nriseB l = false := by
  unfold nriseB
  rw [List.all_eq_false]
  exact ⟨k, List.mem_range.2 hk, by simp [h]⟩

theorem nriseB_true {l : List ByteArray} (h : ∀ j, j < l.length → nriseAt l j = true) : nriseB l = true := by
  unfold nriseB
  rw [List.all_eq_true]
  exact fun j hj => h j (List.mem_range.1 hj)

/-- A constant: one node, right, no list and no map. -/
def cstB (v : List VN) : Bool := decide (v.length = 1) && okB v && decide ((nodeAt v 0).kind ≠ 5) && decide ((nodeAt v 0).kind ≠ 6)

def zeroF (x : FN) : Bool :=
  !(decide (x.kind ≠ 2) && decide (x.name.toList ≠ [])) && !(decide (x.kind ≠ 3) && decide (x.place ≠ 0)) &&
  !(decide (x.kind ≠ 5) && decide (0 < x.cst.length)) && !(decide (x.kind ≠ 9) && decide (0 < x.names.length))
def ownF (x : FN) : Bool :=
  if x.kind = 2 then nameB x.name
  else if x.kind = 3 then decide (-80 ≤ x.place) && decide (x.place ≤ 80)
  else if x.kind = 5 then cstB x.cst
  else if x.kind = 9 then namesB x.names
  else true
/-- How many kids a kind has; -1: it may have more or fewer. -/
def kidsN (k : Int) : Int :=
  if k = 6 ∨ k = 7 ∨ k = 15 ∨ k = 16 ∨ k = 17 ∨ k = 18 ∨ k = 19 ∨ k = 20 ∨ k = 21 then 2
  else if k = 10 ∨ k = 23 then 1
  else if k = 22 then 3
  else if k = 8 ∨ k = 9 then -1
  else 0
def fitF (x : FN) : Bool :=
  if x.kind = 8 then decide (x.kids.length ≤ 1)
  else if x.kind = 9 then decide (x.kids.length = x.names.length)
  else decide (1 ≤ x.kind) && decide (x.kind ≤ 23) && decide ((x.kids.length : Int) = kidsN x.kind)
def fnodeB (x : FN) : Bool := zeroF x && ownF x && fitF x

/-! ### Right filters, said twice -/
def fkidsIn (fs : List FN) (i : Nat) : Bool := (fkids fs i).all fun k => decide (0 ≤ k) && decide (k ≤ (i : Int) - 1)
def fsizeB (fs : List FN) : Bool := decide (1 ≤ fs.length) && decide (fs.length ≤ 40)
def okF (fs : List FN) : Bool := fsizeB fs && ((List.range fs.length).all fun i => fnodeB (fnAt fs i) && fkidsIn fs i) && rootK (fkids fs) fs.length 12
def tabF (fs : List FN) : Bool := fsizeB fs && ((List.range fs.length).all fun i => fnodeB (fnAt fs i)) && standB (fkids fs) fs.length 12

theorem okF_eq (fs : List FN) : tabF fs = okF fs := by
  rw [Bool.eq_iff_iff]
  unfold tabF okF standB
  simp only [Bool.and_eq_true, List.all_eq_true, List.mem_range]
  constructor
  · rintro ⟨⟨h1, h2⟩, h3, h4⟩
    refine ⟨⟨h1, fun i hi => ⟨h2 i hi, ?_⟩⟩, h4⟩
    obtain ⟨p, hp⟩ := Option.isSome_iff_exists.1 (h3 i hi)
    unfold fkidsIn
    simp only [List.all_eq_true, Bool.and_eq_true, decide_eq_true_eq]
    exact tr_kids hp
  · rintro ⟨⟨h1, h2⟩, h3⟩
    refine ⟨⟨h1, fun i hi => (h2 i hi).1⟩, fun i hi => ?_, h3⟩
    unfold rootK at h3
    cases hr : tr (fkids fs) (fs.length - 1) with
    | none => rw [hr] at h3; cases h3
    | some p =>
      rw [hr] at h3
      simp at h3
      obtain ⟨q, hq⟩ := tr_span _ _ hr i (by omega) (by omega)
      rw [hq]
      rfl

theorem okF_size {fs : List FN} (h : fs.length < 1 ∨ 40 < fs.length) : okF fs = false := by
  have : fsizeB fs = false := by simp [fsizeB]; omega
  simp [okF, this]

theorem okF_node {fs : List FN} {k : Nat} (hk : k < fs.length) (h : fnodeB (fnAt fs k) = false) : okF fs = false := by
  unfold okF
  rw [show ((List.range fs.length).all fun i => fnodeB (fnAt fs i) && fkidsIn fs i) = false from ?_, Bool.and_false, Bool.false_and]
  rw [List.all_eq_false]
  exact ⟨k, List.mem_range.2 hk, by simp [h]⟩

theorem okF_kid {fs : List FN} {k j : Nat} (hk : k < fs.length) (hj : j < (fnAt fs k).kids.length) (h : inB (intAt (fnAt fs k).kids j) 0 ((k : Int) - 1) = false) : okF fs = false := by
  unfold okF
  rw [show ((List.range fs.length).all fun i => fnodeB (fnAt fs i) && fkidsIn fs i) = false from ?_, Bool.and_false, Bool.false_and]
  rw [List.all_eq_false]
  refine ⟨k, List.mem_range.2 hk, ?_⟩
  have : fkidsIn fs k = false := by
    unfold fkidsIn
    rw [List.all_eq_false]
    refine ⟨intAt (fnAt fs k).kids j, ?_, by simpa [inB] using h⟩
    unfold fkids
    rw [intAt_get hj]
    exact List.getElem_mem _
  simp [this]

theorem fkidsIn_of {fs : List FN} {k : Nat} (h : ∀ j, j < (fnAt fs k).kids.length → inB (intAt (fnAt fs k).kids j) 0 ((k : Int) - 1) = true) : fkidsIn fs k = true := by
  unfold fkidsIn
  rw [List.all_eq_true]
  intro x hx
  obtain ⟨j, hj, rfl⟩ := List.getElem_of_mem hx
  have hj' : j < (fnAt fs k).kids.length := hj
  have := h j hj'
  rw [intAt_get hj'] at this
  exact this

theorem okF_of {fs : List FN} (h1 : 1 ≤ fs.length) (h2 : fs.length ≤ 40) (h : ∀ k, k < fs.length → fnodeB (fnAt fs k) = true ∧ fkidsIn fs k = true) : okF fs = rootK (fkids fs) fs.length 12 := by
  unfold okF
  rw [show ((List.range fs.length).all fun i => fnodeB (fnAt fs i) && fkidsIn fs i) = true from ?_]
  · simp [fsizeB, h1, h2]
  · rw [List.all_eq_true]
    intro k hk
    have := h k (List.mem_range.1 hk)
    simp [this.1, this.2]

theorem tabF_all {fs : List FN} (h1 : 1 ≤ fs.length) (h2 : fs.length ≤ 40) (h : ∀ k, k < fs.length → fnodeB (fnAt fs k) = true) : tabF fs = standB (fkids fs) fs.length 12 := by
  unfold tabF
  rw [show ((List.range fs.length).all fun i => fnodeB (fnAt fs i)) = true from ?_]
  · rw [show fsizeB fs = true by simp [fsizeB, h1, h2], Bool.true_and, Bool.true_and]
  · rw [List.all_eq_true]
    exact fun k hk => h k (List.mem_range.1 hk)

/-! ### Memory -/
structure FNodeIn (B : Nat) (w : World) (x : FN) (kc kn ki : Value) : Prop where
  cst : NodesAt B w kc x.cst
  names : StrsAt B w kn x.names
  kids : IntsAt B w ki x.kids
  size : x.name.size ≤ 140737488355328
  klo : -9223372036854775808 ≤ x.kind
  khi : x.kind ≤ 9223372036854775807
  nlo : -9223372036854775808 ≤ x.place
  nhi : x.place ≤ 9223372036854775807

structure FNodeAt (B : Nat) (w : World) (b o : Nat) (x : FN) (kc kn ki : Value) : Prop where
  c0 : w.cell? ⟨b, o, none⟩ = some (.int .i64 x.kind)
  c1 : w.cell? ⟨b, o + 1, none⟩ = some (.string x.name)
  c2 : w.cell? ⟨b, o + 2, none⟩ = some (.int .i64 x.place)
  c3 : w.cell? ⟨b, o + 3, none⟩ = some kc
  c4 : w.cell? ⟨b, o + 4, none⟩ = some kn
  c5 : w.cell? ⟨b, o + 5, none⟩ = some ki
  inn : FNodeIn B w x kc kn ki

def FNodesAt (B : Nat) (w : World) (v : Value) (fs : List FN) : Prop :=
  fs.length ≤ 1048576 ∧ ∃ a cap, v = .slice a fs.length cap ∧ (0 < fs.length → ∃ b o, a = some ⟨b, o, none⟩ ∧ b < B ∧ ∀ i, i < fs.length → ∃ kc kn ki, FNodeAt B w b (o + i * 6) (fnAt fs i) kc kn ki)

theorem FNodeIn.below {B : Nat} {w w' : World} {x : FN} {kc kn ki : Value} (h : FNodeIn B w x kc kn ki) (hb : Below B w w') : FNodeIn B w' x kc kn ki :=
  { h with cst := h.cst.below hb, names := h.names.below hb, kids := h.kids.below hb }

theorem FNodeAt.below {B : Nat} {w w' : World} {b o : Nat} {x : FN} {kc kn ki : Value} (h : FNodeAt B w b o x kc kn ki) (hb : Below B w w') (hB : b < B) : FNodeAt B w' b o x kc kn ki :=
  ⟨(below_cell hb hB).trans h.c0, (below_cell hb hB).trans h.c1, (below_cell hb hB).trans h.c2, (below_cell hb hB).trans h.c3, (below_cell hb hB).trans h.c4, (below_cell hb hB).trans h.c5, h.inn.below hb⟩

theorem FNodesAt.below {B : Nat} {w w' : World} {v : Value} {fs : List FN} (h : FNodesAt B w v fs) (hb : Below B w w') : FNodesAt B w' v fs := by
  obtain ⟨h1, a, cap, e, h3⟩ := h
  refine ⟨h1, a, cap, e, fun hl => ?_⟩
  obtain ⟨b, o, ea, hbB, hc⟩ := h3 hl
  refine ⟨b, o, ea, hbB, fun i hi => ?_⟩
  obtain ⟨kc, kn, ki, hn⟩ := hc i hi
  exact ⟨kc, kn, ki, hn.below hb hbB⟩

theorem FNodeIn.wide {B B' : Nat} {w : World} {x : FN} {kc kn ki : Value} (h : FNodeIn B w x kc kn ki) (hb : B ≤ B') : FNodeIn B' w x kc kn ki :=
  { h with cst := h.cst.wide hb, names := h.names.wide hb, kids := h.kids.wide hb }

theorem FNodesAt.wide {B B' : Nat} {w : World} {v : Value} {fs : List FN} (h : FNodesAt B w v fs) (hb : B ≤ B') : FNodesAt B' w v fs := by
  obtain ⟨h1, a, cap, e, h3⟩ := h
  refine ⟨h1, a, cap, e, fun hl => ?_⟩
  obtain ⟨b, o, ea, hbB, hc⟩ := h3 hl
  refine ⟨b, o, ea, by omega, fun i hi => ?_⟩
  obtain ⟨kc, kn, ki, hn⟩ := hc i hi
  exact ⟨kc, kn, ki, hn.c0, hn.c1, hn.c2, hn.c3, hn.c4, hn.c5, hn.inn.wide hb⟩
end Go.Proofs.Ytbclgogolimbgaa
