/-
  Plain: a filter's text.
-/
import Derived.Test.YtehihemfepbmfaaGreatDoorFSpc1
import Derived.Test.YtehihemfepbmfaaGreatDoorUneP
import Derived.Test.YtehihemfepbmfaaGreatDoorSJt
import Derived.Test.YtehihemfepbmfaaGreatDoorDecB
namespace Go.Proofs.YtehihemfepbmfaaGreatDoor
open Go.RowKit
set_option linter.unusedSimpArgs false
set_option linter.unusedVariables false
set_option linter.unusedSectionVars false

/-- How much a kind binds. -/
def levF (k : Int) : Int :=
  if k = 6 then 1 else if k = 7 then 2 else if k = 21 then 3 else if k = 17 ∨ k = 18 ∨ k = 19 ∨ k = 20 then 4 else if k = 15 ∨ k = 16 then 5 else if k = 23 then 6 else 7
/-- The sign of a kind with two kids. -/
def sgnF (k : Int) : List UInt8 :=
  if k = 6 then [32, 124, 32] else if k = 7 then [44, 32] else if k = 21 then [32, 47, 47, 32] else if k = 17 then [32, 61, 61, 32] else if k = 18 then [32, 33, 61, 32]
  else if k = 19 then [32, 60, 32] else if k = 20 then [32, 60, 61, 32] else if k = 15 then [32, 43, 32] else [32, 45, 32]
def lftF (k : Int) : Int := if k = 6 then 2 else if k = 7 then 2 else if k = 21 then 4 else 5
def rgtF (k : Int) : Int := if k = 6 then 1 else if k = 7 then 3 else if k = 21 then 3 else if k = 15 ∨ k = 16 then 6 else 5
/-! ### How long it is -/
end Go.Proofs.YtehihemfepbmfaaGreatDoor

/-
  Plain: how a filter is read from a text: the parts that the program and the specification have in common.
-/
namespace Go.Proofs.YtehihemfepbmfaaGreatDoor
open Go.RowKit
set_option linter.unusedSimpArgs false
set_option linter.unusedVariables false
set_option linter.unusedSectionVars false

def blkF (c : Nat) : Bool := decide (c = 32 ∨ c = 10)
/-- Behind the blanks. -/
abbrev skF (L : List UInt8) (p : Nat) : Nat := runJ blkF L p
def nmC (c : Nat) : Bool := letN c || digN c
/-- Behind the name. -/
abbrev nmJ (L : List UInt8) (p : Nat) : Nat := runJ nmC L p
def letAt (L : List UInt8) (p : Nat) : Bool := decide (p < L.length) && letN (byAt L p)
def digAt (L : List UInt8) (p : Nat) : Bool := decide (p < L.length) && digN (byAt L p)
def nameF (L : List UInt8) (p : Nat) : List UInt8 := (L.drop p).take (nmJ L p - p)

/-- A place, the nodes so far, and where the reader stands. -/
abbrev RF := Option (Int × List FN × Nat)
def bindF (a : RF) (k : Int → List FN → Nat → RF) : RF := match a with
  | none => none
  | some (n, fs, q) => k n fs q
theorem bindF_some {n : Int} {fs : List FN} {q : Nat} {k : Int → List FN → Nat → RF} : bindF (some (n, fs, q)) k = k n fs q := rfl
theorem bindF_none {k : Int → List FN → Nat → RF} : bindF none k = none := rfl

/-- What the program and the specification do otherwise. -/
structure WP where
  dec : List UInt8 → Option Int
  nam : List UInt8 → Nat → Nat
  tex : List UInt8 → Nat → Option (List UInt8 × Nat)
  cap : Bool

def addF (W : WP) (x : FN) (fs : List FN) (q : Nat) : RF := if W.cap = true ∧ 40 < fs.length + 1 then none else some ((fs.length : Int), fs ++ [x], q)
/-- The sign c, and the blanks behind it. -/
def mustF (L : List UInt8) (q c : Nat) (k : Nat → RF) : RF := if isAt L q c = true then k (skF L (q + 1)) else none
def wordF (L : List UInt8) (w : List UInt8) (q : Nat) (k : Nat → RF) : RF := if nameF L q = w then k (skF L (nmJ L q)) else none
def decF (W : WP) (L : List UInt8) (q : Nat) (k : Int → Nat → RF) : RF := match W.dec (numW L q) with
  | none => none
  | some n => k n (skF L (dgJ L (numAt L q)))

def nodeK (k : Int) : FN := ⟨k, ByteArray.empty, 0, [], [], []⟩
def nodeR (k : Int) (kids : List Int) : FN := ⟨k, ByteArray.empty, 0, [], [], kids⟩
def nodeC (v : VN) : FN := ⟨5, ByteArray.empty, 0, [v], [], []⟩
def nodeM (names : List ByteArray) (kids : List Int) : FN := ⟨9, ByteArray.empty, 0, [], names, kids⟩

def placeF (W : WP) (L : List UInt8) (fs : List FN) (p : Nat) : RF :=
  if isAt L p 93 = true then addF W (nodeK 4) fs (skF L (p + 1))
  else decF W L p fun n q => mustF L q 93 fun q => addF W ⟨3, ByteArray.empty, n, [], [], []⟩ fs q
def pointF (W : WP) (L : List UInt8) (fs : List FN) (p : Nat) : RF :=
  if letAt L p = true then addF W ⟨2, txt (nameF L p), 0, [], [], []⟩ fs (skF L (nmJ L p))
  else if isAt L p 91 = true then placeF W L fs (skF L (p + 1))
  else addF W (nodeK 1) fs (skF L p)

/-- How a filter that binds at least so much is read. -/
abbrev RD := Int → List FN → Nat → RF
def aroundF (R : RD) (L : List UInt8) (c : Nat) (fs : List FN) (p : Nat) : RF := bindF (R 1 fs p) fun n fs q => mustF L q c fun q => some (n, fs, q)
def listF (W : WP) (R : RD) (L : List UInt8) (fs : List FN) (p : Nat) : RF :=
  if isAt L p 93 = true then addF W (nodeK 8) fs (skF L (p + 1))
  else bindF (R 1 fs p) fun n fs q => mustF L q 93 fun q => addF W (nodeR 8 [n]) fs q
def rowsF (W : WP) (R : RD) (L : List UInt8) : Nat → List ByteArray → List Int → List FN → Nat → RF
  | 0, _, _, _, _ => none
  | g + 1, names, kids, fs, p =>
    mustF L (skF L (W.nam L p)) 58 fun q => bindF (R 3 fs q) fun n fs q =>
      if isAt L q 125 = true then addF W (nodeM (names ++ [txt ((L.drop p).take (W.nam L p - p))]) (kids ++ [n])) fs (skF L (q + 1))
      else mustF L q 44 fun q => rowsF W R L g (names ++ [txt ((L.drop p).take (W.nam L p - p))]) (kids ++ [n]) fs q
def mapF (W : WP) (R : RD) (L : List UInt8) (fs : List FN) (p : Nat) : RF :=
  if isAt L p 125 = true then addF W (nodeK 9) fs (skF L (p + 1)) else rowsF W R L (L.length + 1) [] [] fs p
def selF (W : WP) (R : RD) (L : List UInt8) (fs : List FN) (p : Nat) : RF :=
  mustF L p 40 fun q => bindF (aroundF R L 41 fs q) fun n fs q => addF W (nodeR 10 [n]) fs q
def ifF (W : WP) (R : RD) (L : List UInt8) (fs : List FN) (p : Nat) : RF :=
  bindF (R 1 fs p) fun a fs q => wordF L [116, 104, 101, 110] q fun q =>
  bindF (R 1 fs q) fun b fs q => wordF L [101, 108, 115, 101] q fun q =>
  bindF (R 1 fs q) fun c fs q => wordF L [101, 110, 100] q fun q => addF W (nodeR 22 [a, b, c]) fs q
/-- What a word means: w, and where the reader stands behind it. -/
def namedF (W : WP) (R : RD) (L : List UInt8) (w : List UInt8) (fs : List FN) (p : Nat) : RF :=
  if w = nullW then addF W (nodeC ⟨1, 0, ByteArray.empty, [], []⟩) fs p
  else if w = trueW then addF W (nodeC ⟨2, 1, ByteArray.empty, [], []⟩) fs p
  else if w = falseW then addF W (nodeC ⟨2, 0, ByteArray.empty, [], []⟩) fs p
  else if w = [115, 101, 108, 101, 99, 116] then selF W R L fs p
  else if w = [105, 102] then ifF W R L fs p
  else if w = [108, 101, 110, 103, 116, 104] then addF W (nodeK 11) fs p
  else if w = [107, 101, 121, 115] then addF W (nodeK 12) fs p
  else if w = [110, 111, 116] then addF W (nodeK 13) fs p
  else if w = [101, 109, 112, 116, 121] then addF W (nodeK 14) fs p
  else none
def wholeF (W : WP) (R : RD) (L : List UInt8) (fs : List FN) (p : Nat) : RF :=
  if isAt L p 46 = true then pointF W L fs (p + 1)
  else if isAt L p 40 = true then aroundF R L 41 fs (skF L (p + 1))
  else if isAt L p 91 = true then listF W R L fs (skF L (p + 1))
  else if isAt L p 123 = true then mapF W R L fs (skF L (p + 1))
  else if isAt L p 34 = true then (match W.tex L (p + 1) with
    | none => none
    | some (t, q) => addF W (nodeC ⟨4, 0, txt t, [], []⟩) fs (skF L q))
  else if letAt L p = true then namedF W R L (nameF L p) fs (skF L (nmJ L p))
  else if isAt L p 45 = true ∨ digAt L p = true then decF W L p fun n q => addF W (nodeC ⟨3, n, ByteArray.empty, [], []⟩) fs q
  else none

/-! ### Signs with a kid ahead -/
/-- The sign that stands at p: its kind and how many bytes it has. -/
def jntF (L : List UInt8) (p : Nat) : Option (Int × Nat) :=
  if isAt L p 124 = true then some (6, 1)
  else if isAt L p 44 = true then some (7, 1)
  else if isAt L p 47 = true ∧ isAt L (p + 1) 47 = true then some (21, 2)
  else if isAt L p 61 = true ∧ isAt L (p + 1) 61 = true then some (17, 2)
  else if isAt L p 33 = true ∧ isAt L (p + 1) 61 = true then some (18, 2)
  else if isAt L p 60 = true ∧ isAt L (p + 1) 61 = true then some (20, 2)
  else if isAt L p 60 = true then some (19, 1)
  else if isAt L p 43 = true then some (15, 1)
  else if isAt L p 45 = true then some (16, 1)
  else if isAt L p 63 = true then some (23, 1)
  else none
def lftK (k : Int) : Int := if k = 23 then 6 else lftF k

/-- A sign of kind k with len bytes at p: what it makes of the filter at n ahead of it. -/
def eatF (R : RD) (L : List UInt8) (W : WP) (k : Int) (len : Nat) (n : Int) (fs : List FN) (p : Nat) : RF :=
  if k = 23 then addF W (nodeR 23 [n]) fs (skF L (p + len))
  else bindF (R (rgtF k) fs (skF L (p + len))) fun b fs q => addF W (nodeR k [n, b]) fs q
/-! ### The program -/
/-- What stands behind a filter at n that binds 'bind': its signs, as long as they bind at least 'least'. -/
def loopF (R : RD) (L : List UInt8) (W : WP) : Nat → Int → Int → Int → List FN → Nat → RF
  | 0, _, _, _, _, _ => none
  | g + 1, least, bind, n, fs, p => match jntF L p with
    | none => some (n, fs, p)
    | some (k, len) => if levF k < least then some (n, fs, p) else if bind < lftK k then none
      else bindF (eatF R L W k len n fs p) fun n fs q => loopF R L W g least (levF k) n fs q
def readP (W : WP) (L : List UInt8) : Nat → RD
  | 0, _, _, _ => none
  | f + 1, least, fs, p => bindF (wholeF W (readP W L f) L fs p) fun n fs q => loopF (readP W L f) L W (L.length + 1) least 7 n fs q
/-! ### The specification -/
/-- The signs of level l. -/
def sgnS (S : RD) (L : List UInt8) (W : WP) (l : Nat) : Nat → Int → List FN → Nat → RF
  | 0, _, _, _ => none
  | g + 1, n, fs, p => match jntF L p with
    | none => some (n, fs, p)
    | some (k, len) => if levF k = (l : Int) then bindF (eatF S L W k len n fs p) fun n fs q => if l = 6 ∨ l = 5 ∨ l = 2 then sgnS S L W l g n fs q else some (n, fs, q)
      else some (n, fs, p)
/-- Level 6 - d. -/
def lvS (S : RD) (L : List UInt8) (W : WP) : Nat → List FN → Nat → RF
  | 0, fs, p => bindF (wholeF W S L fs p) (sgnS S L W 6 (L.length + 1))
  | d + 1, fs, p => bindF (lvS S L W d fs p) (sgnS S L W (5 - d) (L.length + 1))
def readS (W : WP) (L : List UInt8) : Nat → RD
  | 0, _, _, _ => none
  | f + 1, least, fs, p => lvS (readS W L f) L W (6 - least.toNat) fs p
/-- The whole text. -/
def allF (R : RD) (L : List UInt8) : Option (List FN) := match R 1 [] (skF L 0) with
  | none => none
  | some (_, fs, q) => if q = L.length ∧ okF fs = true then some fs else none
end Go.Proofs.YtehihemfepbmfaaGreatDoor

/-
  Plain: where a filter is read, the reader goes on, within the text, and only puts nodes behind those it has.
-/
namespace Go.Proofs.YtehihemfepbmfaaGreatDoor
open Go.RowKit
set_option linter.unusedSimpArgs false
set_option linter.unusedVariables false
set_option linter.unusedSectionVars false

structure Went (L : List UInt8) (fs : List FN) (p : Nat) (n : Int) (fs' : List FN) (q : Nat) : Prop where
  lt : p < q
  le : q ≤ L.length
  nb : skF L q = q
  pre : ∃ more, fs' = fs ++ more
  cnt : fs'.length + p ≤ fs.length + q
  n0 : 0 ≤ n
  n1 : n < (fs'.length : Int)
def Goes (L : List UInt8) (R : RD) : Prop := ∀ least fs p n fs' q, p ≤ L.length → R least fs p = some (n, fs', q) → Went L fs p n fs' q
structure WGood (W : WP) (L : List UInt8) : Prop where
  nam : ∀ p, p ≤ L.length → p ≤ W.nam L p ∧ W.nam L p ≤ L.length
  tex : ∀ p t q, p ≤ L.length → W.tex L p = some (t, q) → p ≤ q ∧ q ≤ L.length

theorem bindF_inv {a : RF} {k : Int → List FN → Nat → RF} {n : Int} {fs : List FN} {q : Nat} (h : bindF a k = some (n, fs, q)) : ∃ n1 fs1 q1, a = some (n1, fs1, q1) ∧ k n1 fs1 q1 = some (n, fs, q) := by
  cases a with
  | none => cases h
  | some r => obtain ⟨n1, fs1, q1⟩ := r; exact ⟨n1, fs1, q1, rfl, h⟩
theorem mustF_inv {L : List UInt8} {p c : Nat} {k : Nat → RF} {n : Int} {fs : List FN} {q : Nat} (h : mustF L p c k = some (n, fs, q)) : isAt L p c = true ∧ k (skF L (p + 1)) = some (n, fs, q) := by
  unfold mustF at h
  split at h
  · rename_i e; exact ⟨e, h⟩
  · cases h
theorem wordF_inv {L : List UInt8} {w : List UInt8} {p : Nat} {k : Nat → RF} {n : Int} {fs : List FN} {q : Nat} (h : wordF L w p k = some (n, fs, q)) : nameF L p = w ∧ k (skF L (nmJ L p)) = some (n, fs, q) := by
  unfold wordF at h
  split at h
  · rename_i e; exact ⟨e, h⟩
  · cases h
theorem decF_inv {W : WP} {L : List UInt8} {p : Nat} {k : Int → Nat → RF} {n : Int} {fs : List FN} {q : Nat} (h : decF W L p k = some (n, fs, q)) : ∃ v, W.dec (numW L p) = some v ∧ k v (skF L (dgJ L (numAt L p))) = some (n, fs, q) := by
  unfold decF at h
  split at h
  · cases h
  · rename_i v e; exact ⟨v, e, h⟩
theorem addF_inv {W : WP} {x : FN} {fs : List FN} {p : Nat} {n : Int} {fs' : List FN} {q : Nat} (h : addF W x fs p = some (n, fs', q)) : n = (fs.length : Int) ∧ fs' = fs ++ [x] ∧ q = p := by
  unfold addF at h
  split at h
  · cases h
  · simp only [Option.some.injEq, Prod.mk.injEq] at h
    exact ⟨h.1.symm, h.2.1.symm, h.2.2.symm⟩
theorem skF_ge (L : List UInt8) (p : Nat) : p ≤ skF L p := runJ_ge _ _ _
theorem skF_le {L : List UInt8} {p : Nat} (h : p ≤ L.length) : skF L p ≤ L.length := runJ_le h
theorem nm_le {L : List UInt8} {p : Nat} (h : p ≤ L.length) : nmJ L p ≤ L.length := runJ_le h
theorem skF_idem (L : List UInt8) (p : Nat) : skF L (skF L p) = skF L p := runJ_idem _ _ _
/-- A node is put behind the others, at a place further on. -/
theorem went_add {W : WP} {L : List UInt8} {x : FN} {fs fs1 : List FN} {p q : Nat} {n : Int} {fs' : List FN} {q' : Nat} (h : addF W x fs1 (skF L q) = some (n, fs', q')) (hp : ∃ more, fs1 = fs ++ more) (hc : fs1.length + 1 + p ≤ fs.length + q) (hl : p < q) (hq : q ≤ L.length) : Went L fs p n fs' q' := by
  obtain ⟨rfl, rfl, rfl⟩ := addF_inv h
  obtain ⟨more, rfl⟩ := hp
  have h1 := skF_ge L q
  have h2 := skF_le hq
  rw [List.length_append] at hc
  refine ⟨by omega, h2, skF_idem L q, ⟨more ++ [x], by simp⟩, ?_, by omega, ?_⟩
  · simp only [List.length_append, List.length_singleton]; omega
  · simp only [List.length_append, List.length_singleton]; omega
theorem place_went {W : WP} {L : List UInt8} {fs : List FN} {p0 p : Nat} {n : Int} {fs' : List FN} {q : Nat} (hp0 : p0 < p) (hp : p ≤ L.length) (h : placeF W L fs p = some (n, fs', q)) : Went L fs p0 n fs' q := by
  unfold placeF at h
  split at h
  · rename_i e
    have := (isAt_yes.1 e).1
    exact went_add h ⟨[], by simp⟩ (by omega) (by omega) (by omega)
  · obtain ⟨v, -, h⟩ := decF_inv h
    obtain ⟨e, h⟩ := mustF_inv h
    have h1 := (isAt_yes.1 e).1
    have h2 := skF_ge L (dgJ L (numAt L p))
    have h3 : numAt L p ≤ dgJ L (numAt L p) := runJ_ge _ _ _
    have h4 := numAt_ge L p
    exact went_add h ⟨[], by simp⟩ (by omega) (by omega) (by omega)
theorem nmJ_lt {L : List UInt8} {p : Nat} (h : letAt L p = true) : p < nmJ L p ∧ p < L.length := by
  unfold letAt at h
  simp only [Bool.and_eq_true, decide_eq_true_eq] at h
  have h1 : nmC (byAt L p) = true := by unfold nmC; rw [h.2]; rfl
  have h2 : nmJ L p = nmJ L (p + 1) := runJ_yes h.1 h1
  have h3 : p + 1 ≤ nmJ L (p + 1) := runJ_ge _ _ _
  exact ⟨by omega, h.1⟩
theorem point_went {W : WP} {L : List UInt8} {fs : List FN} {p : Nat} {n : Int} {fs' : List FN} {q : Nat} (hp : p < L.length) (h : pointF W L fs (p + 1) = some (n, fs', q)) : Went L fs p n fs' q := by
  unfold pointF at h
  split at h
  · rename_i e
    have h1 := nmJ_lt e
    exact went_add h ⟨[], by simp⟩ (by omega) (by omega) (runJ_le (by omega))
  · split at h
    · rename_i e
      have h1 := (isAt_yes.1 e).1
      have h2 := skF_ge L (p + 1 + 1)
      exact place_went (by omega) (skF_le (by omega)) h
    · exact went_add h ⟨[], by simp⟩ (by omega) (by omega) (by omega)
theorem around_went {R : RD} {L : List UInt8} (HR : Goes L R) {c : Nat} {fs : List FN} {p0 p : Nat} {n : Int} {fs' : List FN} {q : Nat} (hp0 : p0 < p) (hp : p ≤ L.length) (h : aroundF R L c fs p = some (n, fs', q)) : Went L fs p0 n fs' q ∧ fs'.length + 1 + p0 ≤ fs.length + q := by
  unfold aroundF at h
  obtain ⟨n1, fs1, q1, h1, h2⟩ := bindF_inv h
  have w1 := HR _ _ _ _ _ _ hp h1
  obtain ⟨e, h3⟩ := mustF_inv h2
  simp only [Option.some.injEq, Prod.mk.injEq] at h3
  obtain ⟨rfl, rfl, rfl⟩ := h3
  have e1 := (isAt_yes.1 e).1
  have e2 := skF_ge L (q1 + 1)
  have := w1.lt
  have := w1.cnt
  exact ⟨⟨by omega, skF_le (by omega), skF_idem _ _, w1.pre, by omega, w1.n0, w1.n1⟩, by omega⟩
theorem pre_trans {a b c : List FN} (h1 : ∃ m, b = a ++ m) (h2 : ∃ m, c = b ++ m) : ∃ m, c = a ++ m := by
  obtain ⟨m1, rfl⟩ := h1; obtain ⟨m2, rfl⟩ := h2; exact ⟨m1 ++ m2, by simp⟩
theorem list_went {W : WP} {R : RD} {L : List UInt8} (HR : Goes L R) {fs : List FN} {p0 p : Nat} {n : Int} {fs' : List FN} {q : Nat} (hp0 : p0 < p) (hp : p ≤ L.length) (h : listF W R L fs p = some (n, fs', q)) : Went L fs p0 n fs' q := by
  unfold listF at h
  split at h
  · rename_i e
    have := (isAt_yes.1 e).1
    exact went_add h ⟨[], by simp⟩ (by omega) (by omega) (by omega)
  · obtain ⟨n1, fs1, q1, h1, h2⟩ := bindF_inv h
    have w1 := HR _ _ _ _ _ _ hp h1
    obtain ⟨e, h3⟩ := mustF_inv h2
    have e1 := (isAt_yes.1 e).1
    have := w1.lt
    have := w1.cnt
    exact went_add h3 w1.pre (by omega) (by omega) (by omega)
theorem rows_went {W : WP} {R : RD} {L : List UInt8} (HR : Goes L R) (HW : WGood W L) : ∀ g names kids fs p p0 n fs' q, p0 < p → p ≤ L.length → rowsF W R L g names kids fs p = some (n, fs', q) → Went L fs p0 n fs' q := by
  intro g
  induction g with
  | zero => intro names kids fs p p0 n fs' q _ _ h; cases h
  | succ g ih =>
    intro names kids fs p p0 n fs' q hp0 hp h
    rw [rowsF] at h
    obtain ⟨e, h⟩ := mustF_inv h
    obtain ⟨n1, fs1, q1, h1, h2⟩ := bindF_inv h
    have e1 := (isAt_yes.1 e).1
    have e2 := skF_ge L (W.nam L p)
    have e3 := (HW.nam p hp).1
    have e4 := skF_ge L (skF L (W.nam L p) + 1)
    have w1 := HR _ _ _ _ _ _ (skF_le (by omega)) h1
    have := w1.lt
    have := w1.cnt
    have := w1.le
    split at h2
    · rename_i e5
      have e6 := (isAt_yes.1 e5).1
      exact went_add h2 w1.pre (by omega) (by omega) (by omega)
    · obtain ⟨e5, h3⟩ := mustF_inv h2
      have e6 := (isAt_yes.1 e5).1
      have e7 := skF_ge L (q1 + 1)
      have w2 := ih _ _ _ _ q1 _ _ _ (by omega) (skF_le (by omega)) h3
      have := w2.lt
      have := w2.cnt
      exact ⟨by omega, w2.le, w2.nb, pre_trans w1.pre w2.pre, by omega, w2.n0, w2.n1⟩
theorem map_went {W : WP} {R : RD} {L : List UInt8} (HR : Goes L R) (HW : WGood W L) {fs : List FN} {p0 p : Nat} {n : Int} {fs' : List FN} {q : Nat} (hp0 : p0 < p) (hp : p ≤ L.length) (h : mapF W R L fs p = some (n, fs', q)) : Went L fs p0 n fs' q := by
  unfold mapF at h
  split at h
  · rename_i e
    have := (isAt_yes.1 e).1
    exact went_add h ⟨[], by simp⟩ (by omega) (by omega) (by omega)
  · exact rows_went HR HW _ _ _ _ _ _ _ _ _ hp0 hp h
theorem sel_went {W : WP} {R : RD} {L : List UInt8} (HR : Goes L R) {fs : List FN} {p0 p : Nat} {n : Int} {fs' : List FN} {q : Nat} (hp0 : p0 < p) (hp : p ≤ L.length) (h : selF W R L fs p = some (n, fs', q)) : Went L fs p0 n fs' q := by
  unfold selF at h
  obtain ⟨e, h⟩ := mustF_inv h
  have e1 := (isAt_yes.1 e).1
  have e2 := skF_ge L (p + 1)
  obtain ⟨n1, fs1, q1, h1, h2⟩ := bindF_inv h
  obtain ⟨w1, w2⟩ := around_went HR (p0 := p0) (by omega) (skF_le (by omega)) h1
  obtain ⟨rfl, rfl, rfl⟩ := addF_inv h2
  have := w1.lt
  refine ⟨by omega, w1.le, w1.nb, pre_trans w1.pre ⟨_, rfl⟩, ?_, by omega, ?_⟩
  · simp only [List.length_append, List.length_singleton]; omega
  · simp only [List.length_append, List.length_singleton]; omega
theorem if_went {W : WP} {R : RD} {L : List UInt8} (HR : Goes L R) {fs : List FN} {p0 p : Nat} {n : Int} {fs' : List FN} {q : Nat} (hp0 : p0 < p) (hp : p ≤ L.length) (h : ifF W R L fs p = some (n, fs', q)) : Went L fs p0 n fs' q := by
  unfold ifF at h
  obtain ⟨n1, fs1, q1, h1, h⟩ := bindF_inv h
  have w1 := HR _ _ _ _ _ _ hp h1
  obtain ⟨-, h⟩ := wordF_inv h
  have a1 : q1 ≤ nmJ L q1 := runJ_ge _ _ _
  have a2 := skF_ge L (nmJ L q1)
  obtain ⟨n2, fs2, q2, h2, h⟩ := bindF_inv h
  have w2 := HR _ _ _ _ _ _ (skF_le (nm_le w1.le)) h2
  obtain ⟨-, h⟩ := wordF_inv h
  have b1 : q2 ≤ nmJ L q2 := runJ_ge _ _ _
  have b2 := skF_ge L (nmJ L q2)
  obtain ⟨n3, fs3, q3, h3, h⟩ := bindF_inv h
  have w3 := HR _ _ _ _ _ _ (skF_le (nm_le w2.le)) h3
  obtain ⟨-, h⟩ := wordF_inv h
  have c1 : q3 ≤ nmJ L q3 := runJ_ge _ _ _
  have := w1.lt; have := w1.cnt
  have := w2.lt; have := w2.cnt
  have := w3.lt; have := w3.cnt
  exact went_add h (pre_trans w1.pre (pre_trans w2.pre w3.pre)) (by omega) (by omega) (nm_le w3.le)
theorem named_went {W : WP} {R : RD} {L : List UInt8} (HR : Goes L R) {w : List UInt8} {fs : List FN} {p0 p : Nat} {n : Int} {fs' : List FN} {q : Nat} (hp0 : p0 < p) (hp : p ≤ L.length) (h : namedF W R L w fs (skF L p) = some (n, fs', q)) : Went L fs p0 n fs' q := by
  have hs := skF_ge L p
  unfold namedF at h
  split at h
  · exact went_add h ⟨[], by simp⟩ (by omega) hp0 hp
  split at h
  · exact went_add h ⟨[], by simp⟩ (by omega) hp0 hp
  split at h
  · exact went_add h ⟨[], by simp⟩ (by omega) hp0 hp
  split at h
  · exact sel_went HR (by omega) (skF_le hp) h
  split at h
  · exact if_went HR (by omega) (skF_le hp) h
  split at h
  · exact went_add h ⟨[], by simp⟩ (by omega) hp0 hp
  split at h
  · exact went_add h ⟨[], by simp⟩ (by omega) hp0 hp
  split at h
  · exact went_add h ⟨[], by simp⟩ (by omega) hp0 hp
  split at h
  · exact went_add h ⟨[], by simp⟩ (by omega) hp0 hp
  · cases h
theorem num_lt {L : List UInt8} {p : Nat} (h : isAt L p 45 = true ∨ digAt L p = true) : p < dgJ L (numAt L p) ∧ p < L.length := by
  rcases h with h | h
  · have h1 := (isAt_yes.1 h).1
    have h2 : numAt L p = p + 1 := by unfold numAt; rw [if_pos h]
    rw [h2]
    have : p + 1 ≤ dgJ L (p + 1) := runJ_ge _ _ _
    exact ⟨by omega, h1⟩
  · unfold digAt at h
    simp only [Bool.and_eq_true, decide_eq_true_eq] at h
    have h3 : ¬ byAt L p = 45 := fun e => by rw [e] at h; exact absurd h.2 (by decide)
    have h2 : numAt L p = p := by unfold numAt; rw [if_neg (fun e => h3 (isAt_yes.1 e).2)]
    rw [h2]
    have h4 : digC (byAt L p) = true := by have := h.2; unfold digN at this; unfold digC; simpa using this
    have h5 : dgJ L p = dgJ L (p + 1) := runJ_yes h.1 h4
    have : p + 1 ≤ dgJ L (p + 1) := runJ_ge _ _ _
    exact ⟨by omega, h.1⟩
theorem whole_went {W : WP} {R : RD} {L : List UInt8} (HR : Goes L R) (HW : WGood W L) {fs : List FN} {p : Nat} {n : Int} {fs' : List FN} {q : Nat} (hp : p ≤ L.length) (h : wholeF W R L fs p = some (n, fs', q)) : Went L fs p n fs' q := by
  have hs := skF_ge L (p + 1)
  unfold wholeF at h
  split at h
  · rename_i e; exact point_went (isAt_yes.1 e).1 h
  split at h
  · rename_i e; have := (isAt_yes.1 e).1; exact (around_went HR (by omega) (skF_le (by omega)) h).1
  split at h
  · rename_i e; have := (isAt_yes.1 e).1; exact list_went HR (by omega) (skF_le (by omega)) h
  split at h
  · rename_i e; have := (isAt_yes.1 e).1; exact map_went HR HW (by omega) (skF_le (by omega)) h
  split at h
  · rename_i e
    have h1 := (isAt_yes.1 e).1
    split at h
    · cases h
    · rename_i t q1 et
      have h2 := HW.tex _ _ _ (by omega) et
      exact went_add h ⟨[], by simp⟩ (by omega) (by omega) (by omega)
  split at h
  · rename_i e
    have h1 := nmJ_lt e
    exact named_went HR h1.1 (runJ_le hp) h
  split at h
  · rename_i e
    have h1 := num_lt e
    obtain ⟨v, -, h⟩ := decF_inv h
    exact went_add h ⟨[], by simp⟩ (by omega) h1.1 (runJ_le (numAt_le hp))
  · cases h
theorem jnt_says {L : List UInt8} {p : Nat} {k : Int} {len : Nat} (h : jntF L p = some (k, len)) : 1 ≤ len ∧ p + len ≤ L.length ∧ 1 ≤ levF k ∧ levF k ≤ 6 := by
  unfold jntF at h
  repeat' split at h
  all_goals first
    | (cases h; done)
    | (rename_i e; simp only [Option.some.injEq, Prod.mk.injEq] at h; obtain ⟨rfl, rfl⟩ := h
       first
         | (have h1 := (isAt_yes.1 e.2).1; exact ⟨by omega, by omega, by decide, by decide⟩)
         | (have h1 := (isAt_yes.1 e).1; exact ⟨by omega, by omega, by decide, by decide⟩))
theorem eat_went {W : WP} {R : RD} {L : List UInt8} (HR : Goes L R) {k : Int} {len : Nat} {n : Int} {fs : List FN} {p : Nat} {n' : Int} {fs' : List FN} {q : Nat} (hl : 1 ≤ len) (hp : p + len ≤ L.length) (h : eatF R L W k len n fs p = some (n', fs', q)) : Went L fs p n' fs' q := by
  have hs := skF_ge L (p + len)
  unfold eatF at h
  split at h
  · exact went_add h ⟨[], by simp⟩ (by omega) (by omega) hp
  · obtain ⟨n1, fs1, q1, h1, h2⟩ := bindF_inv h
    have w1 := HR _ _ _ _ _ _ (skF_le hp) h1
    obtain ⟨rfl, rfl, rfl⟩ := addF_inv h2
    have := w1.lt; have := w1.cnt
    refine ⟨by omega, w1.le, w1.nb, pre_trans w1.pre ⟨_, rfl⟩, ?_, by omega, ?_⟩
    · simp only [List.length_append, List.length_singleton]; omega
    · simp only [List.length_append, List.length_singleton]; omega
structure Went0 (L : List UInt8) (fs : List FN) (p : Nat) (n : Int) (fs' : List FN) (q : Nat) : Prop where
  lt : p ≤ q
  le : q ≤ L.length
  nb : skF L q = q
  pre : ∃ more, fs' = fs ++ more
  cnt : fs'.length + p ≤ fs.length + q
  n0 : 0 ≤ n
  n1 : n < (fs'.length : Int)
theorem Went.on {L : List UInt8} {fs : List FN} {p : Nat} {n : Int} {fs' : List FN} {q : Nat} {n2 : Int} {fs2 : List FN} {q2 : Nat} (h : Went L fs p n fs' q) (h2 : Went0 L fs' q n2 fs2 q2) : Went L fs p n2 fs2 q2 := by
  have := h.lt; have := h.cnt; have := h2.lt; have := h2.cnt
  exact ⟨by omega, h2.le, h2.nb, pre_trans h.pre h2.pre, by omega, h2.n0, h2.n1⟩
theorem Went.wide {L : List UInt8} {fs : List FN} {p : Nat} {n : Int} {fs' : List FN} {q : Nat} (h : Went L fs p n fs' q) : Went0 L fs p n fs' q := ⟨Nat.le_of_lt h.lt, h.le, h.nb, h.pre, h.cnt, h.n0, h.n1⟩
theorem went0_refl {L : List UInt8} {fs : List FN} {p : Nat} {n : Int} (hp : p ≤ L.length) (hnb : skF L p = p) (h0 : 0 ≤ n) (h1 : n < (fs.length : Int)) : Went0 L fs p n fs p := ⟨Nat.le_refl _, hp, hnb, ⟨[], by simp⟩, Nat.le_refl _, h0, h1⟩
theorem loopF_went {W : WP} {R : RD} {L : List UInt8} (HR : Goes L R) (least : Int) : ∀ g bind n fs p n' fs' q, p ≤ L.length → skF L p = p → 0 ≤ n → n < (fs.length : Int) → loopF R L W g least bind n fs p = some (n', fs', q) → Went0 L fs p n' fs' q := by
  intro g
  induction g with
  | zero => intro bind n fs p n' fs' q _ _ _ _ h; cases h
  | succ g ih =>
    intro bind n fs p n' fs' q hp hnb hn0 hn1 h
    rw [loopF] at h
    cases hj : jntF L p with
    | none =>
      simp only [hj, Option.some.injEq, Prod.mk.injEq] at h
      obtain ⟨rfl, rfl, rfl⟩ := h
      exact went0_refl hp hnb hn0 hn1
    | some kl =>
      obtain ⟨k, len⟩ := kl
      obtain ⟨j1, j2, -, -⟩ := jnt_says hj
      simp only [hj] at h
      split at h
      · simp only [Option.some.injEq, Prod.mk.injEq] at h
        obtain ⟨rfl, rfl, rfl⟩ := h
        exact went0_refl hp hnb hn0 hn1
      split at h
      · cases h
      · obtain ⟨n1, fs1, q1, h1, h2⟩ := bindF_inv h
        have w1 := eat_went HR j1 j2 h1
        exact (w1.on (ih _ _ _ _ _ _ _ w1.le w1.nb w1.n0 w1.n1 h2)).wide
theorem sgnS_went {W : WP} {R : RD} {L : List UInt8} (HR : Goes L R) (l : Nat) : ∀ g n fs p n' fs' q, p ≤ L.length → skF L p = p → 0 ≤ n → n < (fs.length : Int) → sgnS R L W l g n fs p = some (n', fs', q) → Went0 L fs p n' fs' q := by
  intro g
  induction g with
  | zero => intro n fs p n' fs' q _ _ _ _ h; cases h
  | succ g ih =>
    intro n fs p n' fs' q hp hnb hn0 hn1 h
    rw [sgnS] at h
    cases hj : jntF L p with
    | none =>
      simp only [hj, Option.some.injEq, Prod.mk.injEq] at h
      obtain ⟨rfl, rfl, rfl⟩ := h
      exact went0_refl hp hnb hn0 hn1
    | some kl =>
      obtain ⟨k, len⟩ := kl
      obtain ⟨j1, j2, -, -⟩ := jnt_says hj
      simp only [hj] at h
      split at h
      · obtain ⟨n1, fs1, q1, h1, h2⟩ := bindF_inv h
        have w1 := eat_went HR j1 j2 h1
        split at h2
        · exact (w1.on (ih _ _ _ _ _ _ w1.le w1.nb w1.n0 w1.n1 h2)).wide
        · simp only [Option.some.injEq, Prod.mk.injEq] at h2
          obtain ⟨rfl, rfl, rfl⟩ := h2
          exact w1.wide
      · simp only [Option.some.injEq, Prod.mk.injEq] at h
        obtain ⟨rfl, rfl, rfl⟩ := h
        exact went0_refl hp hnb hn0 hn1
theorem lvS_went {W : WP} {R : RD} {L : List UInt8} (HR : Goes L R) (HW : WGood W L) : ∀ d fs p n fs' q, p ≤ L.length → lvS R L W d fs p = some (n, fs', q) → Went L fs p n fs' q := by
  intro d
  induction d with
  | zero =>
    intro fs p n fs' q hp h
    rw [lvS] at h
    obtain ⟨n1, fs1, q1, h1, h2⟩ := bindF_inv h
    have w1 := whole_went HR HW hp h1
    exact w1.on (sgnS_went HR 6 _ _ _ _ _ _ _ w1.le w1.nb w1.n0 w1.n1 h2)
  | succ d ih =>
    intro fs p n fs' q hp h
    rw [lvS] at h
    obtain ⟨n1, fs1, q1, h1, h2⟩ := bindF_inv h
    have w1 := ih _ _ _ _ _ hp h1
    exact w1.on (sgnS_went HR _ _ _ _ _ _ _ _ w1.le w1.nb w1.n0 w1.n1 h2)
theorem readP_goes {W : WP} {L : List UInt8} (HW : WGood W L) : ∀ f, Goes L (readP W L f) := by
  intro f
  induction f with
  | zero => intro least fs p n fs' q _ h; cases h
  | succ f ih =>
    intro least fs p n fs' q hp h
    rw [readP] at h
    obtain ⟨n1, fs1, q1, h1, h2⟩ := bindF_inv h
    have w1 := whole_went ih HW hp h1
    exact w1.on (loopF_went ih least _ _ _ _ _ _ _ _ w1.le w1.nb w1.n0 w1.n1 h2)
theorem readS_goes {W : WP} {L : List UInt8} (HW : WGood W L) : ∀ f, Goes L (readS W L f) := by
  intro f
  induction f with
  | zero => intro least fs p n fs' q _ h; cases h
  | succ f ih =>
    intro least fs p n fs' q hp h
    rw [readS] at h
    exact lvS_went ih HW _ _ _ _ _ _ hp h
end Go.Proofs.YtehihemfepbmfaaGreatDoor

/-
  Plain: the program and the specification read the same filter, or both refuse: the relation, up to a whole filter.
-/
namespace Go.Proofs.YtehihemfepbmfaaGreatDoor
open Go.RowKit
set_option linter.unusedSimpArgs false
set_option linter.unusedVariables false
set_option linter.unusedSectionVars false

/-- Whatever is put behind these nodes, they are no right filter. -/
def DoomF (fs : List FN) : Prop := ∀ more, okF (fs ++ more) = false
theorem doomF_more {fs more : List FN} (h : DoomF fs) : DoomF (fs ++ more) := fun m => by rw [List.append_assoc]; exact h _
theorem doomF_many {fs : List FN} (h : 40 < fs.length) : DoomF fs := fun more => by
  unfold okF fsizeB
  have : decide ((fs ++ more).length ≤ 40) = false := by rw [decide_eq_false_iff_not, List.length_append]; omega
  rw [this]; simp
theorem doomF_node {fs : List FN} {x : FN} (h : fnodeB x = false) : DoomF (fs ++ [x]) := fun more => by
  rw [Bool.eq_false_iff]
  intro ho
  unfold okF at ho
  simp only [Bool.and_eq_true, List.all_eq_true, List.mem_range] at ho
  have h1 := (ho.1.2 fs.length (by simp)).1
  have h2 : fnAt (fs ++ [x] ++ more) fs.length = x := by unfold fnAt; rw [List.getD_eq_getElem?_getD]; simp
  rw [h2, h] at h1
  cases h1

def PreF (fs : List FN) (r : RF) : Prop := ∀ n fs' q, r = some (n, fs', q) → ∃ more, fs' = fs ++ more
theorem preF_none {fs : List FN} : PreF fs none := fun _ _ _ h => by cases h
theorem preF_some {fs : List FN} {n : Int} {q : Nat} : PreF fs (some (n, fs, q)) := fun n' fs' q' h => by
  simp only [Option.some.injEq, Prod.mk.injEq] at h; exact ⟨[], by rw [← h.2.1]; simp⟩
theorem preF_add {W : WP} {x : FN} {fs : List FN} {q : Nat} : PreF fs (addF W x fs q) := fun n' fs' q' h => ⟨[x], (addF_inv h).2.1⟩
theorem preF_bind {fs : List FN} {a : RF} {k : Int → List FN → Nat → RF} (h : PreF fs a) (hk : ∀ n fs q, PreF fs (k n fs q)) : PreF fs (bindF a k) := fun n' fs' q' e => by
  obtain ⟨n1, fs1, q1, h1, h2⟩ := bindF_inv e
  exact pre_trans (h _ _ _ h1) (hk _ _ _ _ _ _ h2)
theorem preF_must {fs : List FN} {L : List UInt8} {q c : Nat} {k : Nat → RF} (hk : ∀ q, PreF fs (k q)) : PreF fs (mustF L q c k) := fun n' fs' q' e => hk _ _ _ _ (mustF_inv e).2
theorem preF_word {fs : List FN} {L : List UInt8} {q : Nat} {w : List UInt8} {k : Nat → RF} (hk : ∀ q, PreF fs (k q)) : PreF fs (wordF L w q k) := fun n' fs' q' e => hk _ _ _ _ (wordF_inv e).2
theorem preF_dec {fs : List FN} {W : WP} {L : List UInt8} {q : Nat} {k : Int → Nat → RF} (hk : ∀ n q, PreF fs (k n q)) : PreF fs (decF W L q k) := fun n' fs' q' e => by
  obtain ⟨v, -, h⟩ := decF_inv e; exact hk _ _ _ _ _ h
theorem preF_ite {fs : List FN} {P : Prop} [Decidable P] {a b : RF} (ha : PreF fs a) (hb : PreF fs b) : PreF fs (if P then a else b) := by split <;> assumption

/-- As the specification has it; or the specification refuses, and the program refuses or holds nodes that are no filter. -/
def RelW (a b : RF) : Prop := match b with
  | some r => a = some r
  | none => ∀ n fs q, a = some (n, fs, q) → DoomF fs
def cmpAt (L : List UInt8) (q : Nat) : Prop := ∃ k len, jntF L q = some (k, len) ∧ levF k = 4
def stopAt (L : List UInt8) (least : Int) (q : Nat) : Prop := ∀ k len, jntF L q = some (k, len) → levF k < least
def RelX (L : List UInt8) (least : Int) (a b : RF) : Prop := match b with
  | some (n, fs, q) => (a = some (n, fs, q) ∧ stopAt L least q) ∨ (a = none ∧ least ≤ 4 ∧ cmpAt L q)
  | none => ∀ n fs q, a = some (n, fs, q) → DoomF fs
def RelAll (L : List UInt8) (R S : RD) : Prop := ∀ least fs p, 1 ≤ least → least ≤ 6 → p ≤ L.length → RelX L least (R least fs p) (S least fs p)
def PreR (R : RD) : Prop := ∀ least fs p, PreF fs (R least fs p)

theorem relW_none : RelW none none := fun _ _ _ h => by cases h
theorem relW_some {r : Int × List FN × Nat} : RelW (some r) (some r) := rfl
theorem relW_ite {P : Prop} [Decidable P] {a b c d : RF} (h1 : P → RelW a c) (h2 : ¬ P → RelW b d) : RelW (if P then a else b) (if P then c else d) := by
  split
  · exact h1 (by assumption)
  · exact h2 (by assumption)
theorem relW_bind {a b : RF} {k k' : Int → List FN → Nat → RF} (h : RelW a b) (hk : ∀ n fs q, b = some (n, fs, q) → RelW (k n fs q) (k' n fs q)) (hp : ∀ n fs q, PreF fs (k n fs q)) : RelW (bindF a k) (bindF b k') := by
  cases b with
  | some r => obtain ⟨n, fs, q⟩ := r; rw [show a = some (n, fs, q) from h, bindF_some, bindF_some]; exact hk n fs q rfl
  | none =>
    rw [bindF_none]
    intro n' fs' q' e
    obtain ⟨n1, fs1, q1, h1, h2⟩ := bindF_inv e
    obtain ⟨m, rfl⟩ := hp _ _ _ _ _ _ h2
    exact doomF_more (h _ _ _ h1)
theorem relX_bind {L : List UInt8} {least : Int} {a b : RF} {k k' : Int → List FN → Nat → RF} (h : RelX L least a b) (hk : ∀ n fs q, b = some (n, fs, q) → RelW (k n fs q) (k' n fs q)) (hc : ∀ n fs q, cmpAt L q → k' n fs q = none) (hp : ∀ n fs q, PreF fs (k n fs q)) : RelW (bindF a k) (bindF b k') := by
  cases b with
  | some r =>
    obtain ⟨n, fs, q⟩ := r
    rcases (show _ ∨ _ from h) with ⟨h1, h2⟩ | ⟨h1, h2, h3⟩
    · rw [h1, bindF_some, bindF_some]; exact hk n fs q rfl
    · rw [h1, bindF_none, bindF_some, hc _ _ _ h3]; exact relW_none
  | none =>
    rw [bindF_none]
    intro n' fs' q' e
    obtain ⟨n1, fs1, q1, h1, h2⟩ := bindF_inv e
    obtain ⟨m, rfl⟩ := hp _ _ _ _ _ _ h2
    exact doomF_more ((show ∀ n fs q, a = some (n, fs, q) → DoomF fs from h) _ _ _ h1)
theorem relW_must {L : List UInt8} {q c : Nat} {k k' : Nat → RF} (h : isAt L q c = true → RelW (k (skF L (q + 1))) (k' (skF L (q + 1)))) : RelW (mustF L q c k) (mustF L q c k') := by
  unfold mustF
  exact relW_ite h (fun _ => relW_none)
theorem relW_word {L : List UInt8} {q : Nat} {w : List UInt8} {k k' : Nat → RF} (h : RelW (k (skF L (nmJ L q))) (k' (skF L (nmJ L q)))) : RelW (wordF L w q k) (wordF L w q k') := by
  unfold wordF
  exact relW_ite (fun _ => h) (fun _ => relW_none)

/-- What the two do otherwise. -/
structure WRel (W W' : WP) (L : List UInt8) : Prop where
  cap : W.cap = false
  cap' : W'.cap = true
  dec : ∀ l v, W'.dec l = some v → W.dec l = some v
  dec' : ∀ l v, W'.dec l = none → W.dec l = some v → v < -1000000000000000 ∨ 1000000000000000 < v
  nam : ∀ p, W.nam L p = nmJ L p
  nam' : ∀ p, W'.nam L p = if letAt L p = true then nmJ L p else p
  tex : ∀ p r, W'.tex L p = some r → W.tex L p = some r
  tex' : ∀ p t q, W'.tex L p = none → W.tex L p = some (t, q) → 60 < t.length

theorem rel_add {W W' : WP} {L : List UInt8} (H : WRel W W' L) (x : FN) (fs : List FN) (q : Nat) : RelW (addF W x fs q) (addF W' x fs q) := by
  unfold addF
  rw [H.cap, H.cap']
  by_cases h : 40 < fs.length + 1
  · simp only [h, true_and, and_true, if_true, Bool.false_eq_true, false_and, if_false]
    intro n fs' q' e
    simp only [Option.some.injEq, Prod.mk.injEq] at e
    rw [← e.2.1]
    exact doomF_many (by simp only [List.length_append, List.length_singleton]; exact h)
  · simp only [h, and_false, if_false, Bool.false_eq_true, false_and]; rfl
theorem relW_doom {a : RF} (h : ∀ n fs q, a = some (n, fs, q) → DoomF fs) : RelW a none := h
theorem doom_add {W : WP} {x : FN} {fs : List FN} {q : Nat} (h : fnodeB x = false) : ∀ n fs' q', addF W x fs q = some (n, fs', q') → DoomF fs' := fun n fs' q' e => by
  obtain ⟨-, rfl, -⟩ := addF_inv e; exact doomF_node h

/-! ### A sign that compares is no other -/
theorem cmp_byte {L : List UInt8} {q : Nat} (h : cmpAt L q) : q < L.length ∧ (byAt L q = 61 ∨ byAt L q = 33 ∨ byAt L q = 60) := by
  obtain ⟨k, len, hj, hl⟩ := h
  unfold jntF at hj
  repeat' split at hj
  all_goals first
    | (cases hj; done)
    | (simp only [Option.some.injEq, Prod.mk.injEq] at hj; obtain ⟨rfl, rfl⟩ := hj
       first
         | (exfalso; revert hl; decide)
         | (rename_i e; first | (have h1 := isAt_yes.1 e.1; exact ⟨h1.1, by omega⟩) | (have h1 := isAt_yes.1 e; exact ⟨h1.1, by omega⟩)))
theorem cmp_must {L : List UInt8} {q c : Nat} {k : Nat → RF} (h : cmpAt L q) (hc : c ≠ 61) (hc1 : c ≠ 33) (hc2 : c ≠ 60) : mustF L q c k = none := by
  unfold mustF
  rw [if_neg (fun e => ?_)]
  have h1 := (isAt_yes.1 e).2
  have h2 := (cmp_byte h).2
  omega
theorem cmp_at {L : List UInt8} {q c : Nat} (h : cmpAt L q) (hc : c ≠ 61) (hc1 : c ≠ 33) (hc2 : c ≠ 60) : isAt L q c = false := by
  rw [isAt_no]; intro e; have h2 := (cmp_byte h).2; omega
theorem cmp_word {L : List UInt8} {q : Nat} {w : List UInt8} {k : Nat → RF} (h : cmpAt L q) (hw : w ≠ []) : wordF L w q k = none := by
  unfold wordF
  rw [if_neg (fun e => ?_)]
  have h2 := (cmp_byte h).2
  have h3 : nmJ L q = q := runJ_no (fun e => by
    rcases h2 with h2 | h2 | h2 <;> (rw [h2] at e; exact absurd e.2 (by decide)))
  unfold nameF at e
  rw [h3] at e
  simp at e
  exact hw e
end Go.Proofs.YtehihemfepbmfaaGreatDoor

/-
  Plain: the program and the specification read the same whole filter, or both refuse.
-/
namespace Go.Proofs.YtehihemfepbmfaaGreatDoor
open Go.RowKit
set_option linter.unusedSimpArgs false
set_option linter.unusedVariables false
set_option linter.unusedSectionVars false

/-! ### Nodes are only put behind -/
theorem preF_place {W : WP} {L : List UInt8} {fs : List FN} {p : Nat} : PreF fs (placeF W L fs p) := preF_ite preF_add (preF_dec fun _ _ => preF_must fun _ => preF_add)
theorem preF_point {W : WP} {L : List UInt8} {fs : List FN} {p : Nat} : PreF fs (pointF W L fs p) := preF_ite preF_add (preF_ite preF_place preF_add)
theorem preF_around {R : RD} {L : List UInt8} {c : Nat} {fs : List FN} {p : Nat} (HR : PreR R) : PreF fs (aroundF R L c fs p) := preF_bind (HR _ _ _) fun _ _ _ => preF_must fun _ => preF_some
theorem preF_list {W : WP} {R : RD} {L : List UInt8} {fs : List FN} {p : Nat} (HR : PreR R) : PreF fs (listF W R L fs p) := preF_ite preF_add (preF_bind (HR _ _ _) fun _ _ _ => preF_must fun _ => preF_add)
theorem preF_rows {W : WP} {R : RD} {L : List UInt8} (HR : PreR R) : ∀ g names kids fs p, PreF fs (rowsF W R L g names kids fs p) := by
  intro g
  induction g with
  | zero => intro names kids fs p; exact preF_none
  | succ g ih =>
    intro names kids fs p
    rw [rowsF]
    exact preF_must fun _ => preF_bind (HR _ _ _) fun _ _ _ => preF_ite preF_add (preF_must fun _ => ih _ _ _ _)
theorem preF_map {W : WP} {R : RD} {L : List UInt8} {fs : List FN} {p : Nat} (HR : PreR R) : PreF fs (mapF W R L fs p) := preF_ite preF_add (preF_rows HR _ _ _ _ _)
theorem preF_sel {W : WP} {R : RD} {L : List UInt8} {fs : List FN} {p : Nat} (HR : PreR R) : PreF fs (selF W R L fs p) := preF_must fun _ => preF_bind (preF_around HR) fun _ _ _ => preF_add
theorem preF_if {W : WP} {R : RD} {L : List UInt8} {fs : List FN} {p : Nat} (HR : PreR R) : PreF fs (ifF W R L fs p) :=
  preF_bind (HR _ _ _) fun _ _ _ => preF_word fun _ => preF_bind (HR _ _ _) fun _ _ _ => preF_word fun _ => preF_bind (HR _ _ _) fun _ _ _ => preF_word fun _ => preF_add
theorem preF_named {W : WP} {R : RD} {L : List UInt8} {w : List UInt8} {fs : List FN} {p : Nat} (HR : PreR R) : PreF fs (namedF W R L w fs p) :=
  preF_ite preF_add (preF_ite preF_add (preF_ite preF_add (preF_ite (preF_sel HR) (preF_ite (preF_if HR) (preF_ite preF_add (preF_ite preF_add (preF_ite preF_add (preF_ite preF_add preF_none))))))))
theorem preF_text {W : WP} {L : List UInt8} {fs : List FN} {p : Nat} : PreF fs (match W.tex L (p + 1) with
    | none => none
    | some (t, q) => addF W (nodeC ⟨4, 0, txt t, [], []⟩) fs (skF L q)) := by
  split
  · exact preF_none
  · exact preF_add
theorem preF_whole {W : WP} {R : RD} {L : List UInt8} {fs : List FN} {p : Nat} (HR : PreR R) : PreF fs (wholeF W R L fs p) :=
  preF_ite preF_point (preF_ite (preF_around HR) (preF_ite (preF_list HR) (preF_ite (preF_map HR) (preF_ite preF_text (preF_ite (preF_named HR) (preF_ite (preF_dec fun _ _ => preF_add) preF_none))))))
theorem preF_eat {R : RD} {L : List UInt8} {W : WP} {k : Int} {len : Nat} {n : Int} {fs : List FN} {p : Nat} (HR : PreR R) : PreF fs (eatF R L W k len n fs p) := preF_ite preF_add (preF_bind (HR _ _ _) fun _ _ _ => preF_add)
theorem preF_loop {R : RD} {L : List UInt8} {W : WP} (HR : PreR R) (least : Int) : ∀ g bind n fs p, PreF fs (loopF R L W g least bind n fs p) := by
  intro g
  induction g with
  | zero => intro bind n fs p; exact preF_none
  | succ g ih =>
    intro bind n fs p
    rw [loopF]
    split
    · exact preF_some
    · exact preF_ite preF_some (preF_ite preF_none (preF_bind (preF_eat HR) fun _ _ _ => ih _ _ _ _))
theorem preR_readP (W : WP) (L : List UInt8) : ∀ f, PreR (readP W L f) := by
  intro f
  induction f with
  | zero => intro least fs p; exact preF_none
  | succ f ih => intro least fs p; rw [readP]; exact preF_bind (preF_whole ih) fun _ _ _ => preF_loop ih _ _ _ _ _ _

/-! ### A whole filter -/
section
variable {W W' : WP} {L : List UInt8} (H : WRel W W' L) {R S : RD} (HP : PreR R) (HR : RelAll L R S) (HG : Goes L S)
include H
theorem rel_dec {q : Nat} {k k' : Int → Nat → RF} (hk : ∀ n q, RelW (k n q) (k' n q)) (hd : ∀ n q n' fs' q', n < -1000000000000000 ∨ 1000000000000000 < n → k n q = some (n', fs', q') → DoomF fs') : RelW (decF W L q k) (decF W' L q k') := by
  unfold decF
  cases h : W'.dec (numW L q) with
  | some v => rw [H.dec _ _ h]; exact hk _ _
  | none =>
    cases h2 : W.dec (numW L q) with
    | none => exact relW_none
    | some v => exact relW_doom fun n' fs' q' e => hd _ _ _ _ _ (H.dec' _ _ h h2) e
theorem rel_place (fs : List FN) (p : Nat) : RelW (placeF W L fs p) (placeF W' L fs p) := by
  unfold placeF
  refine relW_ite (fun _ => rel_add H _ _ _) (fun _ => rel_dec H (fun n q => relW_must fun _ => rel_add H _ _ _) (fun n q n' fs' q' hn e => ?_))
  have e := (mustF_inv e).2
  refine doom_add ?_ _ _ _ e
  unfold fnodeB ownF
  have : (decide (-80 ≤ n) && decide (n ≤ 80)) = false := by
    rw [Bool.and_eq_false_iff]; simp only [decide_eq_false_iff_not]; omega
  simp [this]
theorem rel_point (fs : List FN) (p : Nat) : RelW (pointF W L fs p) (pointF W' L fs p) := by
  unfold pointF
  exact relW_ite (fun _ => rel_add H _ _ _) (fun _ => relW_ite (fun _ => rel_place H _ _) (fun _ => rel_add H _ _ _))
include HP HR HG
theorem rel_around {c : Nat} (hc : c ≠ 61) (hc1 : c ≠ 33) (hc2 : c ≠ 60) (fs : List FN) {p : Nat} (hp : p ≤ L.length) : RelW (aroundF R L c fs p) (aroundF S L c fs p) := by
  unfold aroundF
  exact relX_bind (HR 1 fs p (by decide) (by decide) hp) (fun _ _ _ _ => relW_must fun _ => relW_some) (fun _ _ _ h => cmp_must h hc hc1 hc2) (fun _ _ _ => preF_must fun _ => preF_some)
theorem rel_list (fs : List FN) {p : Nat} (hp : p ≤ L.length) : RelW (listF W R L fs p) (listF W' S L fs p) := by
  unfold listF
  exact relW_ite (fun _ => rel_add H _ _ _) (fun _ => relX_bind (HR 1 fs p (by decide) (by decide) hp) (fun _ _ _ _ => relW_must fun _ => rel_add H _ _ _) (fun _ _ _ h => cmp_must h (by decide) (by decide) (by decide)) (fun _ _ _ => preF_must fun _ => preF_add))
theorem rel_sel (fs : List FN) {p : Nat} : RelW (selF W R L fs p) (selF W' S L fs p) := by
  unfold selF
  exact relW_must fun e => relW_bind (rel_around H HP HR HG (by decide) (by decide) (by decide) fs (skF_le (by have := (isAt_yes.1 e).1; omega))) (fun _ _ _ _ => rel_add H _ _ _) (fun _ _ _ => preF_add)
theorem rel_if (fs : List FN) {p : Nat} (hp : p ≤ L.length) : RelW (ifF W R L fs p) (ifF W' S L fs p) := by
  unfold ifF
  refine relX_bind (HR 1 fs p (by decide) (by decide) hp) (fun n1 fs1 q1 e1 => relW_word ?_) (fun _ _ _ h => cmp_word h (by simp)) (fun _ _ _ => preF_word fun _ => preF_bind (HP _ _ _) fun _ _ _ => preF_word fun _ => preF_bind (HP _ _ _) fun _ _ _ => preF_word fun _ => preF_add)
  have w1 := HG _ _ _ _ _ _ hp e1
  have hp1 := skF_le (nm_le w1.le)
  refine relX_bind (HR 1 fs1 _ (by decide) (by decide) hp1) (fun n2 fs2 q2 e2 => relW_word ?_) (fun _ _ _ h => cmp_word h (by simp)) (fun _ _ _ => preF_word fun _ => preF_bind (HP _ _ _) fun _ _ _ => preF_word fun _ => preF_add)
  have w2 := HG _ _ _ _ _ _ hp1 e2
  have hp2 := skF_le (nm_le w2.le)
  exact relX_bind (HR 1 fs2 _ (by decide) (by decide) hp2) (fun n3 fs3 q3 e3 => relW_word (rel_add H _ _ _)) (fun _ _ _ h => cmp_word h (by simp)) (fun _ _ _ => preF_word fun _ => preF_add)
theorem rel_named {w : List UInt8} (fs : List FN) {p : Nat} (hp : p ≤ L.length) : RelW (namedF W R L w fs p) (namedF W' S L w fs p) := by
  unfold namedF
  refine relW_ite (fun _ => rel_add H _ _ _) (fun _ => ?_)
  refine relW_ite (fun _ => rel_add H _ _ _) (fun _ => ?_)
  refine relW_ite (fun _ => rel_add H _ _ _) (fun _ => ?_)
  refine relW_ite (fun _ => rel_sel H HP HR HG _) (fun _ => ?_)
  refine relW_ite (fun _ => rel_if H HP HR HG _ hp) (fun _ => ?_)
  refine relW_ite (fun _ => rel_add H _ _ _) (fun _ => ?_)
  refine relW_ite (fun _ => rel_add H _ _ _) (fun _ => ?_)
  refine relW_ite (fun _ => rel_add H _ _ _) (fun _ => ?_)
  exact relW_ite (fun _ => rel_add H _ _ _) (fun _ => relW_none)
end
end Go.Proofs.YtehihemfepbmfaaGreatDoor

/-
  Plain: whatever stands in the text, the program and the specification read the same filter or both refuse it.
-/
namespace Go.Proofs.YtehihemfepbmfaaGreatDoor
open Go.RowKit
set_option linter.unusedSimpArgs false
set_option linter.unusedVariables false
set_option linter.unusedSectionVars false

/-! ### Maps -/
theorem map_bad {names : List ByteArray} {kids : List Int} (h : ∃ x, x ∈ names ∧ nameB x = false) : fnodeB (nodeM names kids) = false := by
  obtain ⟨x, hx, hb⟩ := h
  obtain ⟨j, hj, rfl⟩ := List.mem_iff_getElem.1 hx
  have h1 : namesB names = false := by
    rw [Bool.eq_false_iff]
    intro e
    unfold namesB nriseB at e
    simp only [Bool.and_eq_true, List.all_eq_true, List.mem_range] at e
    have h2 := e.2 j hj
    unfold nriseAt at h2
    rw [Bool.and_eq_true] at h2
    have h3 : keyAt names j = names[j] := by unfold keyAt; rw [List.getD_eq_getElem?_getD, List.getElem?_eq_getElem hj]; rfl
    rw [h3, hb] at h2
    cases h2.1
  unfold fnodeB ownF nodeM
  simp [h1]
theorem rows_bad {W : WP} {R : RD} {L : List UInt8} : ∀ g names kids fs p n fs' q, (∃ x, x ∈ names ∧ nameB x = false) → rowsF W R L g names kids fs p = some (n, fs', q) → DoomF fs' := by
  intro g
  induction g with
  | zero => intro names kids fs p n fs' q _ h; cases h
  | succ g ih =>
    intro names kids fs p n fs' q hb h
    rw [rowsF] at h
    obtain ⟨-, h⟩ := mustF_inv h
    obtain ⟨n1, fs1, q1, -, h⟩ := bindF_inv h
    have hb2 : ∀ y, ∃ x, x ∈ names ++ [y] ∧ nameB x = false := fun y => by obtain ⟨x, hx, hxb⟩ := hb; exact ⟨x, List.mem_append_left _ hx, hxb⟩
    split at h
    · exact doom_add (map_bad (hb2 _)) _ _ _ h
    · exact ih _ _ _ _ _ _ _ (hb2 _) (mustF_inv h).2
theorem name_bad {L : List UInt8} {p m : Nat} (h : letN (byAt L p) = false) : nameB (txt ((L.drop p).take m)) = false := by
  rw [Bool.eq_false_iff]
  intro e
  unfold nameB at e
  simp only [Bool.and_eq_true, decide_eq_true_eq] at e
  have h1 : byteAt (txt ((L.drop p).take m)) 0 = byAt L p ∨ (txt ((L.drop p).take m)).size = 0 := by
    cases m with
    | zero => right; unfold txt; simp [ByteArray.size]
    | succ m =>
      left
      unfold byteAt txt byAt
      simp [List.getElem?_take, List.getElem?_drop]
  rcases h1 with h1 | h1
  · rw [h1, h] at e; exact absurd e.1.2 (by simp)
  · omega

section
variable {W W' : WP} {L : List UInt8} (H : WRel W W' L) {R S : RD} (HP : PreR R) (HR : RelAll L R S) (HG : Goes L S)
include H HP HR HG
theorem rel_rows : ∀ g names kids fs p, p ≤ L.length → RelW (rowsF W R L g names kids fs p) (rowsF W' S L g names kids fs p) := by
  intro g
  induction g with
  | zero => intro names kids fs p _; exact relW_none
  | succ g ih =>
    intro names kids fs p hp
    by_cases hn : W'.nam L p = nmJ L p
    · rw [rowsF, rowsF, H.nam, hn]
      refine relW_must fun e => ?_
      have e1 := (isAt_yes.1 e).1
      have hp1 : skF L (skF L (nmJ L p) + 1) ≤ L.length := skF_le (by omega)
      refine relX_bind (HR 3 fs _ (by decide) (by decide) hp1) (fun n1 fs1 q1 e2 => ?_) (fun n1 fs1 q1 hc => ?_) (fun _ _ _ => preF_ite preF_add (preF_must fun _ => preF_rows HP _ _ _ _ _))
      · exact relW_ite (fun _ => rel_add H _ _ _) (fun _ => relW_must fun e3 => ih _ _ _ _ (skF_le (by have := (isAt_yes.1 e3).1; omega)))
      · rw [cmp_at hc (by decide) (by decide) (by decide)]
        simp only [Bool.false_eq_true, if_false]
        exact cmp_must hc (by decide) (by decide) (by decide)
    · have hl : letAt L p = false := by
        rw [Bool.eq_false_iff]; intro e; exact hn (by rw [H.nam', if_pos e])
      have hq : W'.nam L p = p := by rw [H.nam', hl]; simp
      have hr : p < L.length ∧ nmC (byAt L p) = true := by
        by_cases hr : p < L.length ∧ nmC (byAt L p) = true
        · exact hr
        · exact absurd (hq.trans (runJ_no hr).symm) hn
      have hlb : letN (byAt L p) = false := by
        unfold letAt at hl
        simpa [hr.1] using hl
      have hd : digN (byAt L p) = true := by have := hr.2; unfold nmC at this; rw [hlb] at this; simpa using this
      have hd2 : 48 ≤ byAt L p ∧ byAt L p ≤ 57 := by unfold digN at hd; simpa using hd
      have hsk : skF L p = p := runJ_no (fun e => by have := e.2; unfold blkF at this; simp at this; omega)
      have hs : rowsF W' S L (g + 1) names kids fs p = none := by
        rw [rowsF, hq, hsk]
        unfold mustF
        rw [if_neg (fun e => ?_)]
        have := (isAt_yes.1 e).2
        omega
      rw [hs]
      refine relW_doom fun n fs' q e => ?_
      rw [rowsF] at e
      obtain ⟨-, e⟩ := mustF_inv e
      obtain ⟨n1, fs1, q1, -, e⟩ := bindF_inv e
      have hb2 : ∃ x, x ∈ names ++ [txt ((L.drop p).take (W.nam L p - p))] ∧ nameB x = false := ⟨_, List.mem_append_right _ (List.mem_singleton.2 rfl), name_bad hlb⟩
      split at e
      · exact doom_add (map_bad hb2) _ _ _ e
      · exact rows_bad _ _ _ _ _ _ _ _ hb2 (mustF_inv e).2
theorem rel_map (fs : List FN) {p : Nat} (hp : p ≤ L.length) : RelW (mapF W R L fs p) (mapF W' S L fs p) := by
  unfold mapF
  exact relW_ite (fun _ => rel_add H _ _ _) (fun _ => rel_rows H HP HR HG _ _ _ _ _ hp)
theorem rel_whole (fs : List FN) {p : Nat} (hp : p ≤ L.length) : RelW (wholeF W R L fs p) (wholeF W' S L fs p) := by
  unfold wholeF
  refine relW_ite (fun _ => rel_point H _ _) (fun _ => ?_)
  refine relW_ite (fun e => rel_around H HP HR HG (by decide) (by decide) (by decide) _ (skF_le (by have := (isAt_yes.1 e).1; omega))) (fun _ => ?_)
  refine relW_ite (fun e => rel_list H HP HR HG _ (skF_le (by have := (isAt_yes.1 e).1; omega))) (fun _ => ?_)
  refine relW_ite (fun e => rel_map H HP HR HG _ (skF_le (by have := (isAt_yes.1 e).1; omega))) (fun _ => ?_)
  refine relW_ite (fun e => ?_) (fun _ => ?_)
  · cases h : W'.tex L (p + 1) with
    | some r => rw [H.tex _ _ h]; exact rel_add H _ _ _
    | none =>
      cases h2 : W.tex L (p + 1) with
      | none => exact relW_none
      | some r =>
        obtain ⟨t, q⟩ := r
        have h3 := H.tex' _ _ _ h h2
        refine relW_doom (doom_add ?_)
        have h4 : nodeB ⟨4, 0, txt t, [], []⟩ = false := by
          have : textB (txt t) = false := by
            unfold textB
            have : decide ((txt t).size ≤ 60) = false := by
              rw [decide_eq_false_iff_not]
              unfold txt
              simp [ByteArray.size]
              omega
            rw [this]; rfl
          unfold nodeB namedB
          simp [this]
        have h5 : okB [⟨4, 0, txt t, [], []⟩] = false := by
          rw [Bool.eq_false_iff]
          intro ho
          unfold okB at ho
          simp only [Bool.and_eq_true, List.all_eq_true, List.mem_range] at ho
          have := (ho.1.2 0 (by simp)).1
          rw [show nodeAt [(⟨4, 0, txt t, [], []⟩ : VN)] 0 = ⟨4, 0, txt t, [], []⟩ from rfl, h4] at this
          cases this
        unfold fnodeB ownF cstB nodeC
        simp [h5]
  refine relW_ite (fun e => rel_named H HP HR HG _ (skF_le (nm_le hp))) (fun _ => ?_)
  refine relW_ite (fun e => rel_dec H (fun _ _ => rel_add H _ _ _) (fun n q n' fs' q' hn e => ?_)) (fun _ => relW_none)
  refine doom_add ?_ _ _ _ e
  have h4 : nodeB ⟨3, n, ByteArray.empty, [], []⟩ = false := by
    unfold nodeB namedB
    simp
    omega
  have h5 : okB [⟨3, n, ByteArray.empty, [], []⟩] = false := by
    rw [Bool.eq_false_iff]
    intro ho
    unfold okB at ho
    simp only [Bool.and_eq_true, List.all_eq_true, List.mem_range] at ho
    have := (ho.1.2 0 (by simp)).1
    rw [show nodeAt [(⟨3, n, ByteArray.empty, [], []⟩ : VN)] 0 = ⟨3, n, ByteArray.empty, [], []⟩ from rfl, h4] at this
    cases this
  unfold fnodeB ownF cstB nodeC
  simp [h5]
end
end Go.Proofs.YtehihemfepbmfaaGreatDoor

/-
  Plain: the sign of one level that stands at a place.
-/
namespace Go.Proofs.YtehihemfepbmfaaGreatDoor
open Go.RowKit
set_option linter.unusedSimpArgs false
set_option linter.unusedVariables false
set_option linter.unusedSectionVars false

/-- The sign of level l at q: its kind and how many bytes it has. -/
def sgnAt (l : Int) (L : List UInt8) (q : Nat) : Option (Int × Nat) := (jntF L q).bind fun x => if levF x.1 = l then some x else none
theorem jnt_cases (L : List UInt8) (q : Nat) :
    (isAt L q 124 = true ∧ jntF L q = some (6, 1)) ∨ (isAt L q 44 = true ∧ jntF L q = some (7, 1)) ∨ (isAt L q 47 = true ∧ isAt L (q + 1) 47 = true ∧ jntF L q = some (21, 2)) ∨
    (isAt L q 61 = true ∧ isAt L (q + 1) 61 = true ∧ jntF L q = some (17, 2)) ∨ (isAt L q 33 = true ∧ isAt L (q + 1) 61 = true ∧ jntF L q = some (18, 2)) ∨
    (isAt L q 60 = true ∧ isAt L (q + 1) 61 = true ∧ jntF L q = some (20, 2)) ∨ (isAt L q 60 = true ∧ isAt L (q + 1) 61 = false ∧ jntF L q = some (19, 1)) ∨
    (isAt L q 43 = true ∧ jntF L q = some (15, 1)) ∨ (isAt L q 45 = true ∧ jntF L q = some (16, 1)) ∨ (isAt L q 63 = true ∧ jntF L q = some (23, 1)) ∨
    (jntF L q = none ∧ isAt L q 124 = false ∧ isAt L q 44 = false ∧ ¬ (isAt L q 47 = true ∧ isAt L (q + 1) 47 = true) ∧ ¬ (isAt L q 61 = true ∧ isAt L (q + 1) 61 = true) ∧ ¬ (isAt L q 33 = true ∧ isAt L (q + 1) 61 = true) ∧ isAt L q 60 = false ∧ isAt L q 43 = false ∧ isAt L q 45 = false ∧ isAt L q 63 = false) := by
  unfold jntF
  by_cases h1 : isAt L q 124 = true
  · left; exact ⟨h1, by rw [if_pos h1]⟩
  by_cases h2 : isAt L q 44 = true
  · right; left; exact ⟨h2, by rw [if_neg h1, if_pos h2]⟩
  by_cases h3 : isAt L q 47 = true ∧ isAt L (q + 1) 47 = true
  · right; right; left; exact ⟨h3.1, h3.2, by rw [if_neg h1, if_neg h2, if_pos h3]⟩
  by_cases h4 : isAt L q 61 = true ∧ isAt L (q + 1) 61 = true
  · right; right; right; left; exact ⟨h4.1, h4.2, by rw [if_neg h1, if_neg h2, if_neg h3, if_pos h4]⟩
  by_cases h5 : isAt L q 33 = true ∧ isAt L (q + 1) 61 = true
  · right; right; right; right; left; exact ⟨h5.1, h5.2, by rw [if_neg h1, if_neg h2, if_neg h3, if_neg h4, if_pos h5]⟩
  by_cases h6 : isAt L q 60 = true ∧ isAt L (q + 1) 61 = true
  · right; right; right; right; right; left; exact ⟨h6.1, h6.2, by rw [if_neg h1, if_neg h2, if_neg h3, if_neg h4, if_neg h5, if_pos h6]⟩
  by_cases h7 : isAt L q 60 = true
  · right; right; right; right; right; right; left
    exact ⟨h7, by rw [← Bool.not_eq_true]; exact fun e => h6 ⟨h7, e⟩, by rw [if_neg h1, if_neg h2, if_neg h3, if_neg h4, if_neg h5, if_neg h6, if_pos h7]⟩
  by_cases h8 : isAt L q 43 = true
  · right; right; right; right; right; right; right; left; exact ⟨h8, by rw [if_neg h1, if_neg h2, if_neg h3, if_neg h4, if_neg h5, if_neg h6, if_neg h7, if_pos h8]⟩
  by_cases h9 : isAt L q 45 = true
  · right; right; right; right; right; right; right; right; left; exact ⟨h9, by rw [if_neg h1, if_neg h2, if_neg h3, if_neg h4, if_neg h5, if_neg h6, if_neg h7, if_neg h8, if_pos h9]⟩
  by_cases h10 : isAt L q 63 = true
  · right; right; right; right; right; right; right; right; right; left; exact ⟨h10, by rw [if_neg h1, if_neg h2, if_neg h3, if_neg h4, if_neg h5, if_neg h6, if_neg h7, if_neg h8, if_neg h9, if_pos h10]⟩
  right; right; right; right; right; right; right; right; right; right
  refine ⟨by rw [if_neg h1, if_neg h2, if_neg h3, if_neg h4, if_neg h5, if_neg h6, if_neg h7, if_neg h8, if_neg h9, if_neg h10], ?_, ?_, h3, h4, h5, ?_, ?_, ?_, ?_⟩ <;> rw [← Bool.not_eq_true] <;> assumption
theorem isAt_one {L : List UInt8} {q a b : Nat} (h : isAt L q a = true) (hab : a ≠ b) : isAt L q b = false := by
  rw [isAt_no]; rintro ⟨_, e⟩; exact hab ((isAt_yes.1 h).2.symm.trans e)
section
variable {L : List UInt8} {q : Nat}
theorem sgn1 : sgnAt 1 L q = if isAt L q 124 = true then some (6, 1) else none := by
  unfold sgnAt
  rcases jnt_cases L q with ⟨h, e⟩ | ⟨h, e⟩ | ⟨h, _, e⟩ | ⟨h, _, e⟩ | ⟨h, _, e⟩ | ⟨h, _, e⟩ | ⟨h, _, e⟩ | ⟨h, e⟩ | ⟨h, e⟩ | ⟨h, e⟩ | ⟨e, h1, _⟩
  · rw [e, if_pos h]; rfl
  all_goals first
    | (rw [e, if_neg (by rw [isAt_one h (by decide)]; decide)]; rfl)
    | (rw [e, if_neg (by rw [h1]; decide)]; rfl)
theorem sgn2 : sgnAt 2 L q = if isAt L q 44 = true then some (7, 1) else none := by
  unfold sgnAt
  rcases jnt_cases L q with ⟨h, e⟩ | ⟨h, e⟩ | ⟨h, _, e⟩ | ⟨h, _, e⟩ | ⟨h, _, e⟩ | ⟨h, _, e⟩ | ⟨h, _, e⟩ | ⟨h, e⟩ | ⟨h, e⟩ | ⟨h, e⟩ | ⟨e, _, h1, _⟩
  rotate_left
  · rw [e, if_pos h]; rfl
  all_goals first
    | (rw [e, if_neg (by rw [isAt_one h (by decide)]; decide)]; rfl)
    | (rw [e, if_neg (by rw [h1]; decide)]; rfl)
theorem sgn3 : sgnAt 3 L q = if isAt L q 47 = true ∧ isAt L (q + 1) 47 = true then some (21, 2) else none := by
  unfold sgnAt
  rcases jnt_cases L q with ⟨h, e⟩ | ⟨h, e⟩ | ⟨h, h', e⟩ | ⟨h, _, e⟩ | ⟨h, _, e⟩ | ⟨h, _, e⟩ | ⟨h, _, e⟩ | ⟨h, e⟩ | ⟨h, e⟩ | ⟨h, e⟩ | ⟨e, _, _, h1, _⟩
  rotate_left 2
  · rw [e, if_pos ⟨h, h'⟩]; rfl
  all_goals first
    | (rw [e, if_neg (fun hh => by rw [isAt_one h (by decide)] at hh; exact absurd hh.1 (by decide))]; rfl)
    | (rw [e, if_neg h1]; rfl)
theorem sgn4 : sgnAt 4 L q = if isAt L q 61 = true ∧ isAt L (q + 1) 61 = true then some (17, 2) else if isAt L q 33 = true ∧ isAt L (q + 1) 61 = true then some (18, 2) else if isAt L q 60 = true ∧ isAt L (q + 1) 61 = true then some (20, 2) else if isAt L q 60 = true then some (19, 1) else none := by
  unfold sgnAt
  rcases jnt_cases L q with ⟨h, e⟩ | ⟨h, e⟩ | ⟨h, _, e⟩ | ⟨h, h', e⟩ | ⟨h, h', e⟩ | ⟨h, h', e⟩ | ⟨h, h', e⟩ | ⟨h, e⟩ | ⟨h, e⟩ | ⟨h, e⟩ | ⟨e, _, _, _, h1, h2, h3, _⟩
  rotate_left 3
  · rw [e, if_pos ⟨h, h'⟩]; rfl
  · rw [e, if_neg (fun hh => by rw [isAt_one h (by decide)] at hh; exact absurd hh.1 (by decide)), if_pos ⟨h, h'⟩]; rfl
  · rw [e, if_neg (fun hh => by rw [isAt_one h (by decide)] at hh; exact absurd hh.1 (by decide)), if_neg (fun hh => by rw [isAt_one h (by decide)] at hh; exact absurd hh.1 (by decide)), if_pos ⟨h, h'⟩]; rfl
  · rw [e, if_neg (fun hh => by rw [isAt_one h (by decide)] at hh; exact absurd hh.1 (by decide)), if_neg (fun hh => by rw [isAt_one h (by decide)] at hh; exact absurd hh.1 (by decide)), if_neg (fun hh => by rw [h'] at hh; exact absurd hh.2 (by decide)), if_pos h]; rfl
  all_goals first
    | (rw [e, if_neg h1, if_neg h2, if_neg (fun hh => by rw [h3] at hh; exact absurd hh.1 (by decide)), if_neg (by rw [h3]; decide)]; rfl)
    | (rw [e, if_neg (fun hh => by rw [isAt_one h (by decide)] at hh; exact absurd hh.1 (by decide)), if_neg (fun hh => by rw [isAt_one h (by decide)] at hh; exact absurd hh.1 (by decide)), if_neg (fun hh => by rw [isAt_one h (by decide)] at hh; exact absurd hh.1 (by decide)), if_neg (by rw [isAt_one h (by decide)]; decide)]; rfl)
theorem sgn5 : sgnAt 5 L q = if isAt L q 43 = true then some (15, 1) else if isAt L q 45 = true then some (16, 1) else none := by
  unfold sgnAt
  rcases jnt_cases L q with ⟨h, e⟩ | ⟨h, e⟩ | ⟨h, _, e⟩ | ⟨h, _, e⟩ | ⟨h, _, e⟩ | ⟨h, _, e⟩ | ⟨h, _, e⟩ | ⟨h, e⟩ | ⟨h, e⟩ | ⟨h, e⟩ | ⟨e, _, _, _, _, _, _, h1, h2, _⟩
  rotate_left 7
  · rw [e, if_pos h]; rfl
  · rw [e, if_neg (by rw [isAt_one h (by decide)]; decide), if_pos h]; rfl
  all_goals first
    | (rw [e, if_neg (by rw [isAt_one h (by decide)]; decide), if_neg (by rw [isAt_one h (by decide)]; decide)]; rfl)
    | (rw [e, if_neg (by rw [h1]; decide), if_neg (by rw [h2]; decide)]; rfl)
theorem sgn6 : sgnAt 6 L q = if isAt L q 63 = true then some (23, 1) else none := by
  unfold sgnAt
  rcases jnt_cases L q with ⟨h, e⟩ | ⟨h, e⟩ | ⟨h, _, e⟩ | ⟨h, _, e⟩ | ⟨h, _, e⟩ | ⟨h, _, e⟩ | ⟨h, _, e⟩ | ⟨h, e⟩ | ⟨h, e⟩ | ⟨h, e⟩ | ⟨e, _, _, _, _, _, _, _, _, h1⟩
  rotate_left 9
  · rw [e, if_pos h]; rfl
  all_goals first
    | (rw [e, if_neg (by rw [isAt_one h (by decide)]; decide)]; rfl)
    | (rw [e, if_neg (by rw [h1]; decide)]; rfl)
end
/-- One sign more, or none. -/
theorem sgnS_is {S : RD} {L : List UInt8} {W : WP} {l g : Nat} {n : Int} {fs : List FN} {p : Nat} : sgnS S L W l (g + 1) n fs p = match sgnAt (l : Int) L p with
    | none => some (n, fs, p)
    | some (k, len) => bindF (eatF S L W k len n fs p) fun n fs q => if l = 6 ∨ l = 5 ∨ l = 2 then sgnS S L W l g n fs q else some (n, fs, q) := by
  rw [sgnS]
  unfold sgnAt
  cases h : jntF L p with
  | none => rfl
  | some x =>
    obtain ⟨k, len⟩ := x
    simp only [Option.bind_some]
    by_cases e : levF k = (l : Int)
    · rw [if_pos e, if_pos e]
    · rw [if_neg e, if_neg e]
end Go.Proofs.YtehihemfepbmfaaGreatDoor
