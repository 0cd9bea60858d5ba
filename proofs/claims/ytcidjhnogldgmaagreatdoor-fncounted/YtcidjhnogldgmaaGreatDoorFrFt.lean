import Derived.Test.YtcidjhnogldgmaaGreatDoorFImp2
import Derived.Test.YtcidjhnogldgmaaGreatDoorPick
import Derived.Test.YtcidjhnogldgmaaGreatDoorJsB
namespace Go.Proofs.YtcidjhnogldgmaaGreatDoor
open Go.RowKit
set_option linter.unusedSimpArgs false
set_option linter.unusedVariables false
def levF (k : Int) : Int :=
  if k = 6 then 1 else if k = 7 then 2 else if k = 21 then 3 else if k = 17 ∨ k = 18 ∨ k = 19 ∨ k = 20 then 4 else if k = 15 ∨ k = 16 then 5 else if k = 23 then 6 else 7
def sgnF (k : Int) : List UInt8 :=
  if k = 6 then [32, 124, 32] else if k = 7 then [44, 32] else if k = 21 then [32, 47, 47, 32] else if k = 17 then [32, 61, 61, 32] else if k = 18 then [32, 33, 61, 32]
  else if k = 19 then [32, 60, 32] else if k = 20 then [32, 60, 61, 32] else if k = 15 then [32, 43, 32] else [32, 45, 32]
def lftF (k : Int) : Int := if k = 6 then 2 else if k = 7 then 2 else if k = 21 then 4 else 5
def rgtF (k : Int) : Int := if k = 6 then 1 else if k = 7 then 3 else if k = 21 then 3 else if k = 15 ∨ k = 16 then 6 else 5
end Go.Proofs.YtcidjhnogldgmaaGreatDoor

namespace Go.Proofs.YtcidjhnogldgmaaGreatDoor
open Go.RowKit
set_option linter.unusedSimpArgs false
set_option linter.unusedVariables false
def blkF (c : Nat) : Bool := decide (c = 32 ∨ c = 10)
abbrev skF (L : List UInt8) (p : Nat) : Nat := runJ blkF L p
def nmC (c : Nat) : Bool := letN c || digN c
abbrev nmJ (L : List UInt8) (p : Nat) : Nat := runJ nmC L p
def letAt (L : List UInt8) (p : Nat) : Bool := decide (p < L.length) && letN (byAt L p)
def digAt (L : List UInt8) (p : Nat) : Bool := decide (p < L.length) && digN (byAt L p)
def nameF (L : List UInt8) (p : Nat) : List UInt8 := (L.drop p).take (nmJ L p - p)
abbrev RF := Option (Int × List FN × Nat)
def bindF (a : RF) (k : Int → List FN → Nat → RF) : RF := match a with
  | none => none
  | some (n, fs, q) => k n fs q
structure WP where
  dec : List UInt8 → Option Int
  nam : List UInt8 → Nat → Nat
  tex : List UInt8 → Nat → Option (List UInt8 × Nat)
  cap : Bool
def addF (W : WP) (x : FN) (fs : List FN) (q : Nat) : RF := if W.cap = true ∧ 40 < fs.length + 1 then none else some ((fs.length : Int), fs ++ [x], q)
def mustF (L : List UInt8) (q c : Nat) (k : Nat → RF) : RF := if isAt L q c = true then k (skF L (q + 1)) else none
def wordF (L : List UInt8) (w : List UInt8) (q : Nat) (k : Nat → RF) : RF := if nameF L q = w then k (skF L (nmJ L q)) else none
def decF (W : WP) (L : List UInt8) (q : Nat) (k : Int → Nat → RF) : RF := match W.dec (numW L q) with
  | none => none
  | some n => k n (skF L (dgJ L (numAt L q)))
def nodeK (k : Int) : FN := ⟨k, ByteArray.empty, 0, [], [], []⟩
def nodeR (k : Int) (kids : List Int) : FN := ⟨k, ByteArray.empty, 0, [], [], kids⟩
def nodeC (v : VN) : FN := ⟨5, ByteArray.empty, 0, [v], [], []⟩
def nodeM (names : List ByteArray) (kids : List Int) : FN := ⟨9, ByteArray.empty, 0, [], names, kids⟩
def placeF (W : WP) (L : List UInt8) (fs : List FN) (p : Nat) : RF :=
  if isAt L p 93 = true then addF W (nodeK 4) fs (skF L (p + 1))
  else decF W L p fun n q => mustF L q 93 fun q => addF W ⟨3, ByteArray.empty, n, [], [], []⟩ fs q
def pointF (W : WP) (L : List UInt8) (fs : List FN) (p : Nat) : RF :=
  if letAt L p = true then addF W ⟨2, txt (nameF L p), 0, [], [], []⟩ fs (skF L (nmJ L p))
  else if isAt L p 91 = true then placeF W L fs (skF L (p + 1))
  else addF W (nodeK 1) fs (skF L p)
abbrev RD := Int → List FN → Nat → RF
def aroundF (R : RD) (L : List UInt8) (c : Nat) (fs : List FN) (p : Nat) : RF := bindF (R 1 fs p) fun n fs q => mustF L q c fun q => some (n, fs, q)
def listF (W : WP) (R : RD) (L : List UInt8) (fs : List FN) (p : Nat) : RF :=
  if isAt L p 93 = true then addF W (nodeK 8) fs (skF L (p + 1))
  else bindF (R 1 fs p) fun n fs q => mustF L q 93 fun q => addF W (nodeR 8 [n]) fs q
def rowsF (W : WP) (R : RD) (L : List UInt8) : Nat → List ByteArray → List Int → List FN → Nat → RF
  | 0, _, _, _, _ => none
  | g + 1, names, kids, fs, p =>
    mustF L (skF L (W.nam L p)) 58 fun q => bindF (R 3 fs q) fun n fs q =>
      if isAt L q 125 = true then addF W (nodeM (names ++ [txt ((L.drop p).take (W.nam L p - p))]) (kids ++ [n])) fs (skF L (q + 1))
      else mustF L q 44 fun q => rowsF W R L g (names ++ [txt ((L.drop p).take (W.nam L p - p))]) (kids ++ [n]) fs q
def mapF (W : WP) (R : RD) (L : List UInt8) (fs : List FN) (p : Nat) : RF :=
  if isAt L p 125 = true then addF W (nodeK 9) fs (skF L (p + 1)) else rowsF W R L (L.length + 1) [] [] fs p
def selF (W : WP) (R : RD) (L : List UInt8) (fs : List FN) (p : Nat) : RF :=
  mustF L p 40 fun q => bindF (aroundF R L 41 fs q) fun n fs q => addF W (nodeR 10 [n]) fs q
def ifF (W : WP) (R : RD) (L : List UInt8) (fs : List FN) (p : Nat) : RF :=
  bindF (R 1 fs p) fun a fs q => wordF L [116, 104, 101, 110] q fun q =>
  bindF (R 1 fs q) fun b fs q => wordF L [101, 108, 115, 101] q fun q =>
  bindF (R 1 fs q) fun c fs q => wordF L [101, 110, 100] q fun q => addF W (nodeR 22 [a, b, c]) fs q
def namedF (W : WP) (R : RD) (L : List UInt8) (w : List UInt8) (fs : List FN) (p : Nat) : RF :=
  if w = nullW then addF W (nodeC ⟨1, 0, ByteArray.empty, [], []⟩) fs p
  else if w = trueW then addF W (nodeC ⟨2, 1, ByteArray.empty, [], []⟩) fs p
  else if w = falseW then addF W (nodeC ⟨2, 0, ByteArray.empty, [], []⟩) fs p
  else if w = [115, 101, 108, 101, 99, 116] then selF W R L fs p
  else if w = [105, 102] then ifF W R L fs p
  else if w = [108, 101, 110, 103, 116, 104] then addF W (nodeK 11) fs p
  else if w = [107, 101, 121, 115] then addF W (nodeK 12) fs p
  else if w = [110, 111, 116] then addF W (nodeK 13) fs p
  else if w = [101, 109, 112, 116, 121] then addF W (nodeK 14) fs p
  else none
def wholeF (W : WP) (R : RD) (L : List UInt8) (fs : List FN) (p : Nat) : RF :=
  if isAt L p 46 = true then pointF W L fs (p + 1)
  else if isAt L p 40 = true then aroundF R L 41 fs (skF L (p + 1))
  else if isAt L p 91 = true then listF W R L fs (skF L (p + 1))
  else if isAt L p 123 = true then mapF W R L fs (skF L (p + 1))
  else if isAt L p 34 = true then (match W.tex L (p + 1) with
    | none => none
    | some (t, q) => addF W (nodeC ⟨4, 0, txt t, [], []⟩) fs (skF L q))
  else if letAt L p = true then namedF W R L (nameF L p) fs (skF L (nmJ L p))
  else if isAt L p 45 = true ∨ digAt L p = true then decF W L p fun n q => addF W (nodeC ⟨3, n, ByteArray.empty, [], []⟩) fs q
  else none
def jntF (L : List UInt8) (p : Nat) : Option (Int × Nat) :=
  if isAt L p 124 = true then some (6, 1)
  else if isAt L p 44 = true then some (7, 1)
  else if isAt L p 47 = true ∧ isAt L (p + 1) 47 = true then some (21, 2)
  else if isAt L p 61 = true ∧ isAt L (p + 1) 61 = true then some (17, 2)
  else if isAt L p 33 = true ∧ isAt L (p + 1) 61 = true then some (18, 2)
  else if isAt L p 60 = true ∧ isAt L (p + 1) 61 = true then some (20, 2)
  else if isAt L p 60 = true then some (19, 1)
  else if isAt L p 43 = true then some (15, 1)
  else if isAt L p 45 = true then some (16, 1)
  else if isAt L p 63 = true then some (23, 1)
  else none
def lftK (k : Int) : Int := if k = 23 then 6 else lftF k
def eatF (R : RD) (L : List UInt8) (W : WP) (k : Int) (len : Nat) (n : Int) (fs : List FN) (p : Nat) : RF :=
  if k = 23 then addF W (nodeR 23 [n]) fs (skF L (p + len))
  else bindF (R (rgtF k) fs (skF L (p + len))) fun b fs q => addF W (nodeR k [n, b]) fs q
def loopF (R : RD) (L : List UInt8) (W : WP) : Nat → Int → Int → Int → List FN → Nat → RF
  | 0, _, _, _, _, _ => none
  | g + 1, least, bind, n, fs, p => match jntF L p with
    | none => some (n, fs, p)
    | some (k, len) => if levF k < least then some (n, fs, p) else if bind < lftK k then none
      else bindF (eatF R L W k len n fs p) fun n fs q => loopF R L W g least (levF k) n fs q
def readP (W : WP) (L : List UInt8) : Nat → RD
  | 0, _, _, _ => none
  | f + 1, least, fs, p => bindF (wholeF W (readP W L f) L fs p) fun n fs q => loopF (readP W L f) L W (L.length + 1) least 7 n fs q
def sgnS (S : RD) (L : List UInt8) (W : WP) (l : Nat) : Nat → Int → List FN → Nat → RF
  | 0, _, _, _ => none
  | g + 1, n, fs, p => match jntF L p with
    | none => some (n, fs, p)
    | some (k, len) => if levF k = (l : Int) then bindF (eatF S L W k len n fs p) fun n fs q => if l = 6 ∨ l = 5 ∨ l = 2 then sgnS S L W l g n fs q else some (n, fs, q)
      else some (n, fs, p)
def lvS (S : RD) (L : List UInt8) (W : WP) : Nat → List FN → Nat → RF
  | 0, fs, p => bindF (wholeF W S L fs p) (sgnS S L W 6 (L.length + 1))
  | d + 1, fs, p => bindF (lvS S L W d fs p) (sgnS S L W (5 - d) (L.length + 1))
end Go.Proofs.YtcidjhnogldgmaaGreatDoor

namespace Go.Proofs.YtcidjhnogldgmaaGreatDoor
open Go.RowKit
set_option linter.unusedSimpArgs false
set_option linter.unusedVariables false
structure Went (L : List UInt8) (fs : List FN) (p : Nat) (n : Int) (fs' : List FN) (q : Nat) : Prop where
  lt : p < q
  le : q ≤ L.length
  nb : skF L q = q
  pre : ∃ more, fs' = fs ++ more
  cnt : fs'.length + p ≤ fs.length + q
  n0 : 0 ≤ n
  n1 : n < (fs'.length : Int)
def GoesF (L : List UInt8) (R : RD) : Prop := ∀ least fs p n fs' q, p ≤ L.length → R least fs p = some (n, fs', q) → Went L fs p n fs' q
structure WGood (W : WP) (L : List UInt8) : Prop where
  nam : ∀ p, p ≤ L.length → p ≤ W.nam L p ∧ W.nam L p ≤ L.length
  tex : ∀ p t q, p ≤ L.length → W.tex L p = some (t, q) → p ≤ q ∧ q ≤ L.length
theorem bindF_inv {a : RF} {k : Int → List FN → Nat → RF} {n : Int} {fs : List FN} {q : Nat} (h : bindF a k = some (n, fs, q)) : ∃ n1 fs1 q1, a = some (n1, fs1, q1) ∧ k n1 fs1 q1 = some (n, fs, q) := by
  cases a with
  | none => cases h
  | some r => obtain ⟨n1, fs1, q1⟩ := r; exact ⟨n1, fs1, q1, rfl, h⟩
theorem mustF_inv {L : List UInt8} {p c : Nat} {k : Nat → RF} {n : Int} {fs : List FN} {q : Nat} (h : mustF L p c k = some (n, fs, q)) : isAt L p c = true ∧ k (skF L (p + 1)) = some (n, fs, q) := by
  unfold mustF at h
  split at h
  · rename_i e; exact ⟨e, h⟩
  · cases h
theorem wordF_inv {L : List UInt8} {w : List UInt8} {p : Nat} {k : Nat → RF} {n : Int} {fs : List FN} {q : Nat} (h : wordF L w p k = some (n, fs, q)) : nameF L p = w ∧ k (skF L (nmJ L p)) = some (n, fs, q) := by
  unfold wordF at h
  split at h
  · rename_i e; exact ⟨e, h⟩
  · cases h
theorem decF_inv {W : WP} {L : List UInt8} {p : Nat} {k : Int → Nat → RF} {n : Int} {fs : List FN} {q : Nat} (h : decF W L p k = some (n, fs, q)) : ∃ v, W.dec (numW L p) = some v ∧ k v (skF L (dgJ L (numAt L p))) = some (n, fs, q) := by
  unfold decF at h
  split at h
  · cases h
  · rename_i v e; exact ⟨v, e, h⟩
theorem addF_inv {W : WP} {x : FN} {fs : List FN} {p : Nat} {n : Int} {fs' : List FN} {q : Nat} (h : addF W x fs p = some (n, fs', q)) : n = (fs.length : Int) ∧ fs' = fs ++ [x] ∧ q = p := by
  unfold addF at h
  split at h
  · cases h
  · simp only [Option.some.injEq, Prod.mk.injEq] at h
    exact ⟨h.1.symm, h.2.1.symm, h.2.2.symm⟩
theorem skF_ge (L : List UInt8) (p : Nat) : p ≤ skF L p := runJ_ge _ _ _
theorem skF_le {L : List UInt8} {p : Nat} (h : p ≤ L.length) : skF L p ≤ L.length := runJ_le h
theorem nm_le {L : List UInt8} {p : Nat} (h : p ≤ L.length) : nmJ L p ≤ L.length := runJ_le h
theorem skF_idem (L : List UInt8) (p : Nat) : skF L (skF L p) = skF L p := runJ_idem _ _ _
theorem went_add {W : WP} {L : List UInt8} {x : FN} {fs fs1 : List FN} {p q : Nat} {n : Int} {fs' : List FN} {q' : Nat} (h : addF W x fs1 (skF L q) = some (n, fs', q')) (hp : ∃ more, fs1 = fs ++ more) (hc : fs1.length + 1 + p ≤ fs.length + q) (hl : p < q) (hq : q ≤ L.length) : Went L fs p n fs' q' := by
  obtain ⟨rfl, rfl, rfl⟩ := addF_inv h
  obtain ⟨more, rfl⟩ := hp
  have h1 := skF_ge L q
  have h2 := skF_le hq
  rw [List.length_append] at hc
  refine ⟨by omega, h2, skF_idem L q, ⟨more ++ [x], by simp⟩, ?_, by omega, ?_⟩
  · simp only [List.length_append, List.length_singleton]; omega
  · simp only [List.length_append, List.length_singleton]; omega
theorem place_went {W : WP} {L : List UInt8} {fs : List FN} {p0 p : Nat} {n : Int} {fs' : List FN} {q : Nat} (hp0 : p0 < p) (hp : p ≤ L.length) (h : placeF W L fs p = some (n, fs', q)) : Went L fs p0 n fs' q := by
  unfold placeF at h
  split at h
  · rename_i e
    have := (isAt_yes.1 e).1
    exact went_add h ⟨[], by simp⟩ (by omega) (by omega) (by omega)
  · obtain ⟨v, -, h⟩ := decF_inv h
    obtain ⟨e, h⟩ := mustF_inv h
    have h1 := (isAt_yes.1 e).1
    have h2 := skF_ge L (dgJ L (numAt L p))
    have h3 : numAt L p ≤ dgJ L (numAt L p) := runJ_ge _ _ _
    have h4 := numAt_ge L p
    exact went_add h ⟨[], by simp⟩ (by omega) (by omega) (by omega)
theorem nmJ_lt {L : List UInt8} {p : Nat} (h : letAt L p = true) : p < nmJ L p ∧ p < L.length := by
  unfold letAt at h
  simp only [Bool.and_eq_true, decide_eq_true_eq] at h
  have h1 : nmC (byAt L p) = true := by unfold nmC; rw [h.2]; rfl
  have h2 : nmJ L p = nmJ L (p + 1) := runJ_yes h.1 h1
  have h3 : p + 1 ≤ nmJ L (p + 1) := runJ_ge _ _ _
  exact ⟨by omega, h.1⟩
theorem point_went {W : WP} {L : List UInt8} {fs : List FN} {p : Nat} {n : Int} {fs' : List FN} {q : Nat} (hp : p < L.length) (h : pointF W L fs (p + 1) = some (n, fs', q)) : Went L fs p n fs' q := by
  unfold pointF at h
  split at h
  · rename_i e
    have h1 := nmJ_lt e
    exact went_add h ⟨[], by simp⟩ (by omega) (by omega) (runJ_le (by omega))
  · split at h
    · rename_i e
      have h1 := (isAt_yes.1 e).1
      have h2 := skF_ge L (p + 1 + 1)
      exact place_went (by omega) (skF_le (by omega)) h
    · exact went_add h ⟨[], by simp⟩ (by omega) (by omega) (by omega)
theorem around_went {R : RD} {L : List UInt8} (HR : GoesF L R) {c : Nat} {fs : List FN} {p0 p : Nat} {n : Int} {fs' : List FN} {q : Nat} (hp0 : p0 < p) (hp : p ≤ L.length) (h : aroundF R L c fs p = some (n, fs', q)) : Went L fs p0 n fs' q ∧ fs'.length + 1 + p0 ≤ fs.length + q := by
  unfold aroundF at h
  obtain ⟨n1, fs1, q1, h1, h2⟩ := bindF_inv h
  have w1 := HR _ _ _ _ _ _ hp h1
  obtain ⟨e, h3⟩ := mustF_inv h2
  simp only [Option.some.injEq, Prod.mk.injEq] at h3
  obtain ⟨rfl, rfl, rfl⟩ := h3
  have e1 := (isAt_yes.1 e).1
  have e2 := skF_ge L (q1 + 1)
  have := w1.lt
  have := w1.cnt
  exact ⟨⟨by omega, skF_le (by omega), skF_idem _ _, w1.pre, by omega, w1.n0, w1.n1⟩, by omega⟩
theorem pre_trans {a b c : List FN} (h1 : ∃ m, b = a ++ m) (h2 : ∃ m, c = b ++ m) : ∃ m, c = a ++ m := by
  obtain ⟨m1, rfl⟩ := h1; obtain ⟨m2, rfl⟩ := h2; exact ⟨m1 ++ m2, by simp⟩
theorem list_went {W : WP} {R : RD} {L : List UInt8} (HR : GoesF L R) {fs : List FN} {p0 p : Nat} {n : Int} {fs' : List FN} {q : Nat} (hp0 : p0 < p) (hp : p ≤ L.length) (h : listF W R L fs p = some (n, fs', q)) : Went L fs p0 n fs' q := by
  unfold listF at h
  split at h
  · rename_i e
    have := (isAt_yes.1 e).1
    exact went_add h ⟨[], by simp⟩ (by omega) (by omega) (by omega)
  · obtain ⟨n1, fs1, q1, h1, h2⟩ := bindF_inv h
    have w1 := HR _ _ _ _ _ _ hp h1
    obtain ⟨e, h3⟩ := mustF_inv h2
    have e1 := (isAt_yes.1 e).1
    have := w1.lt
    have := w1.cnt
    exact went_add h3 w1.pre (by omega) (by omega) (by omega)
theorem rows_went {W : WP} {R : RD} {L : List UInt8} (HR : GoesF L R) (HW : WGood W L) : ∀ g names kids fs p p0 n fs' q, p0 < p → p ≤ L.length → rowsF W R L g names kids fs p = some (n, fs', q) → Went L fs p0 n fs' q := by
  intro g
  induction g with
  | zero => intro names kids fs p p0 n fs' q _ _ h; cases h
  | succ g ih =>
    intro names kids fs p p0 n fs' q hp0 hp h
    rw [rowsF] at h
    obtain ⟨e, h⟩ := mustF_inv h
    obtain ⟨n1, fs1, q1, h1, h2⟩ := bindF_inv h
    have e1 := (isAt_yes.1 e).1
    have e2 := skF_ge L (W.nam L p)
    have e3 := (HW.nam p hp).1
    have e4 := skF_ge L (skF L (W.nam L p) + 1)
    have w1 := HR _ _ _ _ _ _ (skF_le (by omega)) h1
    have := w1.lt
    have := w1.cnt
    have := w1.le
    split at h2
    · rename_i e5
      have e6 := (isAt_yes.1 e5).1
      exact went_add h2 w1.pre (by omega) (by omega) (by omega)
    · obtain ⟨e5, h3⟩ := mustF_inv h2
      have e6 := (isAt_yes.1 e5).1
      have e7 := skF_ge L (q1 + 1)
      have w2 := ih _ _ _ _ q1 _ _ _ (by omega) (skF_le (by omega)) h3
      have := w2.lt
      have := w2.cnt
      exact ⟨by omega, w2.le, w2.nb, pre_trans w1.pre w2.pre, by omega, w2.n0, w2.n1⟩
theorem map_went {W : WP} {R : RD} {L : List UInt8} (HR : GoesF L R) (HW : WGood W L) {fs : List FN} {p0 p : Nat} {n : Int} {fs' : List FN} {q : Nat} (hp0 : p0 < p) (hp : p ≤ L.length) (h : mapF W R L fs p = some (n, fs', q)) : Went L fs p0 n fs' q := by
  unfold mapF at h
  split at h
  · rename_i e
    have := (isAt_yes.1 e).1
    exact went_add h ⟨[], by simp⟩ (by omega) (by omega) (by omega)
  · exact rows_went HR HW _ _ _ _ _ _ _ _ _ hp0 hp h
theorem sel_went {W : WP} {R : RD} {L : List UInt8} (HR : GoesF L R) {fs : List FN} {p0 p : Nat} {n : Int} {fs' : List FN} {q : Nat} (hp0 : p0 < p) (hp : p ≤ L.length) (h : selF W R L fs p = some (n, fs', q)) : Went L fs p0 n fs' q := by
  unfold selF at h
  obtain ⟨e, h⟩ := mustF_inv h
  have e1 := (isAt_yes.1 e).1
  have e2 := skF_ge L (p + 1)
  obtain ⟨n1, fs1, q1, h1, h2⟩ := bindF_inv h
  obtain ⟨w1, w2⟩ := around_went HR (p0 := p0) (by omega) (skF_le (by omega)) h1
  obtain ⟨rfl, rfl, rfl⟩ := addF_inv h2
  have := w1.lt
  refine ⟨by omega, w1.le, w1.nb, pre_trans w1.pre ⟨_, rfl⟩, ?_, by omega, ?_⟩
  · simp only [List.length_append, List.length_singleton]; omega
  · simp only [List.length_append, List.length_singleton]; omega
theorem if_went {W : WP} {R : RD} {L : List UInt8} (HR : GoesF L R) {fs : List FN} {p0 p : Nat} {n : Int} {fs' : List FN} {q : Nat} (hp0 : p0 < p) (hp : p ≤ L.length) (h : ifF W R L fs p = some (n, fs', q)) : Went L fs p0 n fs' q := by
  unfold ifF at h
  obtain ⟨n1, fs1, q1, h1, h⟩ := bindF_inv h
  have w1 := HR _ _ _ _ _ _ hp h1
  obtain ⟨-, h⟩ := wordF_inv h
  have a1 : q1 ≤ nmJ L q1 := runJ_ge _ _ _
  have a2 := skF_ge L (nmJ L q1)
  obtain ⟨n2, fs2, q2, h2, h⟩ := bindF_inv h
  have w2 := HR _ _ _ _ _ _ (skF_le (nm_le w1.le)) h2
  obtain ⟨-, h⟩ := wordF_inv h
  have b1 : q2 ≤ nmJ L q2 := runJ_ge _ _ _
  have b2 := skF_ge L (nmJ L q2)
  obtain ⟨n3, fs3, q3, h3, h⟩ := bindF_inv h
  have w3 := HR _ _ _ _ _ _ (skF_le (nm_le w2.le)) h3
  obtain ⟨-, h⟩ := wordF_inv h
  have c1 : q3 ≤ nmJ L q3 := runJ_ge _ _ _
  have := w1.lt; have := w1.cnt
  have := w2.lt; have := w2.cnt
  have := w3.lt; have := w3.cnt
  exact went_add h (pre_trans w1.pre (pre_trans w2.pre w3.pre)) (by omega) (by omega) (nm_le w3.le)
theorem named_went {W : WP} {R : RD} {L : List UInt8} (HR : GoesF L R) {w : List UInt8} {fs : List FN} {p0 p : Nat} {n : Int} {fs' : List FN} {q : Nat} (hp0 : p0 < p) (hp : p ≤ L.length) (h : namedF W R L w fs (skF L p) = some (n, fs', q)) : Went L fs p0 n fs' q := by
  have hs := skF_ge L p
  unfold namedF at h
  split at h
  · exact went_add h ⟨[], by simp⟩ (by omega) hp0 hp
  split at h
  · exact went_add h ⟨[], by simp⟩ (by omega) hp0 hp
  split at h
  · exact went_add h ⟨[], by simp⟩ (by omega) hp0 hp
  split at h
  · exact sel_went HR (by omega) (skF_le hp) h
  split at h
  · exact if_went HR (by omega) (skF_le hp) h
  split at h
  · exact went_add h ⟨[], by simp⟩ (by omega) hp0 hp
  split at h
  · exact went_add h ⟨[], by simp⟩ (by omega) hp0 hp
  split at h
  · exact went_add h ⟨[], by simp⟩ (by omega) hp0 hp
  split at h
  · exact went_add h ⟨[], by simp⟩ (by omega) hp0 hp
  · cases h
theorem num_lt {L : List UInt8} {p : Nat} (h : isAt L p 45 = true ∨ digAt L p = true) : p < dgJ L (numAt L p) ∧ p < L.length := by
  rcases h with h | h
  · have h1 := (isAt_yes.1 h).1
    have h2 : numAt L p = p + 1 := by unfold numAt; rw [if_pos h]
    rw [h2]
    have : p + 1 ≤ dgJ L (p + 1) := runJ_ge _ _ _
    exact ⟨by omega, h1⟩
  · unfold digAt at h
    simp only [Bool.and_eq_true, decide_eq_true_eq] at h
    have h3 : ¬ byAt L p = 45 := fun e => by rw [e] at h; exact absurd h.2 (by decide)
    have h2 : numAt L p = p := by unfold numAt; rw [if_neg (fun e => h3 (isAt_yes.1 e).2)]
    rw [h2]
    have h4 : digC (byAt L p) = true := by have := h.2; unfold digN at this; unfold digC; simpa using this
    have h5 : dgJ L p = dgJ L (p + 1) := runJ_yes h.1 h4
    have : p + 1 ≤ dgJ L (p + 1) := runJ_ge _ _ _
    exact ⟨by omega, h.1⟩
theorem whole_went {W : WP} {R : RD} {L : List UInt8} (HR : GoesF L R) (HW : WGood W L) {fs : List FN} {p : Nat} {n : Int} {fs' : List FN} {q : Nat} (hp : p ≤ L.length) (h : wholeF W R L fs p = some (n, fs', q)) : Went L fs p n fs' q := by
  have hs := skF_ge L (p + 1)
  unfold wholeF at h
  split at h
  · rename_i e; exact point_went (isAt_yes.1 e).1 h
  split at h
  · rename_i e; have := (isAt_yes.1 e).1; exact (around_went HR (by omega) (skF_le (by omega)) h).1
  split at h
  · rename_i e; have := (isAt_yes.1 e).1; exact list_went HR (by omega) (skF_le (by omega)) h
  split at h
  · rename_i e; have := (isAt_yes.1 e).1; exact map_went HR HW (by omega) (skF_le (by omega)) h
  split at h
  · rename_i e
    have h1 := (isAt_yes.1 e).1
    split at h
    · cases h
    · rename_i t q1 et
      have h2 := HW.tex _ _ _ (by omega) et
      exact went_add h ⟨[], by simp⟩ (by omega) (by omega) (by omega)
  split at h
  · rename_i e
    have h1 := nmJ_lt e
    exact named_went HR h1.1 (runJ_le hp) h
  split at h
  · rename_i e
    have h1 := num_lt e
    obtain ⟨v, -, h⟩ := decF_inv h
    exact went_add h ⟨[], by simp⟩ (by omega) h1.1 (runJ_le (numAt_le hp))
  · cases h
theorem jnt_says {L : List UInt8} {p : Nat} {k : Int} {len : Nat} (h : jntF L p = some (k, len)) : 1 ≤ len ∧ p + len ≤ L.length ∧ 1 ≤ levF k ∧ levF k ≤ 6 := by
  unfold jntF at h
  repeat' split at h
  all_goals first
    | (cases h; done)
    | (rename_i e; simp only [Option.some.injEq, Prod.mk.injEq] at h; obtain ⟨rfl, rfl⟩ := h
       first
         | (have h1 := (isAt_yes.1 e.2).1; exact ⟨by omega, by omega, by decide, by decide⟩)
         | (have h1 := (isAt_yes.1 e).1; exact ⟨by omega, by omega, by decide, by decide⟩))
theorem eat_went {W : WP} {R : RD} {L : List UInt8} (HR : GoesF L R) {k : Int} {len : Nat} {n : Int} {fs : List FN} {p : Nat} {n' : Int} {fs' : List FN} {q : Nat} (hl : 1 ≤ len) (hp : p + len ≤ L.length) (h : eatF R L W k len n fs p = some (n', fs', q)) : Went L fs p n' fs' q := by
  have hs := skF_ge L (p + len)
  unfold eatF at h
  split at h
  · exact went_add h ⟨[], by simp⟩ (by omega) (by omega) hp
  · obtain ⟨n1, fs1, q1, h1, h2⟩ := bindF_inv h
    have w1 := HR _ _ _ _ _ _ (skF_le hp) h1
    obtain ⟨rfl, rfl, rfl⟩ := addF_inv h2
    have := w1.lt; have := w1.cnt
    refine ⟨by omega, w1.le, w1.nb, pre_trans w1.pre ⟨_, rfl⟩, ?_, by omega, ?_⟩
    · simp only [List.length_append, List.length_singleton]; omega
    · simp only [List.length_append, List.length_singleton]; omega
structure Went0 (L : List UInt8) (fs : List FN) (p : Nat) (n : Int) (fs' : List FN) (q : Nat) : Prop where
  lt : p ≤ q
  le : q ≤ L.length
  nb : skF L q = q
  pre : ∃ more, fs' = fs ++ more
  cnt : fs'.length + p ≤ fs.length + q
  n0 : 0 ≤ n
  n1 : n < (fs'.length : Int)
theorem Went.on {L : List UInt8} {fs : List FN} {p : Nat} {n : Int} {fs' : List FN} {q : Nat} {n2 : Int} {fs2 : List FN} {q2 : Nat} (h : Went L fs p n fs' q) (h2 : Went0 L fs' q n2 fs2 q2) : Went L fs p n2 fs2 q2 := by
  have := h.lt; have := h.cnt; have := h2.lt; have := h2.cnt
  exact ⟨by omega, h2.le, h2.nb, pre_trans h.pre h2.pre, by omega, h2.n0, h2.n1⟩
theorem Went.wide {L : List UInt8} {fs : List FN} {p : Nat} {n : Int} {fs' : List FN} {q : Nat} (h : Went L fs p n fs' q) : Went0 L fs p n fs' q := ⟨Nat.le_of_lt h.lt, h.le, h.nb, h.pre, h.cnt, h.n0, h.n1⟩
theorem went0_refl {L : List UInt8} {fs : List FN} {p : Nat} {n : Int} (hp : p ≤ L.length) (hnb : skF L p = p) (h0 : 0 ≤ n) (h1 : n < (fs.length : Int)) : Went0 L fs p n fs p := ⟨Nat.le_refl _, hp, hnb, ⟨[], by simp⟩, Nat.le_refl _, h0, h1⟩
theorem loopF_went {W : WP} {R : RD} {L : List UInt8} (HR : GoesF L R) (least : Int) : ∀ g bind n fs p n' fs' q, p ≤ L.length → skF L p = p → 0 ≤ n → n < (fs.length : Int) → loopF R L W g least bind n fs p = some (n', fs', q) → Went0 L fs p n' fs' q := by
  intro g
  induction g with
  | zero => intro bind n fs p n' fs' q _ _ _ _ h; cases h
  | succ g ih =>
    intro bind n fs p n' fs' q hp hnb hn0 hn1 h
    rw [loopF] at h
    cases hj : jntF L p with
    | none =>
      simp only [hj, Option.some.injEq, Prod.mk.injEq] at h
      obtain ⟨rfl, rfl, rfl⟩ := h
      exact went0_refl hp hnb hn0 hn1
    | some kl =>
      obtain ⟨k, len⟩ := kl
      obtain ⟨j1, j2, -, -⟩ := jnt_says hj
      simp only [hj] at h
      split at h
      · simp only [Option.some.injEq, Prod.mk.injEq] at h
        obtain ⟨rfl, rfl, rfl⟩ := h
        exact went0_refl hp hnb hn0 hn1
      split at h
      · cases h
      · obtain ⟨n1, fs1, q1, h1, h2⟩ := bindF_inv h
        have w1 := eat_went HR j1 j2 h1
        exact (w1.on (ih _ _ _ _ _ _ _ w1.le w1.nb w1.n0 w1.n1 h2)).wide
theorem sgnS_went {W : WP} {R : RD} {L : List UInt8} (HR : GoesF L R) (l : Nat) : ∀ g n fs p n' fs' q, p ≤ L.length → skF L p = p → 0 ≤ n → n < (fs.length : Int) → sgnS R L W l g n fs p = some (n', fs', q) → Went0 L fs p n' fs' q := by
  intro g
  induction g with
  | zero => intro n fs p n' fs' q _ _ _ _ h; cases h
  | succ g ih =>
    intro n fs p n' fs' q hp hnb hn0 hn1 h
    rw [sgnS] at h
    cases hj : jntF L p with
    | none =>
      simp only [hj, Option.some.injEq, Prod.mk.injEq] at h
      obtain ⟨rfl, rfl, rfl⟩ := h
      exact went0_refl hp hnb hn0 hn1
    | some kl =>
      obtain ⟨k, len⟩ := kl
      obtain ⟨j1, j2, -, -⟩ := jnt_says hj
      simp only [hj] at h
      split at h
      · obtain ⟨n1, fs1, q1, h1, h2⟩ := bindF_inv h
        have w1 := eat_went HR j1 j2 h1
        split at h2
        · exact (w1.on (ih _ _ _ _ _ _ w1.le w1.nb w1.n0 w1.n1 h2)).wide
        · simp only [Option.some.injEq, Prod.mk.injEq] at h2
          obtain ⟨rfl, rfl, rfl⟩ := h2
          exact w1.wide
      · simp only [Option.some.injEq, Prod.mk.injEq] at h
        obtain ⟨rfl, rfl, rfl⟩ := h
        exact went0_refl hp hnb hn0 hn1
theorem lvS_went {W : WP} {R : RD} {L : List UInt8} (HR : GoesF L R) (HW : WGood W L) : ∀ d fs p n fs' q, p ≤ L.length → lvS R L W d fs p = some (n, fs', q) → Went L fs p n fs' q := by
  intro d
  induction d with
  | zero =>
    intro fs p n fs' q hp h
    rw [lvS] at h
    obtain ⟨n1, fs1, q1, h1, h2⟩ := bindF_inv h
    have w1 := whole_went HR HW hp h1
    exact w1.on (sgnS_went HR 6 _ _ _ _ _ _ _ w1.le w1.nb w1.n0 w1.n1 h2)
  | succ d ih =>
    intro fs p n fs' q hp h
    rw [lvS] at h
    obtain ⟨n1, fs1, q1, h1, h2⟩ := bindF_inv h
    have w1 := ih _ _ _ _ _ hp h1
    exact w1.on (sgnS_went HR _ _ _ _ _ _ _ _ w1.le w1.nb w1.n0 w1.n1 h2)
theorem readP_goes {W : WP} {L : List UInt8} (HW : WGood W L) : ∀ f, GoesF L (readP W L f) := by
  intro f
  induction f with
  | zero => intro least fs p n fs' q _ h; cases h
  | succ f ih =>
    intro least fs p n fs' q hp h
    rw [readP] at h
    obtain ⟨n1, fs1, q1, h1, h2⟩ := bindF_inv h
    have w1 := whole_went ih HW hp h1
    exact w1.on (loopF_went ih least _ _ _ _ _ _ _ _ w1.le w1.nb w1.n0 w1.n1 h2)
end Go.Proofs.YtcidjhnogldgmaaGreatDoor

namespace Go.Proofs.YtcidjhnogldgmaaGreatDoor
open Go.RowKit
set_option linter.unusedSimpArgs false
set_option linter.unusedVariables false
def DoomF (fs : List FN) : Prop := ∀ more, okF (fs ++ more) = false
def PreF (fs : List FN) (r : RF) : Prop := ∀ n fs' q, r = some (n, fs', q) → ∃ more, fs' = fs ++ more
def cmpAt (L : List UInt8) (q : Nat) : Prop := ∃ k len, jntF L q = some (k, len) ∧ levF k = 4
def stopAt (L : List UInt8) (least : Int) (q : Nat) : Prop := ∀ k len, jntF L q = some (k, len) → levF k < least
def RelX (L : List UInt8) (least : Int) (a b : RF) : Prop := match b with
  | some (n, fs, q) => (a = some (n, fs, q) ∧ stopAt L least q) ∨ (a = none ∧ least ≤ 4 ∧ cmpAt L q)
  | none => ∀ n fs q, a = some (n, fs, q) → DoomF fs
def RelAll (L : List UInt8) (R S : RD) : Prop := ∀ least fs p, 1 ≤ least → least ≤ 6 → p ≤ L.length → RelX L least (R least fs p) (S least fs p)
def PreR (R : RD) : Prop := ∀ least fs p, PreF fs (R least fs p)
structure WRel (W W' : WP) (L : List UInt8) : Prop where
  cap : W.cap = false
  cap' : W'.cap = true
  dec : ∀ l v, W'.dec l = some v → W.dec l = some v
  dec' : ∀ l v, W'.dec l = none → W.dec l = some v → v < -1000000000000000 ∨ 1000000000000000 < v
  nam : ∀ p, W.nam L p = nmJ L p
  nam' : ∀ p, W'.nam L p = if letAt L p = true then nmJ L p else p
  tex : ∀ p r, W'.tex L p = some r → W.tex L p = some r
  tex' : ∀ p t q, W'.tex L p = none → W.tex L p = some (t, q) → 60 < t.length
end Go.Proofs.YtcidjhnogldgmaaGreatDoor

namespace Go.Proofs.YtcidjhnogldgmaaGreatDoor
open Go.RowKit
set_option linter.unusedSimpArgs false
set_option linter.unusedVariables false
set_option linter.unusedSectionVars false
section
variable {W W' : WP} {L : List UInt8} (H : WRel W W' L) {R S : RD} (HP : PreR R) (HR : RelAll L R S) (HG : GoesF L S)
include H
include HP HR HG
end
end Go.Proofs.YtcidjhnogldgmaaGreatDoor

namespace Go.Proofs.YtcidjhnogldgmaaGreatDoor
open Go.RowKit
set_option linter.unusedSimpArgs false
set_option linter.unusedVariables false
set_option linter.unusedSectionVars false
section
variable {W W' : WP} {L : List UInt8} (H : WRel W W' L) {R S : RD} (HP : PreR R) (HR : RelAll L R S) (HG : GoesF L S)
include H HP HR HG
end
end Go.Proofs.YtcidjhnogldgmaaGreatDoor

namespace Go.Proofs.YtcidjhnogldgmaaGreatDoor
open Go.RowKit
set_option linter.unusedSimpArgs false
set_option linter.unusedVariables false
set_option linter.unusedSectionVars false
section
variable {S : RD} {L : List UInt8} {W : WP}
variable (HG : GoesF L S)
include HG
end
theorem jnt_kinds {L : List UInt8} {p : Nat} {k : Int} {len : Nat} (h : jntF L p = some (k, len)) : k = 6 ∨ k = 7 ∨ k = 21 ∨ k = 17 ∨ k = 18 ∨ k = 20 ∨ k = 19 ∨ k = 15 ∨ k = 16 ∨ k = 23 := by
  unfold jntF at h
  repeat' split at h
  all_goals first
    | (cases h; done)
    | (simp only [Option.some.injEq, Prod.mk.injEq] at h; obtain ⟨rfl, rfl⟩ := h; decide)
section
variable {W W' : WP} {L : List UInt8} (H : WRel W W' L) {R S : RD} (HP : PreR R) (HR : RelAll L R S) (HG : GoesF L S)
include H HP HR HG
end
end Go.Proofs.YtcidjhnogldgmaaGreatDoor

namespace Go.Proofs.YtcidjhnogldgmaaGreatDoor
open Go.RowKit
set_option linter.unusedSimpArgs false
set_option linter.unusedVariables false
def decW (l : List UInt8) : Option Int := match Lib.parseIntB 64 l with
  | .ok v => if Lib.itoa v = l then some v else none
  | _ => none
def WPr : WP := ⟨decW, fun L p => nmJ L p, fun L p => txJ L p, false⟩
theorem wgoodP (L : List UInt8) (hx : ∀ p t q, p ≤ L.length → txJ L p = some (t, q) → p ≤ q ∧ q ≤ L.length) : WGood WPr L where
  nam := fun p hp => ⟨runJ_ge _ _ _, nm_le hp⟩
  tex := fun p t q hp h => hx p t q hp h
end Go.Proofs.YtcidjhnogldgmaaGreatDoor

namespace Go.Proofs.YtcidjhnogldgmaaGreatDoor
open Go.RowKit
set_option linter.unusedSimpArgs false
set_option linter.unusedVariables false
set_option linter.unusedSectionVars false
structure FitF (x : FN) : Prop where
  kind : 0 ≤ x.kind ∧ x.kind ≤ 100
  name : x.name.size ≤ 100000
  place : -9223372036854775808 ≤ x.place ∧ x.place ≤ 9223372036854775807
  cst : x.cst.length ≤ 1 ∧ ∀ v ∈ x.cst, v.keys = [] ∧ v.kids = [] ∧ v.s.size ≤ 100000 ∧ 0 ≤ v.kind ∧ v.kind ≤ 100 ∧ -9223372036854775808 ≤ v.n ∧ v.n ≤ 9223372036854775807
  names : x.names.length ≤ 100000 ∧ ∀ z ∈ x.names, z.size ≤ 100000
  kids : x.kids.length ≤ 100000 ∧ ∀ k ∈ x.kids, 0 ≤ k ∧ k ≤ 100000
def AllF (fs : List FN) : Prop := ∀ x ∈ fs, FitF x
theorem allF_nil : AllF [] := fun x hx => absurd hx (by simp)
theorem allF_snoc {fs : List FN} {x : FN} (h : AllF fs) (hx : FitF x) : AllF (fs ++ [x]) := fun y hy => by
  rcases List.mem_append.1 hy with h' | h'
  · exact h y h'
  · rw [List.mem_singleton] at h'; subst h'; exact hx
structure WFit (W : WP) (L : List UInt8) : Prop where
  dec : ∀ l v, W.dec l = some v → -9223372036854775808 ≤ v ∧ v ≤ 9223372036854775807
  tex : ∀ p t q, p ≤ L.length → W.tex L p = some (t, q) → t.length ≤ L.length
def FitR (L : List UInt8) (fs : List FN) (p : Nat) (r : RF) : Prop := AllF fs → fs.length ≤ p → p ≤ L.length → ∀ n fs' q, r = some (n, fs', q) → AllF fs'
def FitD (L : List UInt8) (R : RD) : Prop := ∀ least fs p, FitR L fs p (R least fs p)
theorem e0F : ByteArray.empty.size ≤ 100000 := by decide
theorem p0F : (-9223372036854775808 : Int) ≤ 0 ∧ (0 : Int) ≤ 9223372036854775807 := by decide
theorem c0F : ([] : List VN).length ≤ 1 ∧ ∀ v ∈ ([] : List VN), v.keys = [] ∧ v.kids = [] ∧ v.s.size ≤ 100000 ∧ 0 ≤ v.kind ∧ v.kind ≤ 100 ∧ -9223372036854775808 ≤ v.n ∧ v.n ≤ 9223372036854775807 := ⟨by decide, fun v hv => absurd hv (by simp)⟩
theorem n0F : ([] : List ByteArray).length ≤ 100000 ∧ ∀ z ∈ ([] : List ByteArray), z.size ≤ 100000 := ⟨by decide, fun v hv => absurd hv (by simp)⟩
theorem k0F : ([] : List Int).length ≤ 100000 ∧ ∀ k ∈ ([] : List Int), 0 ≤ k ∧ k ≤ 100000 := ⟨by decide, fun v hv => absurd hv (by simp)⟩
theorem fit_K (k : Int) (h : 0 ≤ k ∧ k ≤ 100) : FitF (nodeK k) := ⟨h, e0F, p0F, c0F, n0F, k0F⟩
theorem fit_R (k : Int) (ks : List Int) (h : 0 ≤ k ∧ k ≤ 100) (hn : ks.length ≤ 100000) (hk : ∀ x ∈ ks, 0 ≤ x ∧ x ≤ 100000) : FitF (nodeR k ks) := ⟨h, e0F, p0F, c0F, n0F, ⟨hn, hk⟩⟩
theorem fit_M (names : List ByteArray) (kids : List Int) (hn : names.length ≤ 100000 ∧ ∀ z ∈ names, z.size ≤ 100000) (hk : kids.length ≤ 100000 ∧ ∀ x ∈ kids, 0 ≤ x ∧ x ≤ 100000) : FitF (nodeM names kids) := ⟨⟨show (0 : Int) ≤ 9 by decide, show (9 : Int) ≤ 100 by decide⟩, e0F, p0F, c0F, hn, hk⟩
theorem fit_C (k n : Int) (s : ByteArray) (h : 0 ≤ k ∧ k ≤ 100) (hn : -9223372036854775808 ≤ n ∧ n ≤ 9223372036854775807) (hs : s.size ≤ 100000) : FitF (nodeC ⟨k, n, s, [], []⟩) := ⟨⟨show (0 : Int) ≤ 5 by decide, show (5 : Int) ≤ 100 by decide⟩, e0F, p0F, ⟨Nat.le_refl 1, fun v hv => by simp [nodeC] at hv; subst hv; exact ⟨rfl, rfl, hs, h.1, h.2, hn.1, hn.2⟩⟩, n0F, k0F⟩
theorem fit_P (n : Int) (h : -9223372036854775808 ≤ n ∧ n ≤ 9223372036854775807) : FitF ⟨3, ByteArray.empty, n, [], [], []⟩ := ⟨⟨show (0 : Int) ≤ 3 by decide, show (3 : Int) ≤ 100 by decide⟩, e0F, h, c0F, n0F, k0F⟩
theorem fit_N (s : ByteArray) (h : s.size ≤ 100000) : FitF ⟨2, s, 0, [], [], []⟩ := ⟨⟨show (0 : Int) ≤ 2 by decide, show (2 : Int) ≤ 100 by decide⟩, h, p0F, c0F, n0F, k0F⟩
theorem fit_add {W : WP} {x : FN} {fs : List FN} {q : Nat} {n : Int} {fs' : List FN} {q' : Nat} (hx : FitF x) (h : AllF fs) (e : addF W x fs q = some (n, fs', q')) : AllF fs' := by
  obtain ⟨-, rfl, -⟩ := addF_inv e; exact allF_snoc h hx
theorem cut_size {L : List UInt8} {p m : Nat} : (txt ((L.drop p).take m)).size ≤ L.length := by rw [txt_size, List.length_take, List.length_drop]; omega
section
variable {W : WP} {L : List UInt8} {R : RD} (HG : GoesF L R) (HW : WGood W L) (HT : WFit W L) (HF : FitD L R) (hL : L.length ≤ 5000)
include HG HW HT HF hL
theorem fit_place {fs : List FN} {p : Nat} (ha : AllF fs) {n : Int} {fs' : List FN} {q : Nat} (h : placeF W L fs p = some (n, fs', q)) : AllF fs' := by
  have _ := HG; have _ := HW; have _ := HF; have _ := hL
  unfold placeF at h
  split at h
  · exact fit_add (fit_K 4 (by decide)) ha h
  · obtain ⟨v, hd, h⟩ := decF_inv h
    obtain ⟨-, h⟩ := mustF_inv h
    exact fit_add (fit_P v (HT.dec _ _ hd)) ha h
theorem fit_point {fs : List FN} {p : Nat} (ha : AllF fs) {n : Int} {fs' : List FN} {q : Nat} (h : pointF W L fs p = some (n, fs', q)) : AllF fs' := by
  unfold pointF at h
  split at h
  · exact fit_add (fit_N _ (by have := cut_size (L := L) (p := p) (m := nmJ L p - p); unfold nameF; omega)) ha h
  · split at h
    · exact fit_place HG HW HT HF hL ha h
    · exact fit_add (fit_K 1 (by decide)) ha h
theorem kid_ok {least : Int} {fs : List FN} {p : Nat} (hl : fs.length ≤ p) (hp : p ≤ L.length) {n : Int} {fs' : List FN} {q : Nat} (h : R least fs p = some (n, fs', q)) : (0 ≤ n ∧ n ≤ 100000) ∧ fs'.length ≤ q ∧ q ≤ L.length ∧ p < q := by
  have _ := HW; have _ := HT; have _ := HF
  have wt := HG _ _ _ _ _ _ hp h
  have := wt.cnt; have := wt.n0; have := wt.n1; have := wt.le
  exact ⟨⟨by omega, by omega⟩, by omega, by omega, wt.lt⟩
theorem fit_around {c : Nat} {fs : List FN} {p : Nat} (ha : AllF fs) (hl : fs.length ≤ p) (hp : p ≤ L.length) {n : Int} {fs' : List FN} {q : Nat} (h : aroundF R L c fs p = some (n, fs', q)) : AllF fs' ∧ (0 ≤ n ∧ n ≤ 100000) := by
  unfold aroundF at h
  obtain ⟨n1, fs1, q1, h1, h2⟩ := bindF_inv h
  obtain ⟨-, h3⟩ := mustF_inv h2
  simp only [Option.some.injEq, Prod.mk.injEq] at h3
  obtain ⟨rfl, rfl, rfl⟩ := h3
  exact ⟨HF _ _ _ ha hl hp _ _ _ h1, (kid_ok HG HW HT HF hL hl hp h1).1⟩
theorem fit_list {fs : List FN} {p : Nat} (ha : AllF fs) (hl : fs.length ≤ p) (hp : p ≤ L.length) {n : Int} {fs' : List FN} {q : Nat} (h : listF W R L fs p = some (n, fs', q)) : AllF fs' := by
  unfold listF at h
  split at h
  · exact fit_add (fit_K 8 (by decide)) ha h
  · obtain ⟨n1, fs1, q1, h1, h2⟩ := bindF_inv h
    obtain ⟨-, h3⟩ := mustF_inv h2
    have k := (kid_ok HG HW HT HF hL hl hp h1).1
    exact fit_add (fit_R 8 [n1] (by decide) (by simp) (fun x hx => by simp at hx; subst hx; exact k)) (HF _ _ _ ha hl hp _ _ _ h1) h3
theorem fit_rows : ∀ g names kids fs p, AllF fs → fs.length ≤ p → p ≤ L.length → names.length ≤ p → (∀ z ∈ names, z.size ≤ 100000) → kids.length ≤ p → (∀ k ∈ kids, (0 : Int) ≤ k ∧ k ≤ 100000) → ∀ n fs' q, rowsF W R L g names kids fs p = some (n, fs', q) → AllF fs' := by
  intro g
  induction g with
  | zero => intro names kids fs p _ _ _ _ _ _ _ n fs' q h; cases h
  | succ g ih =>
    intro names kids fs p ha hl hp hn1 hn2 hk1 hk2 n fs' q h
    rw [rowsF] at h
    obtain ⟨e, h⟩ := mustF_inv h
    obtain ⟨n1, fs1, q1, h1, h2⟩ := bindF_inv h
    have e1 := (isAt_yes.1 e).1
    have e2 := skF_ge L (W.nam L p)
    have e3 := (HW.nam p hp).1
    have e4 := skF_ge L (skF L (W.nam L p) + 1)
    have hq : skF L (skF L (W.nam L p) + 1) ≤ L.length := skF_le (by omega)
    have k := kid_ok HG HW HT HF hL (by omega) hq h1
    have ha1 := HF _ _ _ ha (by omega) hq _ _ _ h1
    have hz : ∀ z ∈ names ++ [txt ((L.drop p).take (W.nam L p - p))], z.size ≤ 100000 := fun z hz => by
      rcases List.mem_append.1 hz with h' | h'
      · exact hn2 z h'
      · rw [List.mem_singleton] at h'; subst h'; have := cut_size (L := L) (p := p) (m := W.nam L p - p); omega
    have hk : ∀ x ∈ kids ++ [n1], (0 : Int) ≤ x ∧ x ≤ 100000 := fun x hx => by
      rcases List.mem_append.1 hx with h' | h'
      · exact hk2 x h'
      · rw [List.mem_singleton] at h'; subst h'; exact k.1
    split at h2
    · exact fit_add (fit_M _ _ ⟨by simp; omega, hz⟩ ⟨by simp; omega, hk⟩) ha1 h2
    · obtain ⟨e5, h3⟩ := mustF_inv h2
      have e6 := (isAt_yes.1 e5).1
      have e7 := skF_ge L (q1 + 1)
      exact ih _ _ _ _ ha1 (by omega) (skF_le (by omega)) (by simp; omega) hz (by simp; omega) hk _ _ _ h3
theorem fit_map {fs : List FN} {p : Nat} (ha : AllF fs) (hl : fs.length ≤ p) (hp : p ≤ L.length) {n : Int} {fs' : List FN} {q : Nat} (h : mapF W R L fs p = some (n, fs', q)) : AllF fs' := by
  unfold mapF at h
  split at h
  · exact fit_add (fit_K 9 (by decide)) ha h
  · exact fit_rows HG HW HT HF hL _ _ _ _ _ ha hl hp (by simp) (fun z hz => absurd hz (by simp)) (by simp) (fun z hz => absurd hz (by simp)) _ _ _ h
theorem fit_sel {fs : List FN} {p : Nat} (ha : AllF fs) (hl : fs.length ≤ p) {n : Int} {fs' : List FN} {q : Nat} (h : selF W R L fs p = some (n, fs', q)) : AllF fs' := by
  unfold selF at h
  obtain ⟨e, h⟩ := mustF_inv h
  have e1 := (isAt_yes.1 e).1
  have e2 := skF_ge L (p + 1)
  obtain ⟨n1, fs1, q1, h1, h2⟩ := bindF_inv h
  obtain ⟨a1, k⟩ := fit_around HG HW HT HF hL ha (by omega) (skF_le (by omega)) h1
  exact fit_add (fit_R 10 [n1] (by decide) (by simp) (fun x hx => by simp at hx; subst hx; exact k)) a1 h2
theorem fit_if {fs : List FN} {p : Nat} (ha : AllF fs) (hl : fs.length ≤ p) (hp : p ≤ L.length) {n : Int} {fs' : List FN} {q : Nat} (h : ifF W R L fs p = some (n, fs', q)) : AllF fs' := by
  unfold ifF at h
  obtain ⟨n1, fs1, q1, h1, h⟩ := bindF_inv h
  have k1 := kid_ok HG HW HT HF hL hl hp h1
  have a1 := HF _ _ _ ha hl hp _ _ _ h1
  obtain ⟨-, h⟩ := wordF_inv h
  have x1 : q1 ≤ nmJ L q1 := runJ_ge _ _ _
  have x2 := skF_ge L (nmJ L q1)
  have l2 : skF L (nmJ L q1) ≤ L.length := skF_le (nm_le k1.2.2.1)
  obtain ⟨n2, fs2, q2, h2, h⟩ := bindF_inv h
  have k2 := kid_ok HG HW HT HF hL (by omega) l2 h2
  have a2 := HF _ _ _ a1 (by omega) l2 _ _ _ h2
  obtain ⟨-, h⟩ := wordF_inv h
  have y1 : q2 ≤ nmJ L q2 := runJ_ge _ _ _
  have y2 := skF_ge L (nmJ L q2)
  have l3 : skF L (nmJ L q2) ≤ L.length := skF_le (nm_le k2.2.2.1)
  obtain ⟨n3, fs3, q3, h3, h⟩ := bindF_inv h
  have k3 := kid_ok HG HW HT HF hL (by omega) l3 h3
  have a3 := HF _ _ _ a2 (by omega) l3 _ _ _ h3
  obtain ⟨-, h⟩ := wordF_inv h
  exact fit_add (fit_R 22 [n1, n2, n3] (by decide) (by simp) (fun x hx => by simp at hx; rcases hx with rfl | rfl | rfl; exact k1.1; exact k2.1; exact k3.1)) a3 h
theorem fit_named {w : List UInt8} {fs : List FN} {p : Nat} (ha : AllF fs) (hl : fs.length ≤ p) (hp : p ≤ L.length) {n : Int} {fs' : List FN} {q : Nat} (h : namedF W R L w fs p = some (n, fs', q)) : AllF fs' := by
  unfold namedF at h
  split at h
  · exact fit_add (fit_C 1 0 _ (by decide) (by decide) (by decide)) ha h
  split at h
  · exact fit_add (fit_C 2 1 _ (by decide) (by decide) (by decide)) ha h
  split at h
  · exact fit_add (fit_C 2 0 _ (by decide) (by decide) (by decide)) ha h
  split at h
  · exact fit_sel HG HW HT HF hL ha hl h
  split at h
  · exact fit_if HG HW HT HF hL ha hl hp h
  split at h
  · exact fit_add (fit_K 11 (by decide)) ha h
  split at h
  · exact fit_add (fit_K 12 (by decide)) ha h
  split at h
  · exact fit_add (fit_K 13 (by decide)) ha h
  split at h
  · exact fit_add (fit_K 14 (by decide)) ha h
  · cases h
theorem fit_whole {fs : List FN} {p : Nat} (ha : AllF fs) (hl : fs.length ≤ p) (hp : p ≤ L.length) {n : Int} {fs' : List FN} {q : Nat} (h : wholeF W R L fs p = some (n, fs', q)) : AllF fs' := by
  have hs := skF_ge L (p + 1)
  unfold wholeF at h
  split at h
  · exact fit_point HG HW HT HF hL ha h
  split at h
  · rename_i e; have := (isAt_yes.1 e).1; exact (fit_around HG HW HT HF hL ha (by omega) (skF_le (by omega)) h).1
  split at h
  · rename_i e; have := (isAt_yes.1 e).1; exact fit_list HG HW HT HF hL ha (by omega) (skF_le (by omega)) h
  split at h
  · rename_i e; have := (isAt_yes.1 e).1; exact fit_map HG HW HT HF hL ha (by omega) (skF_le (by omega)) h
  split at h
  · rename_i e
    have h1 := (isAt_yes.1 e).1
    split at h
    · cases h
    · rename_i t q1 et
      have h2 := HT.tex _ _ _ (by omega) et
      exact fit_add (fit_C 4 0 _ (by decide) (by decide) (by rw [txt_size]; omega)) ha h
  split at h
  · have x1 : p ≤ nmJ L p := runJ_ge _ _ _
    have x2 := skF_ge L (nmJ L p)
    exact fit_named HG HW HT HF hL ha (by omega) (skF_le (nm_le hp)) h
  split at h
  · obtain ⟨v, hd, h⟩ := decF_inv h
    exact fit_add (fit_C 3 v _ (by decide) (HT.dec _ _ hd) (by decide)) ha h
  · cases h
theorem fit_eat {k : Int} {len : Nat} {n0 : Int} {fs : List FN} {p : Nat} (hk : 0 ≤ k ∧ k ≤ 100) (hn0 : 0 ≤ n0 ∧ n0 < (fs.length : Int)) (ha : AllF fs) (hl : fs.length ≤ p) (hp : p + len ≤ L.length) {n : Int} {fs' : List FN} {q : Nat} (h : eatF R L W k len n0 fs p = some (n, fs', q)) : AllF fs' := by
  have hs := skF_ge L (p + len)
  unfold eatF at h
  split at h
  · exact fit_add (fit_R 23 [n0] (by decide) (by simp) (fun x hx => by simp at hx; subst hx; omega)) ha h
  · obtain ⟨n1, fs1, q1, h1, h2⟩ := bindF_inv h
    have k1 := kid_ok HG HW HT HF hL (by omega) (skF_le hp) h1
    exact fit_add (fit_R k [n0, n1] hk (by simp) (fun x hx => by simp at hx; rcases hx with rfl | rfl; omega; exact k1.1)) (HF _ _ _ ha (by omega) (skF_le hp) _ _ _ h1) h2
theorem jnt_kind {p : Nat} {k : Int} {len : Nat} (h : jntF L p = some (k, len)) : 0 ≤ k ∧ k ≤ 100 := by
  have _ := HG; have _ := HW; have _ := HT; have _ := HF; have _ := hL
  rcases jnt_kinds h with rfl | rfl | rfl | rfl | rfl | rfl | rfl | rfl | rfl | rfl <;> decide
theorem fit_loop (least : Int) : ∀ g bind n0 fs p, AllF fs → fs.length ≤ p → p ≤ L.length → 0 ≤ n0 → n0 < (fs.length : Int) → ∀ n fs' q, loopF R L W g least bind n0 fs p = some (n, fs', q) → AllF fs' := by
  intro g
  induction g with
  | zero => intro bind n0 fs p _ _ _ _ _ n fs' q h; cases h
  | succ g ih =>
    intro bind n0 fs p ha hl hp h0 h1 n fs' q h
    rw [loopF] at h
    cases hj : jntF L p with
    | none => simp only [hj, Option.some.injEq, Prod.mk.injEq] at h; obtain ⟨rfl, rfl, rfl⟩ := h; exact ha
    | some kl =>
      obtain ⟨k, len⟩ := kl
      obtain ⟨j1, j2, -, -⟩ := jnt_says hj
      simp only [hj] at h
      split at h
      · simp only [Option.some.injEq, Prod.mk.injEq] at h; obtain ⟨rfl, rfl, rfl⟩ := h; exact ha
      split at h
      · cases h
      · obtain ⟨n1, fs1, q1, e1, e2⟩ := bindF_inv h
        have wt := eat_went HG j1 j2 e1
        have := wt.cnt; have := wt.le
        exact ih _ _ _ _ (fit_eat HG HW HT HF hL (jnt_kind HG HW HT HF hL hj) ⟨h0, h1⟩ ha hl j2 e1) (by omega) wt.le wt.n0 wt.n1 _ _ _ e2
theorem fit_sgn (l : Nat) : ∀ g n0 fs p, AllF fs → fs.length ≤ p → p ≤ L.length → 0 ≤ n0 → n0 < (fs.length : Int) → ∀ n fs' q, sgnS R L W l g n0 fs p = some (n, fs', q) → AllF fs' := by
  intro g
  induction g with
  | zero => intro n0 fs p _ _ _ _ _ n fs' q h; cases h
  | succ g ih =>
    intro n0 fs p ha hl hp h0 h1 n fs' q h
    rw [sgnS] at h
    cases hj : jntF L p with
    | none => simp only [hj, Option.some.injEq, Prod.mk.injEq] at h; obtain ⟨rfl, rfl, rfl⟩ := h; exact ha
    | some kl =>
      obtain ⟨k, len⟩ := kl
      obtain ⟨j1, j2, -, -⟩ := jnt_says hj
      simp only [hj] at h
      split at h
      · obtain ⟨n1, fs1, q1, e1, e2⟩ := bindF_inv h
        have wt := eat_went HG j1 j2 e1
        have := wt.cnt; have := wt.le
        have a1 := fit_eat HG HW HT HF hL (jnt_kind HG HW HT HF hL hj) ⟨h0, h1⟩ ha hl j2 e1
        split at e2
        · exact ih _ _ _ a1 (by omega) wt.le wt.n0 wt.n1 _ _ _ e2
        · simp only [Option.some.injEq, Prod.mk.injEq] at e2; obtain ⟨rfl, rfl, rfl⟩ := e2; exact a1
      · simp only [Option.some.injEq, Prod.mk.injEq] at h; obtain ⟨rfl, rfl, rfl⟩ := h; exact ha
theorem fit_lv : ∀ d fs p, AllF fs → fs.length ≤ p → p ≤ L.length → ∀ n fs' q, lvS R L W d fs p = some (n, fs', q) → AllF fs' := by
  intro d
  induction d with
  | zero =>
    intro fs p ha hl hp n fs' q h
    rw [lvS] at h
    obtain ⟨n1, fs1, q1, h1, h2⟩ := bindF_inv h
    have wt := whole_went HG HW hp h1
    have := wt.cnt
    exact fit_sgn HG HW HT HF hL 6 _ _ _ _ (fit_whole HG HW HT HF hL ha hl hp h1) (by omega) wt.le wt.n0 wt.n1 _ _ _ h2
  | succ d ih =>
    intro fs p ha hl hp n fs' q h
    rw [lvS] at h
    obtain ⟨n1, fs1, q1, h1, h2⟩ := bindF_inv h
    have wt := lvS_went HG HW _ _ _ _ _ _ hp h1
    have := wt.cnt
    exact fit_sgn HG HW HT HF hL _ _ _ _ _ (ih _ _ ha hl hp _ _ _ h1) (by omega) wt.le wt.n0 wt.n1 _ _ _ h2
end
theorem fit_readP {W : WP} {L : List UInt8} (HW : WGood W L) (HT : WFit W L) (hL : L.length ≤ 5000) : ∀ f, FitD L (readP W L f) := by
  intro f
  induction f with
  | zero => intro least fs p _ _ _ n fs' q h; cases h
  | succ f ih =>
    intro least fs p ha hl hp n fs' q h
    rw [readP] at h
    obtain ⟨n1, fs1, q1, h1, h2⟩ := bindF_inv h
    have HG := readP_goes HW f
    have wt := whole_went HG HW hp h1
    have := wt.cnt
    exact fit_loop HG HW HT ih hL least _ _ _ _ _ (fit_whole HG HW HT ih hL ha hl hp h1) (by omega) wt.le wt.n0 wt.n1 _ _ _ h2
theorem tx_in {L : List UInt8} : ∀ p t q, p ≤ L.length → txJ L p = some (t, q) → p ≤ q ∧ q ≤ L.length := fun p t q _ h => by
  obtain ⟨h1, h2, -, -⟩ := txJ_says _ _ _ _ (Nat.le_refl _) h; exact ⟨by omega, h2⟩
theorem wfitP (L : List UInt8) : WFit WPr L where
  dec := fun l v h => by
    have h1 : decW l = some v := h
    unfold decW at h1
    split at h1
    · rename_i u e
      split at h1
      · simp only [Option.some.injEq] at h1
        subst h1
        have := Lib.parseIntB_bounds e
        omega
      · cases h1
    · cases h1
  tex := fun p t q hp h => by
    obtain ⟨h1, h2, h3, -⟩ := txJ_says _ _ _ _ (Nat.le_refl _) (show txJ L p = some (t, q) from h); omega
theorem goodP (L : List UInt8) : WGood WPr L := wgoodP L tx_in
end Go.Proofs.YtcidjhnogldgmaaGreatDoor
