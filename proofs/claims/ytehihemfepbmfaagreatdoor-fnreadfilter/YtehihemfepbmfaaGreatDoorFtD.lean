import Derived.Test.YtehihemfepbmfaaGreatDoorFrU
import Derived.Test.YtehihemfepbmfaaGreatDoorUneP
import Derived.Test.YtehihemfepbmfaaGreatDoorLeaf
namespace Go.Proofs.YtehihemfepbmfaaGreatDoor
set_option linter.unusedSectionVars false
open Go.RowKit
set_option linter.unusedSimpArgs false
set_option linter.unusedVariables false
def Q0 (l : List UInt8) : Option Int := match Lib.parseIntB 64 l with
 | .ok v => if Lib.itoa v = l then some v else none
 | _ => none
def txS (L : List UInt8) (p : Nat) : Option (List UInt8 × Nat) := match txJ L p with
 | none => none
 | some (l, q) => if l.length ≤ 60 then some (l, q) else none
def WPr : WP := ⟨Q0, fun L p => nmJ L p, fun L p => txJ L p, false⟩
def WSp : WP := ⟨Qy, fun L p => if Yn L p = true then nmJ L p else p, txS, true⟩
theorem Xv8 {d : List UInt8} {n : Nat} (h : d.length = n + 1) : ∃ d' c, d = d' ++ [c] ∧ d'.length = n := by
 refine ⟨d.take n, d[n]'(by omega), ?_, by rw [List.length_take]; omega⟩
 have : d.take (n + 1) = d := List.take_of_length_le (by omega)
 rw [List.take_add_one, List.getElem?_eq_getElem (by omega)] at this
 exact this.symm
theorem Xea {d : List UInt8} {c : UInt8} {j : Nat} (h : j < d.length) : Xe (d ++ [c]) j = Xe d j := by
 unfold Xe; rw [List.getD_eq_getElem?_getD, List.getD_eq_getElem?_getD, List.getElem?_append_left h]
theorem Xgs {d : List UInt8} {c : UInt8} : Xe (d ++ [c]) d.length = c.toNat := by
 unfold Xe; rw [List.getD_eq_getElem?_getD]; simp
theorem Xsw {d : List UInt8} {c : UInt8} : ∀ k, k ≤ d.length → X0 (d ++ [c]) 0 k = X0 d 0 k := by
 intro k
 induction k with
 | zero => intro _; rfl
 | succ k ih => intro h; rw [X0, X0, ih (by omega), Nat.zero_add, Xea (by omega)]
theorem Xim : ∀ (n : Nat) (d : List UInt8), d.length = n + 1 → Uk d → (n = 0 ∨ Xe d 0 ≠ 48) → Lib.decDigits (X0 d 0 (n + 1)) = d := by
 intro n
 induction n with
 | zero =>
  intro d hl hd _
  match d, hl with
  | [c], _ =>
   have h0 := hd 0 (by simp)
   have hb : Xe [c] 0 = c.toNat := rfl
   rw [hb] at h0
   unfold Zi at h0
   simp only [decide_eq_true_eq] at h0
   have hv : X0 [c] 0 1 = c.toNat - 48 := by rw [X0, X0, Nat.zero_add, hb]; try omega
   rw [hv, Lib.decDigits, dif_pos (by omega), show 48 + (c.toNat - 48) = c.toNat by omega]
   simp
 | succ n ih =>
  intro d hl hd h0
  obtain ⟨d', c, rfl, hl'⟩ := Xv8 hl
  have hne : Xe (d' ++ [c]) 0 ≠ 48 := by rcases h0 with h0 | h0; omega; exact h0
  rw [Xea (by omega)] at hne
  have hd' : Uk d' := fun j hj => by have := hd j (by simp; omega); rwa [Xea hj] at this
  have hc := hd d'.length (by simp)
  rw [Xgs] at hc
  unfold Zi at hc
  simp only [decide_eq_true_eq] at hc
  have h1 := ih d' hl' hd' (.inr hne)
  have h48 := hd' 0 (by omega)
  unfold Zi at h48
  simp only [decide_eq_true_eq] at h48
  have hlow := Xej (L := d') (q := 0) (k := n) (by omega)
  have hpow : 1 ≤ 10 ^ n := Nat.pos_of_ne_zero (by simp)
  have hv : X0 (d' ++ [c]) 0 (n + 1 + 1) = 10 * X0 d' 0 (n + 1) + (c.toNat - 48) := by
   rw [X0, Xsw _ (by omega), Nat.zero_add, ← hl', Xgs]
  rw [hv, Lib.decDigits, dif_neg (by omega)]
  have e1 : (10 * X0 d' 0 (n + 1) + (c.toNat - 48)) / 10 = X0 d' 0 (n + 1) := by omega
  have e2 : (10 * X0 d' 0 (n + 1) + (c.toNat - 48)) % 10 = c.toNat - 48 := by omega
  rw [e1, e2, h1, show 48 + (c.toNat - 48) = c.toNat by omega]
  simp
theorem Xgt {neg : Bool} {d : List UInt8} {v : Int} (h : Uy neg d = some v) : ∃ n, d.length = n + 1 ∧ Uk d ∧ (n = 0 ∨ Xe d 0 ≠ 48) ∧ (neg = true → Xe d 0 ≠ 48) ∧ X0 d 0 (n + 1) ≤ 1000000000000000 ∧ v = if neg = true then -((X0 d 0 (n + 1) : Nat) : Int) else ((X0 d 0 (n + 1) : Nat) : Int) := by
 unfold Uy at h
 split at h
 ·cases h
 ·rename_i hc
  simp only [not_or, not_and, Nat.not_lt, Decidable.not_not] at hc
  obtain ⟨h1, h2, h3, h4, h5⟩ := hc
  simp only [Option.some.injEq] at h
  refine ⟨d.length - 1, by omega, h4, ?_, ?_, by rw [show d.length - 1 + 1 = d.length by omega]; exact h5, by rw [show d.length - 1 + 1 = d.length by omega]; exact h.symm⟩
  ·by_cases e : Xe d 0 = 48
   ·left; have := (h3 e).1; omega
   ·exact .inr e
  ·intro hn e; exact (h3 e).2 hn
theorem Xgu {l : List UInt8} {v : Int} (h : Qy l = some v) : Lib.itoa v = l ∧ -1000000000000000 ≤ v ∧ v ≤ 1000000000000000 := by
 unfold Qy at h
 split at h
 ·rename_i hn
  obtain ⟨n, h1, h2, h3, h4, h5, h6⟩ := Xgt h
  have hd := Xim n _ h1 h2 h3
  have hne := h4 rfl
  rw [if_pos rfl] at h6
  have h48 := h2 0 (by omega)
  unfold Zi at h48
  simp only [decide_eq_true_eq] at h48
  have hlow := Xej (L := l.drop 1) (q := 0) (k := n) (by omega)
  have hpow : 1 ≤ 10 ^ n := Nat.pos_of_ne_zero (by simp)
  unfold Uz at hn
  simp only [decide_eq_true_eq] at hn
  refine ⟨?_, by omega, by omega⟩
  unfold Lib.itoa
  rw [if_pos (by omega), h6, Int.natAbs_neg, Int.natAbs_natCast, hd]
  have hl : 0 < l.length := by omega
  match l, hl with
  | c :: r, _ =>
   have : c.toNat = 45 := hn.2
   have e : c = 45 := UInt8.toNat_inj.1 this
   rw [e]; rfl
 ·obtain ⟨n, h1, h2, h3, h4, h5, h6⟩ := Xgt h
  have hd := Xim n _ h1 h2 h3
  rw [if_neg (by decide)] at h6
  refine ⟨?_, by omega, by omega⟩
  unfold Lib.itoa
  rw [if_neg (by omega), h6, Int.toNat_natCast, hd]
theorem Xeb (l : List UInt8) : Sit l 0 l := ⟨Nat.zero_le _, [], by simp⟩
theorem Xpw {v : Int} (h1 : -1000000000000000 ≤ v) (h2 : v ≤ 1000000000000000) : Qy (Lib.itoa v) = some v := by
 have hj := Xif (L := Lib.itoa v) (p := 0) h1 h2 (Xeb _) (by intro e; omega)
 rw [Nat.zero_add] at hj
 obtain ⟨n1, n2⟩ := Xtz (L := Lib.itoa v) (p := 0) (Nat.zero_le _)
 have hw : Q3 (Lib.itoa v) 0 = Lib.itoa v := by
  have hq : dgJ (Lib.itoa v) (X9 (Lib.itoa v) 0) = (Lib.itoa v).length := by
   have : Xba (Lib.itoa v) 0 = some (v, (Lib.itoa v).length) := hj
   unfold Xba at this
   split at this
   ·cases this
   ·simp only [Option.some.injEq, Prod.mk.injEq] at this; exact this.2
  unfold Q3
  rw [hq, List.drop_zero, Nat.sub_zero, List.take_length]
 have hne : Lib.itoa v ≠ [45, 48] := by
  unfold Lib.itoa
  split
  ·intro e
   have e2 : Lib.decDigits v.natAbs = [48] := by simpa using e
   have := Xdk (L := Lib.decDigits v.natAbs) v.natAbs v.natAbs 0 (Nat.le_refl _) (Xeb _)
   refine this.2.2.1 (by omega) ?_
   rw [e2]; rfl
  ·intro e
   have := Xli _ v.toNat (Nat.le_refl _) 45 (by rw [e]; simp)
   revert this; decide
 have h3 := n2 (by rw [hw]; exact hne)
 rw [hj, hw] at h3
 cases h4 : Qy (Lib.itoa v) with
 | none => rw [h4] at h3; cases h3
 | some u => rw [h4] at h3; simp only [Option.some.injEq, Prod.mk.injEq] at h3; rw [h3.1]
theorem Xsx (L : List UInt8) : WRel WPr WSp L where
 cap := rfl
 cap' := rfl
 dec := fun l v h => by
  obtain ⟨h1, h2, h3⟩ := Xgu (show Qy l = some v from h)
  show Q0 l = some v
  unfold Q0
  rw [← h1, Xgd h2 h3]
  simp
 dec' := fun l v h h' => by
  have h1 : Q0 l = some v := h'
  unfold Q0 at h1
  split at h1
  ·rename_i u e
   split at h1
   ·rename_i e2
    simp only [Option.some.injEq] at h1
    subst h1
    by_cases hb : -1000000000000000 ≤ u ∧ u ≤ 1000000000000000
    ·have := Xpw hb.1 hb.2
     rw [e2] at this
     rw [show WSp.dec l = Qy l from rfl, this] at h
     cases h
    ·omega
   ·cases h1
  ·cases h1
 nam := fun p => rfl
 nam' := fun p => rfl
 tex := fun p r h => by
  have h1 : txS L p = some r := h
  show txJ L p = some r
  unfold txS at h1
  split at h1
  ·cases h1
  ·rename_i l q e
   split at h1
   ·rw [e]; exact h1
   ·cases h1
 tex' := fun p t q h h' => by
  have h1 : txS L p = none := h
  have h2 : txJ L p = some (t, q) := h'
  unfold txS at h1
  rw [h2] at h1
  simp only at h1
  split at h1
  ·cases h1
  ·omega
theorem Xx8 (L : List UInt8) (hx : ∀ p t q, p ≤ L.length → txJ L p = some (t, q) → p ≤ q ∧ q ≤ L.length) : WGood WPr L where
 nam := fun p hp => ⟨Zb _ _ _, Gm hp⟩
 tex := fun p t q hp h => hx p t q hp h
theorem Xx9 (L : List UInt8) (hx : ∀ p t q, p ≤ L.length → txJ L p = some (t, q) → p ≤ q ∧ q ≤ L.length) : WGood WSp L where
 nam := fun p hp => by
  show p ≤ (if Yn L p = true then nmJ L p else p) ∧ (if Yn L p = true then nmJ L p else p) ≤ L.length
  split
  ·exact ⟨Zb _ _ _, Gm hp⟩
  ·exact ⟨Nat.le_refl _, hp⟩
 tex := fun p t q hp h => hx p t q hp ((Xsx L).tex p _ h)

structure FitF (x : FN) : Prop where
 kind : 0 ≤ x.kind ∧ x.kind ≤ 100
 name : x.name.size ≤ 100000
 place : -9223372036854775808 ≤ x.place ∧ x.place ≤ 9223372036854775807
 cst : x.cst.length ≤ 1 ∧ ∀ v ∈ x.cst, v.keys = [] ∧ v.kids = [] ∧ v.s.size ≤ 100000 ∧ 0 ≤ v.kind ∧ v.kind ≤ 100 ∧ -9223372036854775808 ≤ v.n ∧ v.n ≤ 9223372036854775807
 names : x.names.length ≤ 100000 ∧ ∀ z ∈ x.names, z.size ≤ 100000
 kids : x.kids.length ≤ 100000 ∧ ∀ k ∈ x.kids, 0 ≤ k ∧ k ≤ 100000
def Zh (fs : List FN) : Prop := ∀ x ∈ fs, FitF x
theorem Xeh : Zh [] := fun x hx => absurd hx (by simp)
theorem Xqq {fs : List FN} {x : FN} (h : Zh fs) (hx : FitF x) : Zh (fs ++ [x]) := fun y hy => by
 rcases List.mem_append.1 hy with h' | h'
 ·exact h y h'
 ·rw [List.mem_singleton] at h'; subst h'; exact hx
structure WFit (W : WP) (L : List UInt8) : Prop where
 dec : ∀ l v, W.dec l = some v → -9223372036854775808 ≤ v ∧ v ≤ 9223372036854775807
 tex : ∀ p t q, p ≤ L.length → W.tex L p = some (t, q) → t.length ≤ L.length
def Xz8 (L : List UInt8) (fs : List FN) (p : Nat) (r : RF) : Prop := Zh fs → fs.length ≤ p → p ≤ L.length → ∀ n fs' q, r = some (n, fs', q) → Zh fs'
def Xtr (L : List UInt8) (R : RD) : Prop := ∀ least fs p, Xz8 L fs p (R least fs p)
theorem e0F : ByteArray.empty.size ≤ 100000 := by decide
theorem p0F : (-9223372036854775808 : Int) ≤ 0 ∧ (0 : Int) ≤ 9223372036854775807 := by decide
theorem c0F : ([] : List VN).length ≤ 1 ∧ ∀ v ∈ ([] : List VN), v.keys = [] ∧ v.kids = [] ∧ v.s.size ≤ 100000 ∧ 0 ≤ v.kind ∧ v.kind ≤ 100 ∧ -9223372036854775808 ≤ v.n ∧ v.n ≤ 9223372036854775807 := ⟨by decide, fun v hv => absurd hv (by simp)⟩
theorem n0F : ([] : List ByteArray).length ≤ 100000 ∧ ∀ z ∈ ([] : List ByteArray), z.size ≤ 100000 := ⟨by decide, fun v hv => absurd hv (by simp)⟩
theorem k0F : ([] : List Int).length ≤ 100000 ∧ ∀ k ∈ ([] : List Int), 0 ≤ k ∧ k ≤ 100000 := ⟨by decide, fun v hv => absurd hv (by simp)⟩
theorem Xa4 (k : Int) (h : 0 ≤ k ∧ k ≤ 100) : FitF (Qn k) := ⟨h, e0F, p0F, c0F, n0F, k0F⟩
theorem Xfd (k : Int) (ks : List Int) (h : 0 ≤ k ∧ k ≤ 100) (hn : ks.length ≤ 100000) (hk : ∀ x ∈ ks, 0 ≤ x ∧ x ≤ 100000) : FitF (Yp k ks) := ⟨h, e0F, p0F, c0F, n0F, ⟨hn, hk⟩⟩
theorem Xzq (names : List ByteArray) (kids : List Int) (hn : names.length ≤ 100000 ∧ ∀ z ∈ names, z.size ≤ 100000) (hk : kids.length ≤ 100000 ∧ ∀ x ∈ kids, 0 ≤ x ∧ x ≤ 100000) : FitF (Vi names kids) := ⟨⟨show (0 : Int) ≤ 9 by decide, show (9 : Int) ≤ 100 by decide⟩, e0F, p0F, c0F, hn, hk⟩
theorem Xfe (k n : Int) (s : ByteArray) (h : 0 ≤ k ∧ k ≤ 100) (hn : -9223372036854775808 ≤ n ∧ n ≤ 9223372036854775807) (hs : s.size ≤ 100000) : FitF (Zm ⟨k, n, s, [], []⟩) := ⟨⟨show (0 : Int) ≤ 5 by decide, show (5 : Int) ≤ 100 by decide⟩, e0F, p0F, ⟨Nat.le_refl 1, fun v hv => by simp [Zm] at hv; subst hv; exact ⟨rfl, rfl, hs, h.1, h.2, hn.1, hn.2⟩⟩, n0F, k0F⟩
theorem Xzr (n : Int) (h : -9223372036854775808 ≤ n ∧ n ≤ 9223372036854775807) : FitF ⟨3, ByteArray.empty, n, [], [], []⟩ := ⟨⟨show (0 : Int) ≤ 3 by decide, show (3 : Int) ≤ 100 by decide⟩, e0F, h, c0F, n0F, k0F⟩
theorem Xzs (s : ByteArray) (h : s.size ≤ 100000) : FitF ⟨2, s, 0, [], [], []⟩ := ⟨⟨show (0 : Int) ≤ 2 by decide, show (2 : Int) ≤ 100 by decide⟩, h, p0F, c0F, n0F, k0F⟩
theorem Zv {W : WP} {x : FN} {fs : List FN} {q : Nat} {n : Int} {fs' : List FN} {q' : Nat} (hx : FitF x) (h : Zh fs) (e : Xs W x fs q = some (n, fs', q')) : Zh fs' := by
 obtain ⟨-, rfl, -⟩ := Vt e; exact Xqq h hx
theorem Xi9 {L : List UInt8} {p m : Nat} : (txt ((L.drop p).take m)).size ≤ L.length := by rw [Z8, List.length_take, List.length_drop]; omega
section
variable {W : WP} {L : List UInt8} {R : RD} (HG : Jp L R) (HW : WGood W L) (HT : WFit W L) (HF : Xtr L R) (hL : L.length ≤ 5000)
include HG HW HT HF hL
theorem Xqr {fs : List FN} {p : Nat} (ha : Zh fs) {n : Int} {fs' : List FN} {q : Nat} (h : Qe W L fs p = some (n, fs', q)) : Zh fs' := by
 have _ := HG; have _ := HW; have _ := HF; have _ := hL
 unfold Qe at h
 split at h
 ·exact Zv (Xa4 4 (by decide)) ha h
 ·obtain ⟨v, hd, h⟩ := Xap h
  obtain ⟨-, h⟩ := Zc h
  exact Zv (Xzr v (HT.dec _ _ hd)) ha h
theorem Xqs {fs : List FN} {p : Nat} (ha : Zh fs) {n : Int} {fs' : List FN} {q : Nat} (h : Yg W L fs p = some (n, fs', q)) : Zh fs' := by
 unfold Yg at h
 split at h
 ·exact Zv (Xzs _ (by have := Xi9 (L := L) (p := p) (m := nmJ L p - p); unfold X6; omega)) ha h
 ·split at h
  ·exact Xqr HG HW HT HF hL ha h
  ·exact Zv (Xa4 1 (by decide)) ha h
theorem Xan {least : Int} {fs : List FN} {p : Nat} (hl : fs.length ≤ p) (hp : p ≤ L.length) {n : Int} {fs' : List FN} {q : Nat} (h : R least fs p = some (n, fs', q)) : (0 ≤ n ∧ n ≤ 100000) ∧ fs'.length ≤ q ∧ q ≤ L.length ∧ p < q := by
 have _ := HW; have _ := HT; have _ := HF
 have wt := HG _ _ _ _ _ _ hp h
 have := wt.cnt; have := wt.n0; have := wt.n1; have := wt.le
 exact ⟨⟨by omega, by omega⟩, by omega, by omega, wt.lt⟩
theorem Xff {c : Nat} {fs : List FN} {p : Nat} (ha : Zh fs) (hl : fs.length ≤ p) (hp : p ≤ L.length) {n : Int} {fs' : List FN} {q : Nat} (h : Zf R L c fs p = some (n, fs', q)) : Zh fs' ∧ (0 ≤ n ∧ n ≤ 100000) := by
 unfold Zf at h
 obtain ⟨n1, fs1, q1, h1, h2⟩ := X2 h
 obtain ⟨-, h3⟩ := Zc h2
 simp only [Option.some.injEq, Prod.mk.injEq] at h3
 obtain ⟨rfl, rfl, rfl⟩ := h3
 exact ⟨HF _ _ _ ha hl hp _ _ _ h1, (Xan HG HW HT HF hL hl hp h1).1⟩
theorem Xts {fs : List FN} {p : Nat} (ha : Zh fs) (hl : fs.length ≤ p) (hp : p ≤ L.length) {n : Int} {fs' : List FN} {q : Nat} (h : Jg W R L fs p = some (n, fs', q)) : Zh fs' := by
 unfold Jg at h
 split at h
 ·exact Zv (Xa4 8 (by decide)) ha h
 ·obtain ⟨n1, fs1, q1, h1, h2⟩ := X2 h
  obtain ⟨-, h3⟩ := Zc h2
  have k := (Xan HG HW HT HF hL hl hp h1).1
  exact Zv (Xfd 8 [n1] (by decide) (by simp) (fun x hx => by simp at hx; subst hx; exact k)) (HF _ _ _ ha hl hp _ _ _ h1) h3
theorem Xtt : ∀ g names kids fs p, Zh fs → fs.length ≤ p → p ≤ L.length → names.length ≤ p → (∀ z ∈ names, z.size ≤ 100000) → kids.length ≤ p → (∀ k ∈ kids, (0 : Int) ≤ k ∧ k ≤ 100000) → ∀ n fs' q, Zg W R L g names kids fs p = some (n, fs', q) → Zh fs' := by
 intro g
 induction g with
 | zero => intro names kids fs p _ _ _ _ _ _ _ n fs' q h; cases h
 | succ g ih =>
  intro names kids fs p ha hl hp hn1 hn2 hk1 hk2 n fs' q h
  rw [Zg] at h
  obtain ⟨e, h⟩ := Zc h
  obtain ⟨n1, fs1, q1, h1, h2⟩ := X2 h
  have e1 := (Xg.1 e).1
  have e2 := Xu L (W.nam L p)
  have e3 := (HW.nam p hp).1
  have e4 := Xu L (skF L (W.nam L p) + 1)
  have hq : skF L (skF L (W.nam L p) + 1) ≤ L.length := Xy (by omega)
  have k := Xan HG HW HT HF hL (by omega) hq h1
  have ha1 := HF _ _ _ ha (by omega) hq _ _ _ h1
  have hz : ∀ z ∈ names ++ [txt ((L.drop p).take (W.nam L p - p))], z.size ≤ 100000 := fun z hz => by
   rcases List.mem_append.1 hz with h' | h'
   ·exact hn2 z h'
   ·rw [List.mem_singleton] at h'; subst h'; have := Xi9 (L := L) (p := p) (m := W.nam L p - p); omega
  have hk : ∀ x ∈ kids ++ [n1], (0 : Int) ≤ x ∧ x ≤ 100000 := fun x hx => by
   rcases List.mem_append.1 hx with h' | h'
   ·exact hk2 x h'
   ·rw [List.mem_singleton] at h'; subst h'; exact k.1
  split at h2
  ·exact Zv (Xzq _ _ ⟨by simp; omega, hz⟩ ⟨by simp; omega, hk⟩) ha1 h2
  ·obtain ⟨e5, h3⟩ := Zc h2
   have e6 := (Xg.1 e5).1
   have e7 := Xu L (q1 + 1)
   exact ih _ _ _ _ ha1 (by omega) (Xy (by omega)) (by simp; omega) hz (by simp; omega) hk _ _ _ h3
theorem Xwx {fs : List FN} {p : Nat} (ha : Zh fs) (hl : fs.length ≤ p) (hp : p ≤ L.length) {n : Int} {fs' : List FN} {q : Nat} (h : Q7 W R L fs p = some (n, fs', q)) : Zh fs' := by
 unfold Q7 at h
 split at h
 ·exact Zv (Xa4 9 (by decide)) ha h
 ·exact Xtt HG HW HT HF hL _ _ _ _ _ ha hl hp (by simp) (fun z hz => absurd hz (by simp)) (by simp) (fun z hz => absurd hz (by simp)) _ _ _ h
theorem Xwy {fs : List FN} {p : Nat} (ha : Zh fs) (hl : fs.length ≤ p) {n : Int} {fs' : List FN} {q : Nat} (h : Vm W R L fs p = some (n, fs', q)) : Zh fs' := by
 unfold Vm at h
 obtain ⟨e, h⟩ := Zc h
 have e1 := (Xg.1 e).1
 have e2 := Xu L (p + 1)
 obtain ⟨n1, fs1, q1, h1, h2⟩ := X2 h
 obtain ⟨a1, k⟩ := Xff HG HW HT HF hL ha (by omega) (Xy (by omega)) h1
 exact Zv (Xfd 10 [n1] (by decide) (by simp) (fun x hx => by simp at hx; subst hx; exact k)) a1 h2
theorem Xy0 {fs : List FN} {p : Nat} (ha : Zh fs) (hl : fs.length ≤ p) (hp : p ≤ L.length) {n : Int} {fs' : List FN} {q : Nat} (h : ifF W R L fs p = some (n, fs', q)) : Zh fs' := by
 unfold ifF at h
 obtain ⟨n1, fs1, q1, h1, h⟩ := X2 h
 have k1 := Xan HG HW HT HF hL hl hp h1
 have a1 := HF _ _ _ ha hl hp _ _ _ h1
 obtain ⟨-, h⟩ := Vs h
 have x1 : q1 ≤ nmJ L q1 := Zb _ _ _
 have x2 := Xu L (nmJ L q1)
 have l2 : skF L (nmJ L q1) ≤ L.length := Xy (Gm k1.2.2.1)
 obtain ⟨n2, fs2, q2, h2, h⟩ := X2 h
 have k2 := Xan HG HW HT HF hL (by omega) l2 h2
 have a2 := HF _ _ _ a1 (by omega) l2 _ _ _ h2
 obtain ⟨-, h⟩ := Vs h
 have y1 : q2 ≤ nmJ L q2 := Zb _ _ _
 have y2 := Xu L (nmJ L q2)
 have l3 : skF L (nmJ L q2) ≤ L.length := Xy (Gm k2.2.2.1)
 obtain ⟨n3, fs3, q3, h3, h⟩ := X2 h
 have k3 := Xan HG HW HT HF hL (by omega) l3 h3
 have a3 := HF _ _ _ a2 (by omega) l3 _ _ _ h3
 obtain ⟨-, h⟩ := Vs h
 exact Zv (Xfd 22 [n1, n2, n3] (by decide) (by simp) (fun x hx => by simp at hx; rcases hx with rfl | rfl | rfl; exact k1.1; exact k2.1; exact k3.1)) a3 h
theorem Xqt {w : List UInt8} {fs : List FN} {p : Nat} (ha : Zh fs) (hl : fs.length ≤ p) (hp : p ≤ L.length) {n : Int} {fs' : List FN} {q : Nat} (h : X1 W R L w fs p = some (n, fs', q)) : Zh fs' := by
 unfold X1 at h
 split at h
 ·exact Zv (Xfe 1 0 _ (by decide) (by decide) (by decide)) ha h
 split at h
 ·exact Zv (Xfe 2 1 _ (by decide) (by decide) (by decide)) ha h
 split at h
 ·exact Zv (Xfe 2 0 _ (by decide) (by decide) (by decide)) ha h
 split at h
 ·exact Xwy HG HW HT HF hL ha hl h
 split at h
 ·exact Xy0 HG HW HT HF hL ha hl hp h
 split at h
 ·exact Zv (Xa4 11 (by decide)) ha h
 split at h
 ·exact Zv (Xa4 12 (by decide)) ha h
 split at h
 ·exact Zv (Xa4 13 (by decide)) ha h
 split at h
 ·exact Zv (Xa4 14 (by decide)) ha h
 ·cases h
theorem Xg7 {fs : List FN} {p : Nat} (ha : Zh fs) (hl : fs.length ≤ p) (hp : p ≤ L.length) {n : Int} {fs' : List FN} {q : Nat} (h : Xo W R L fs p = some (n, fs', q)) : Zh fs' := by
 have hs := Xu L (p + 1)
 unfold Xo at h
 split at h
 ·exact Xqs HG HW HT HF hL ha h
 split at h
 ·rename_i e; have := (Xg.1 e).1; exact (Xff HG HW HT HF hL ha (by omega) (Xy (by omega)) h).1
 split at h
 ·rename_i e; have := (Xg.1 e).1; exact Xts HG HW HT HF hL ha (by omega) (Xy (by omega)) h
 split at h
 ·rename_i e; have := (Xg.1 e).1; exact Xwx HG HW HT HF hL ha (by omega) (Xy (by omega)) h
 split at h
 ·rename_i e
  have h1 := (Xg.1 e).1
  split at h
  ·cases h
  ·rename_i t q1 et
   have h2 := HT.tex _ _ _ (by omega) et
   exact Zv (Xfe 4 0 _ (by decide) (by decide) (by rw [Z8]; omega)) ha h
 split at h
 ·have x1 : p ≤ nmJ L p := Zb _ _ _
  have x2 := Xu L (nmJ L p)
  exact Xqt HG HW HT HF hL ha (by omega) (Xy (Gm hp)) h
 split at h
 ·obtain ⟨v, hd, h⟩ := Xap h
  exact Zv (Xfe 3 v _ (by decide) (HT.dec _ _ hd) (by decide)) ha h
 ·cases h
theorem Xlz {k : Int} {len : Nat} {n0 : Int} {fs : List FN} {p : Nat} (hk : 0 ≤ k ∧ k ≤ 100) (hn0 : 0 ≤ n0 ∧ n0 < (fs.length : Int)) (ha : Zh fs) (hl : fs.length ≤ p) (hp : p + len ≤ L.length) {n : Int} {fs' : List FN} {q : Nat} (h : Jj R L W k len n0 fs p = some (n, fs', q)) : Zh fs' := by
 have hs := Xu L (p + len)
 unfold Jj at h
 split at h
 ·exact Zv (Xfd 23 [n0] (by decide) (by simp) (fun x hx => by simp at hx; subst hx; omega)) ha h
 ·obtain ⟨n1, fs1, q1, h1, h2⟩ := X2 h
  have k1 := Xan HG HW HT HF hL (by omega) (Xy hp) h1
  exact Zv (Xfd k [n0, n1] hk (by simp) (fun x hx => by simp at hx; rcases hx with rfl | rfl; omega; exact k1.1)) (HF _ _ _ ha (by omega) (Xy hp) _ _ _ h1) h2
theorem Xja {p : Nat} {k : Int} {len : Nat} (h : Xx L p = some (k, len)) : 0 ≤ k ∧ k ≤ 100 := by
 have _ := HG; have _ := HW; have _ := HT; have _ := HF; have _ := hL
 rcases J8 h with rfl | rfl | rfl | rfl | rfl | rfl | rfl | rfl | rfl | rfl <;> decide
theorem Xtu (least : Int) : ∀ g bind n0 fs p, Zh fs → fs.length ≤ p → p ≤ L.length → 0 ≤ n0 → n0 < (fs.length : Int) → ∀ n fs' q, Zq R L W g least bind n0 fs p = some (n, fs', q) → Zh fs' := by
 intro g
 induction g with
 | zero => intro bind n0 fs p _ _ _ _ _ n fs' q h; cases h
 | succ g ih =>
  intro bind n0 fs p ha hl hp h0 h1 n fs' q h
  rw [Zq] at h
  cases hj : Xx L p with
  | none => simp only [hj, Option.some.injEq, Prod.mk.injEq] at h; obtain ⟨rfl, rfl, rfl⟩ := h; exact ha
  | some kl =>
   obtain ⟨k, len⟩ := kl
   obtain ⟨j1, j2, -, -⟩ := Ke hj
   simp only [hj] at h
   split at h
   ·simp only [Option.some.injEq, Prod.mk.injEq] at h; obtain ⟨rfl, rfl, rfl⟩ := h; exact ha
   split at h
   ·cases h
   ·obtain ⟨n1, fs1, q1, e1, e2⟩ := X2 h
    have wt := Vv HG j1 j2 e1
    have := wt.cnt; have := wt.le
    exact ih _ _ _ _ (Xlz HG HW HT HF hL (Xja HG HW HT HF hL hj) ⟨h0, h1⟩ ha hl j2 e1) (by omega) wt.le wt.n0 wt.n1 _ _ _ e2
theorem Xl0 (l : Nat) : ∀ g n0 fs p, Zh fs → fs.length ≤ p → p ≤ L.length → 0 ≤ n0 → n0 < (fs.length : Int) → ∀ n fs' q, Js R L W l g n0 fs p = some (n, fs', q) → Zh fs' := by
 intro g
 induction g with
 | zero => intro n0 fs p _ _ _ _ _ n fs' q h; cases h
 | succ g ih =>
  intro n0 fs p ha hl hp h0 h1 n fs' q h
  rw [Js] at h
  cases hj : Xx L p with
  | none => simp only [hj, Option.some.injEq, Prod.mk.injEq] at h; obtain ⟨rfl, rfl, rfl⟩ := h; exact ha
  | some kl =>
   obtain ⟨k, len⟩ := kl
   obtain ⟨j1, j2, -, -⟩ := Ke hj
   simp only [hj] at h
   split at h
   ·obtain ⟨n1, fs1, q1, e1, e2⟩ := X2 h
    have wt := Vv HG j1 j2 e1
    have := wt.cnt; have := wt.le
    have a1 := Xlz HG HW HT HF hL (Xja HG HW HT HF hL hj) ⟨h0, h1⟩ ha hl j2 e1
    split at e2
    ·exact ih _ _ _ a1 (by omega) wt.le wt.n0 wt.n1 _ _ _ e2
    ·simp only [Option.some.injEq, Prod.mk.injEq] at e2; obtain ⟨rfl, rfl, rfl⟩ := e2; exact a1
   ·simp only [Option.some.injEq, Prod.mk.injEq] at h; obtain ⟨rfl, rfl, rfl⟩ := h; exact ha
theorem Xy1 : ∀ d fs p, Zh fs → fs.length ≤ p → p ≤ L.length → ∀ n fs' q, lvS R L W d fs p = some (n, fs', q) → Zh fs' := by
 intro d
 induction d with
 | zero =>
  intro fs p ha hl hp n fs' q h
  rw [lvS] at h
  obtain ⟨n1, fs1, q1, h1, h2⟩ := X2 h
  have wt := J9 HG HW hp h1
  have := wt.cnt
  exact Xl0 HG HW HT HF hL 6 _ _ _ _ (Xg7 HG HW HT HF hL ha hl hp h1) (by omega) wt.le wt.n0 wt.n1 _ _ _ h2
 | succ d ih =>
  intro fs p ha hl hp n fs' q h
  rw [lvS] at h
  obtain ⟨n1, fs1, q1, h1, h2⟩ := X2 h
  have wt := Xjf HG HW _ _ _ _ _ _ hp h1
  have := wt.cnt
  exact Xl0 HG HW HT HF hL _ _ _ _ _ (ih _ _ ha hl hp _ _ _ h1) (by omega) wt.le wt.n0 wt.n1 _ _ _ h2
end
theorem Xqu {W : WP} {L : List UInt8} (HW : WGood W L) (HT : WFit W L) (hL : L.length ≤ 5000) : ∀ f, Xtr L (Yj W L f) := by
 intro f
 induction f with
 | zero => intro least fs p _ _ _ n fs' q h; cases h
 | succ f ih =>
  intro least fs p ha hl hp n fs' q h
  rw [Yj] at h
  obtain ⟨n1, fs1, q1, h1, h2⟩ := X2 h
  have HG := Xb9 HW f
  have wt := J9 HG HW hp h1
  have := wt.cnt
  exact Xtu HG HW HT ih hL least _ _ _ _ _ (Xg7 HG HW HT ih hL ha hl hp h1) (by omega) wt.le wt.n0 wt.n1 _ _ _ h2
theorem Xqv {W : WP} {L : List UInt8} (HW : WGood W L) (HT : WFit W L) (hL : L.length ≤ 5000) : ∀ f, Xtr L (Ud W L f) := by
 intro f
 induction f with
 | zero => intro least fs p _ _ _ n fs' q h; cases h
 | succ f ih =>
  intro least fs p ha hl hp n fs' q h
  rw [Ud] at h
  exact Xy1 (Xfg HW f) HW HT ih hL _ _ _ ha hl hp _ _ _ h
theorem Xuz {L : List UInt8} : ∀ p t q, p ≤ L.length → txJ L p = some (t, q) → p ≤ q ∧ q ≤ L.length := fun p t q _ h => by
 obtain ⟨h1, h2, -, -⟩ := Xin _ _ _ _ (Nat.le_refl _) h; exact ⟨by omega, h2⟩
theorem Xu0 (L : List UInt8) : WFit WPr L where
 dec := fun l v h => by
  have h1 : Q0 l = some v := h
  unfold Q0 at h1
  split at h1
  ·rename_i u e
   split at h1
   ·simp only [Option.some.injEq] at h1
    subst h1
    have := Lib.parseIntB_bounds e
    omega
   ·cases h1
  ·cases h1
 tex := fun p t q hp h => by
  obtain ⟨h1, h2, h3, -⟩ := Xin _ _ _ _ (Nat.le_refl _) (show txJ L p = some (t, q) from h); omega
theorem Xzt (L : List UInt8) : WFit WSp L where
 dec := fun l v h => by have := (Xgu (show Qy l = some v from h)).2; omega
 tex := fun p t q hp h => (Xu0 L).tex p t q hp ((Xsx L).tex p _ h)
theorem Xnn (L : List UInt8) : WGood WPr L := Xx8 L Xuz
theorem Xu1 (L : List UInt8) : WGood WSp L := Xx9 L Xuz

def z0 (_ : Nat) : Nat := 0
def PbF (NC NN NI BC BN BI : Nat → Nat) (i x : Nat) : Prop := (0 < NC i ∧ x = BC i) ∨ (0 < NN i ∧ x = BN i) ∨ (0 < NI i ∧ x = BI i)
structure MkyF (lo : Nat) (w : World) (b n : Nat) (NC NN NI BC BN BI : Nat → Nat) (c : Nat) : Prop where
 low : lo ≤ b
 lt : b < w.heap.size
 few : n ≤ 4000
 row : Xfu w b (n * 6)
 le : ∀ i, i < n → NC i ≤ 1 ∧ NN i ≤ 100000 ∧ NI i ≤ 100000
 c3 : ∀ i, c ≤ i → i < n → ∃ a p, w.cell? ⟨b, i * 6 + 3, none⟩ = some (.slice a (NC i) p) ∧ (0 < NC i → a = some ⟨BC i, 0, none⟩ ∧ Marky lo w (BC i) (NC i) z0 z0 z0 z0)
 c4 : ∀ i, c ≤ i → i < n → ∃ a p, w.cell? ⟨b, i * 6 + 4, none⟩ = some (.slice a (NN i) p) ∧ (0 < NN i → a = some ⟨BN i, 0, none⟩ ∧ lo ≤ BN i ∧ BN i < w.heap.size ∧ Xfu w (BN i) (NN i))
 c5 : ∀ i, c ≤ i → i < n → ∃ a p, w.cell? ⟨b, i * 6 + 5, none⟩ = some (.slice a (NI i) p) ∧ (0 < NI i → a = some ⟨BI i, 0, none⟩ ∧ lo ≤ BI i ∧ BI i < w.heap.size ∧ Xfu w (BI i) (NI i))
 dis : ∀ i j, i < n → j < n → i ≠ j → ∀ x, PbF NC NN NI BC BN BI i x → ¬ PbF NC NN NI BC BN BI j x
 inn : ∀ i, i < n → (0 < NC i → 0 < NN i → BC i ≠ BN i) ∧ (0 < NC i → 0 < NI i → BC i ≠ BI i) ∧ (0 < NN i → 0 < NI i → BN i ≠ BI i)
 off : ∀ i, i < n → ∀ x, PbF NC NN NI BC BN BI i x → x ≠ b ∧ x < w.heap.size
structure HNdF (w : World) (b i : Nat) (NC NN NI BC BN BI : Nat → Nat) (o : Nat) : Prop where
 lt : b < w.heap.size
 c0 : w.cell? ⟨b, i * 6, none⟩ = some (.int .i64 (o : Nat))
 c1 : w.cell? ⟨b, i * 6 + 1, none⟩ = some (.string (Xet (o + 1)))
 c2 : w.cell? ⟨b, i * 6 + 2, none⟩ = some (.int .i64 (o + 2 : Nat))
 c3 : ∃ a p, w.cell? ⟨b, i * 6 + 3, none⟩ = some (.slice a (NC i) p) ∧ (0 < NC i → a = some ⟨BC i, 0, none⟩) ∧ ∀ j, j < NC i → HNode w (BC i) j 0 0 0 0 (off z0 z0 (o + 3) j)
 c4 : ∃ a p, w.cell? ⟨b, i * 6 + 4, none⟩ = some (.slice a (NN i) p) ∧ (0 < NN i → a = some ⟨BN i, 0, none⟩ ∧ BN i < w.heap.size ∧ ∀ j, j < NN i → w.cell? ⟨BN i, j, none⟩ = some (.string (Xet (o + 3 + 3 * NC i + j))))
 c5 : ∃ a p, w.cell? ⟨b, i * 6 + 5, none⟩ = some (.slice a (NI i) p) ∧ (0 < NI i → a = some ⟨BI i, 0, none⟩ ∧ BI i < w.heap.size ∧ ∀ j, j < NI i → w.cell? ⟨BI i, j, none⟩ = some (.int .i64 (o + 3 + 3 * NC i + NN i + j : Nat)))
section
variable {lo b n : Nat} {w w' : World} {NC NN NI BC BN BI : Nat → Nat}
structure TurnF (b c : Nat) (P : Nat → Prop) (w w' : World) : Prop where
 size : w.heap.size ≤ w'.heap.size
 row : ∀ o, o ≠ c * 6 → o ≠ c * 6 + 1 → o ≠ c * 6 + 2 → w'.cell? ⟨b, o, none⟩ = w.cell? ⟨b, o, none⟩
 rest : ∀ x, x < w.heap.size → x ≠ b → ¬ P x → w'.heap[x]? = w.heap[x]?
end

def K5 (T : Nat → Option (Nat × Nat)) : Nat → List Int → Nat → Prop
 | a, [], b => a = b
 | a, k :: ks, b => ∃ m p, k = ((m : Nat) : Int) ∧ T m = some p ∧ p.1 = a ∧ K5 T (m + 1) ks b
theorem Xm8 {T : Nat → Option (Nat × Nat)} {m : Nat} {p : Nat × Nat} (hT : T m = some p) : ∀ (ks : List Int) (a : Nat), K5 T a ks p.1 → K5 T a (ks ++ [((m : Nat) : Int)]) (m + 1) := by
 intro ks
 induction ks with
 | nil => intro a h; exact ⟨m, p, rfl, hT, h.symm, rfl⟩
 | cons k ks ih =>
  intro a h
  obtain ⟨m', p', h1, h2, h3, h4⟩ := h
  exact ⟨m', p', h1, h2, h3, ih _ h4⟩
theorem Xm9 {T : Nat → Option (Nat × Nat)} : ∀ (l : List Int) (b h : Nat) (q : Nat × Nat), l.foldl (Xt T) (some (b, h)) = some q → K5 T q.1 l.reverse b := by
 intro l
 induction l with
 | nil => intro b h q e; simp at e; rw [← e]; rfl
 | cons k l ih =>
  intro b h q e
  obtain ⟨p, h1, h2, h3, h4⟩ := Qr e
  have h5 := ih _ _ _ h4
  rw [List.reverse_cons]
  have := Xm8 h3 _ _ h5
  rw [show b - 1 + 1 = b by omega] at this
  rw [show k = ((b - 1 : Nat) : Int) by omega]
  exact this
def Zd (fs : List FN) (n : Nat) : Nat := match tr (Yq fs) n with
 | some p => p.1
 | none => 0
theorem J1 {fs : List FN} (h : okF fs = true) : (1 ≤ fs.length ∧ fs.length ≤ 40) ∧ (∀ i, i < fs.length → Xl (Xj fs i) = true) ∧ (∀ i, i < fs.length → ∃ p, tr (Yq fs) i = some p) ∧ Zd fs (fs.length - 1) = 0 := by
 have h2 := h
 rw [← Xi7] at h2
 unfold Xef Jr Vp at h2
 simp only [Bool.and_eq_true, decide_eq_true_eq, List.all_eq_true, List.mem_range] at h2
 obtain ⟨⟨h3, h4⟩, h5, h6⟩ := h2
 refine ⟨h3, h4, fun i hi => Option.isSome_iff_exists.1 (h5 i hi), ?_⟩
 unfold Vj at h6
 unfold Zd
 cases e : tr (Yq fs) (fs.length - 1) with
 | none => rfl
 | some p => rw [e] at h6; simp at h6; exact h6.1
theorem J7 {fs : List FN} {n : Nat} (h : ∃ p, tr (Yq fs) n = some p) : K5 (tr (Yq fs)) (Zd fs n) (Xj fs n).kids n := by
 obtain ⟨p, hp⟩ := h
 unfold Zd
 rw [hp]
 simp only
 have hp2 := hp
 rw [Ua] at hp2
 cases hf : (Yq fs n).reverse.foldl (Xt (tr (Yq fs))) (some (n, 0)) with
 | none => rw [hf] at hp2; cases hp2
 | some q =>
  rw [hf] at hp2
  simp at hp2
  have := Xm9 _ _ _ _ hf
  rw [List.reverse_reverse] at this
  rw [← hp2]
  exact this
theorem Qv {fs : List FN} {m : Nat} {p : Nat × Nat} (h : tr (Yq fs) m = some p) : Zd fs m = p.1 := by unfold Zd; rw [h]
theorem Xa3 {s : ByteArray} (h : s.toList = []) : s = ByteArray.empty := by
 rw [ByteArray.toList_eq] at h
 have : s.size = 0 := by rw [← Xh, h]; rfl
 exact ByteArray.size_eq_zero_iff.1 this
theorem Wh {x : FN} (h : Xl x = true) : (x.kind ≠ 2 → x.name = ByteArray.empty) ∧ (x.kind ≠ 3 → x.place = 0) ∧ (x.kind ≠ 5 → x.cst = []) ∧ (x.kind ≠ 9 → x.names = []) ∧ (x.kind = 2 → X7 x.name = true) ∧ (x.kind = 3 → -80 ≤ x.place ∧ x.place ≤ 80) ∧ (x.kind = 5 → Q8 x.cst = true) ∧ (x.kind = 9 → Zu x.names = true) ∧ Jc x = true ∧ 1 ≤ x.kind ∧ x.kind ≤ 23 := by
 unfold Xl V4 at h
 simp only [Bool.and_eq_true] at h
 obtain ⟨⟨⟨⟨⟨z1, z2⟩, z3⟩, z4⟩, o⟩, f⟩ := h
 refine ⟨fun e => ?_, fun e => ?_, fun e => ?_, fun e => ?_, fun e => ?_, fun e => ?_, fun e => ?_, fun e => ?_, f, ?_⟩
 ·simp [e] at z1; exact Xa3 z1
 ·simp [e] at z2; exact z2
 ·simp [e] at z3; exact z3
 ·simp [e] at z4; exact z4
 ·unfold Q2 at o; rw [if_pos e] at o; exact o
 ·unfold Q2 at o; rw [if_neg (by omega), if_pos e] at o; simpa using o
 ·unfold Q2 at o; rw [if_neg (by omega), if_neg (by omega), if_pos e] at o; exact o
 ·unfold Q2 at o; rw [if_neg (by omega), if_neg (by omega), if_neg (by omega), if_pos e] at o; exact o
 ·unfold Jc at f
  split at f
  ·omega
  ·split at f
   ·omega
   ·simp only [Bool.and_eq_true, decide_eq_true_eq] at f; omega
theorem Xbl (x : FN) : x = ⟨x.kind, x.name, x.place, x.cst, x.names, x.kids⟩ := by cases x; rfl
theorem Xak {x : FN} (h : Xl x = true) (h8 : x.kind ≠ 8) (h9 : x.kind ≠ 9) : (x.kids.length : Int) = kidsN x.kind := by
 have := (Wh h).2.2.2.2.2.2.2.2.1
 unfold Jc at this
 rw [if_neg h8, if_neg h9] at this
 simp only [Bool.and_eq_true, decide_eq_true_eq] at this
 exact this.2
theorem Xz6 {x : FN} (h : Xl x = true) (h2 : x.kind ≠ 2) (h3 : x.kind ≠ 3) (h5 : x.kind ≠ 5) (h9 : x.kind ≠ 9) (hk : x.kids = []) : x = Qn x.kind := by
 obtain ⟨a, b, c, d, _⟩ := Wh h
 rw [Xbl x, a h2, b h3, c h5, d h9, hk]; rfl
theorem Xiy {x : FN} (h : Xl x = true) (h2 : x.kind ≠ 2) (h3 : x.kind ≠ 3) (h5 : x.kind ≠ 5) (h9 : x.kind ≠ 9) : x = Yp x.kind x.kids := by
 obtain ⟨a, b, c, d, _⟩ := Wh h
 rw [Xbl x, a h2, b h3, c h5, d h9]; rfl
theorem Xiz {c : List VN} (h : Q8 c = true) : c = [⟨1, 0, ByteArray.empty, [], []⟩] ∨ c = [⟨2, 0, ByteArray.empty, [], []⟩] ∨ c = [⟨2, 1, ByteArray.empty, [], []⟩] ∨ (∃ n, c = [⟨3, n, ByteArray.empty, [], []⟩] ∧ -1000000000000000 ≤ n ∧ n ≤ 1000000000000000) ∨ ∃ t, c = [⟨4, 0, t, [], []⟩] ∧ Qa t = true := by
 unfold Q8 at h
 simp only [Bool.and_eq_true, decide_eq_true_eq] at h
 obtain ⟨⟨⟨h1, h2⟩, h3⟩, h4⟩ := h
 match c, h1 with
 | [x], _ =>
  have hn : X8 x = true := by
   unfold okB at h2
   simp only [Bool.and_eq_true, List.all_eq_true, List.mem_range] at h2
   have := (h2.1.2 0 (by simp)).1
   exact this
  have e0 : Xc [x] 0 = x := rfl
  rw [e0] at h3 h4
  obtain ⟨kind, n, s, keys, kids⟩ := x
  unfold X8 Qz Ql at hn
  simp only [Bool.and_eq_true] at hn
  obtain ⟨⟨⟨⟨u1, u2⟩, u3⟩, u4⟩, v⟩ := hn
  simp only at h3 h4
  by_cases k1 : kind = 1
  ·subst k1; simp at u1 u2 u3 u4; left; rw [u1, Xa3 u2, u3, u4]
  by_cases k2 : kind = 2
  ·subst k2; simp at u2 u3 u4 v; rw [Xa3 u2, u3, u4]; rcases v with v | v <;> subst v
   ·exact .inr (.inl rfl)
   ·exact .inr (.inr (.inl rfl))
  by_cases k3 : kind = 3
  ·subst k3; simp at u2 u3 u4 v; rw [Xa3 u2, u3, u4]; exact .inr (.inr (.inr (.inl ⟨n, rfl, v.1, v.2⟩)))
  by_cases k4 : kind = 4
  ·subst k4; simp at u1 u3 u4 v; rw [u1, u3, u4]; exact .inr (.inr (.inr (.inr ⟨s, rfl, v⟩)))
  ·simp [k1, k2, k3, k4, h3, h4] at v
def Vd (L : List UInt8) (q : Nat) : Prop := nmC (Xe L q) = false ∧ Xe L q ≠ 91
theorem Xwg {L : List UInt8} {q : Nat} (h : L.length ≤ q) : Vd L q := by
 unfold Vd; rw [Qu h]; decide
theorem Kd {L : List UInt8} {q : Nat} {c : UInt8} (h : Xe L q = c.toNat) (hc : nmC c.toNat = false ∧ c.toNat ≠ 91) : Vd L q := by unfold Vd; rw [h]; exact hc
def Gl (L : List UInt8) (l : Int) (q : Nat) : Prop := ∀ k len, Xx L (skF L q) = some (k, len) → Xq k < l
def Gp (k : Int) : Int := if k = 6 then 1 else if k = 7 ∨ k = 21 then 3 else if k = 15 ∨ k = 16 then 6 else if k = 17 ∨ k = 18 ∨ k = 19 ∨ k = 20 then 5 else 7
theorem Xwh {L : List UInt8} {l l' : Int} {q : Nat} (h : Gl L l q) (hl : l ≤ l') : Gl L l' q := fun k len e => Int.lt_of_lt_of_le (h k len e) hl
theorem Xwi (k : Int) : Xq k ≤ Gp k := by
 unfold Xq Gp
 repeat' split
 all_goals omega
theorem Zo {L : List UInt8} {q : Nat} (h : Xe L q ≠ 32) (h' : Xe L q ≠ 10) : skF L q = q := Qt fun e => by
 have := e.2
 unfold Xbw at this
 simp at this
 omega
theorem Ju {L : List UInt8} {q : Nat} (hq : q < L.length) (h : Xe L q = 32) (h2 : Xe L (q + 1) ≠ 32) (h3 : Xe L (q + 1) ≠ 10) : skF L q = q + 1 := by
 have : skF L q = skF L (q + 1) := Jz hq (by rw [h]; rfl)
 rw [this]; exact Zo h2 h3
theorem Wi {L : List UInt8} {l : Int} {q c : Nat} (h : Xe L q = c) (hc : c = 41 ∨ c = 93 ∨ c = 125 ∨ c = 58) : Gl L l q := fun k len e => by
 rw [Zo (by omega) (by omega)] at e
 unfold Xx at e
 have hn : ∀ x, x ≠ c → Xd L q x = false := fun x hx => by rw [X4]; rintro ⟨_, h2⟩; omega
 rw [hn 124 (by omega), hn 44 (by omega), hn 47 (by omega), hn 61 (by omega), hn 33 (by omega), hn 60 (by omega), hn 43 (by omega), hn 45 (by omega), hn 63 (by omega)] at e
 simp at e
theorem Xtc {L : List UInt8} {l : Int} {q : Nat} (h : L.length ≤ skF L q) : Gl L l q := fun k len e => by
 have := (Ke e).2.1
 have := (Ke e).1
 omega
theorem Xee {L : List UInt8} {l : Int} {q : Nat} {k : Int} {len : Nat} (h : Xx L (skF L q) = some (k, len)) (hk : Xq k < l) : Gl L l q := fun k' len' e => by
 rw [h] at e
 simp only [Option.some.injEq, Prod.mk.injEq] at e
 rw [← e.1]; exact hk

theorem Xd1 {fs : List FN} {n q : Nat} {x : FN} (hn : n < fs.length) (hx : Xj fs n = x) : Xs WPr x (fs.take n) q = some ((n : Int), fs.take (n + 1), q) := by
 unfold Xs
 rw [if_neg (fun e => by cases e.1), List.length_take, Nat.min_eq_left (Nat.le_of_lt hn), List.take_add_one, List.getElem?_eq_getElem hn]
 have : fs[n] = x := by rw [← hx]; unfold Xj; rw [List.getD_eq_getElem?_getD, List.getElem?_eq_getElem hn]; rfl
 rw [this]; rfl
theorem Xv {L : List UInt8} {p : Nat} {c : UInt8} {B : List UInt8} (h : Sit L p (c :: B)) : p < L.length ∧ Xe L p = c.toNat ∧ Sit L (p + 1) B := ⟨h.one.1, h.one.2, h.next⟩
theorem Ya {L : List UInt8} {p c d : Nat} (hp : p < L.length) (h : Xe L p = c) : Xd L p d = decide (c = d) := by
 unfold Xd; rw [h, decide_eq_true hp, Bool.true_and]
theorem Us {L : List UInt8} {p c : Nat} (hp : p < L.length) (h : Xe L p = c) : Yn L p = Yl c := by unfold Yn; rw [h, decide_eq_true hp, Bool.true_and]
theorem Xr3 {L : List UInt8} {p c : Nat} (hp : p < L.length) (h : Xe L p = c) : Kt L p = Ze c := by unfold Kt; rw [h, decide_eq_true hp, Bool.true_and]
section
variable {W : WP} {R : RD} {L : List UInt8} {fs : List FN} {p : Nat}
theorem Xdh (hp : p < L.length) (h : Xe L p = 46) : Xo W R L fs p = Yg W L fs (p + 1) := by
 unfold Xo; rw [Ya hp h]; rfl
theorem Xvm (hp : p < L.length) (h : Xe L p = 40) : Xo W R L fs p = Zf R L 41 fs (skF L (p + 1)) := by
 unfold Xo; rw [Ya hp h, Ya hp h]; rfl
theorem Xlj (hp : p < L.length) (h : Xe L p = 91) : Xo W R L fs p = Jg W R L fs (skF L (p + 1)) := by
 unfold Xo; rw [Ya hp h, Ya hp h, Ya hp h]; rfl
theorem Xr4 (hp : p < L.length) (h : Xe L p = 123) : Xo W R L fs p = Q7 W R L fs (skF L (p + 1)) := by
 unfold Xo; rw [Ya hp h, Ya hp h, Ya hp h, Ya hp h]; rfl
theorem Xvn (hp : p < L.length) (h : Xe L p = 34) {t : List UInt8} {q : Nat} (ht : W.tex L (p + 1) = some (t, q)) : Xo W R L fs p = Xs W (Zm ⟨4, 0, txt t, [], []⟩) fs (skF L q) := by
 unfold Xo; rw [Ya hp h, Ya hp h, Ya hp h, Ya hp h, Ya hp h, ht]; rfl
theorem Xoz {c : Nat} (hp : p < L.length) (h : Xe L p = c) (hc : Yl c = true) : Xo W R L fs p = X1 W R L (X6 L p) fs (skF L (nmJ L p)) := by
 have h1 : ∀ d, (d = 46 ∨ d = 40 ∨ d = 91 ∨ d = 123 ∨ d = 34) → ¬ Xd L p d = true := fun d hd e => by
  rw [Ya hp h] at e
  simp only [decide_eq_true_eq] at e
  subst e
  rcases hd with e | e | e | e | e <;> (subst e; revert hc; decide)
 unfold Xo
 rw [if_neg (h1 46 (by omega)), if_neg (h1 40 (by omega)), if_neg (h1 91 (by omega)), if_neg (h1 123 (by omega)), if_neg (h1 34 (by omega)), if_pos (by rw [Us hp h]; exact hc)]
theorem Xo0 {c : Nat} (hp : p < L.length) (h : Xe L p = c) (hc : c = 45 ∨ Ze c = true) : Xo W R L fs p = Qo W L p fun n q => Xs W (Zm ⟨3, n, ByteArray.empty, [], []⟩) fs q := by
 have h1 : ∀ d, (d = 46 ∨ d = 40 ∨ d = 91 ∨ d = 123 ∨ d = 34) → ¬ Xd L p d = true := fun d hd e => by
  rw [Ya hp h] at e
  simp only [decide_eq_true_eq] at e
  subst e
  rcases hc with hc | hc
  ·omega
  ·rcases hd with e | e | e | e | e <;> (subst e; revert hc; decide)
 have h2 : ¬ Yn L p = true := fun e => by
  rw [Us hp h] at e
  rcases hc with hc | hc
  ·subst hc; revert e; decide
  ·unfold Ze at hc; unfold Yl at e; simp at hc e; omega
 unfold Xo
 rw [if_neg (h1 46 (by omega)), if_neg (h1 40 (by omega)), if_neg (h1 91 (by omega)), if_neg (h1 123 (by omega)), if_neg (h1 34 (by omega)), if_neg h2, if_pos]
 rcases hc with hc | hc
 ·left; rw [Ya hp h, decide_eq_true hc]
 ·right; rw [Xr3 hp h]; exact hc
end
theorem Xo1 (c : Nat) : Zi c = Ze c := by unfold Zi Ze; rw [Bool.eq_iff_iff]; simp
theorem Xaa {L : List UInt8} {p : Nat} {w : List UInt8} (h : Sit L p w) (hn : 0 < w.length) (hw : ∀ c ∈ w, nmC c.toNat = true) (hf : nmC (Xe L (p + w.length)) = false) : X6 L p = w ∧ nmJ L p = p + w.length := by
 have hj : nmJ L p = p + w.length := by
  refine Xfy (fun j hj => ?_) h.len (fun e => by rw [hf] at e; cases e.2)
  rw [h.byte (List.getElem?_eq_getElem hj)]
  exact hw _ (List.getElem_mem hj)
 refine ⟨?_, hj⟩
 unfold X6
 rw [hj, Nat.add_sub_cancel_left]
 obtain ⟨_, post, e⟩ := h
 rw [e, List.take_left]
theorem Xd2 {s : ByteArray} (h : X7 s = true) : 0 < s.data.toList.length ∧ (∀ c ∈ s.data.toList, nmC c.toNat = true) ∧ ∀ c r, s.data.toList = c :: r → Yl c.toNat = true := by
 unfold X7 at h
 simp only [Bool.and_eq_true, decide_eq_true_eq, List.all_eq_true, List.mem_range] at h
 obtain ⟨⟨⟨h1, h2⟩, h3⟩, h4⟩ := h
 have hb : ∀ j (hj : j < s.data.toList.length), Yh s j = (s.data.toList[j]).toNat := fun j hj => by
  unfold Yh
  congr 1
  rw [Array.getElem_toList]
  have : j < s.data.size := by simpa using hj
  unfold Array.getD; exact dif_pos this
 refine ⟨by rw [Xh]; exact h1, fun c hc => ?_, fun c r e => ?_⟩
 ·obtain ⟨j, hj, rfl⟩ := List.getElem_of_mem hc
  have := h4 j (by rw [Xh] at hj; exact hj)
  rw [hb j hj] at this
  unfold nmC
  exact this
 ·have := h3
  rw [hb 0 (by rw [e]; simp)] at this
  simp only [e, List.getElem_cons_zero] at this
  exact this
theorem Xo2 {L : List UInt8} {q : Nat} {v : Int} {k : Int → Nat → RF} (h : Sit L q (Lib.itoa v)) (h1 : -1000000000000000 ≤ v) (h2 : v ≤ 1000000000000000) (hn : nmC (Xe L (q + (Lib.itoa v).length)) = false) : Qo WPr L q k = k v (skF L (q + (Lib.itoa v).length)) := by
 have hj := Xif h1 h2 h (fun e => by
  have := e.2
  rw [Xo1] at this
  unfold nmC at hn
  rw [this, Bool.or_true] at hn; cases hn)
 have hd : dgJ L (X9 L q) = q + (Lib.itoa v).length := by
  unfold Xba at hj
  split at hj
  ·cases hj
  ·simp only [Option.some.injEq, Prod.mk.injEq] at hj; exact hj.2
 have hw : Q3 L q = Lib.itoa v := by
  unfold Q3
  rw [hd, Nat.add_sub_cancel_left]
  obtain ⟨_, post, e⟩ := h
  rw [e, List.take_left]
 have hdec : WPr.dec (Q3 L q) = some v := by
  rw [hw]
  show Q0 (Lib.itoa v) = some v
  unfold Q0
  rw [Xgd h1 h2]
  simp
 unfold Qo
 rw [hdec, hd]
theorem Xvo {L : List UInt8} {q c : Nat} (h : Xe L q = c) (hc : Yl c = true) : Xx L q = none := by
 have hn : ∀ x, (x = 124 ∨ x = 44 ∨ x = 47 ∨ x = 61 ∨ x = 33 ∨ x = 60 ∨ x = 43 ∨ x = 45 ∨ x = 63) → Xd L q x = false := fun x hx => by
  rw [X4]; rintro ⟨_, h2⟩
  have : c = x := by omega
  subst this
  rcases hx with e | e | e | e | e | e | e | e | e <;> (subst e; revert hc; decide)
 unfold Xx
 rw [hn 124 (by omega), hn 44 (by omega), hn 47 (by omega), hn 61 (by omega), hn 33 (by omega), hn 60 (by omega), hn 43 (by omega), hn 45 (by omega), hn 63 (by omega)]
 rfl
def Xa9 (k : Int) : Prop := k = 6 ∨ k = 7 ∨ k = 15 ∨ k = 16 ∨ k = 17 ∨ k = 18 ∨ k = 19 ∨ k = 20 ∨ k = 21
theorem Xvp {L : List UInt8} {e : Nat} {k : Int} (hk : Xa9 k) (h : Sit L e (Ks k)) (h2 : Xe L (e + (Ks k).length) ≠ 32) (h3 : Xe L (e + (Ks k).length) ≠ 10) :
  ∃ len, Xx L (skF L e) = some (k, len) ∧ skF L (skF L e + len) = e + (Ks k).length ∧ e ≤ skF L e ∧ skF L e < e + (Ks k).length ∧ skF L e < L.length ∧ Vd L e := by
 have go1 : ∀ a : UInt8, a ≠ 32 → a ≠ 10 → Ks k = [32, a, 32] → (∀ q, q < L.length → Xe L q = a.toNat → Xe L (q + 1) = 32 → Xx L q = some (k, 1)) → ∃ len, Xx L (skF L e) = some (k, len) ∧ skF L (skF L e + len) = e + (Ks k).length ∧ e ≤ skF L e ∧ skF L e < e + (Ks k).length ∧ skF L e < L.length ∧ Vd L e := by
  intro a ha ha2 hs hj
  rw [hs] at h h2 h3 ⊢
  obtain ⟨l0, b0, s1⟩ := Xv h
  obtain ⟨l1, b1, s2⟩ := Xv s1
  obtain ⟨l2, b2, _⟩ := Xv s2
  have na : a.toNat ≠ 32 := fun e => ha (UInt8.toNat_inj.1 e)
  have na2 : a.toNat ≠ 10 := fun e => ha2 (UInt8.toNat_inj.1 e)
  have hq : skF L e = e + 1 := Ju l0 b0 (by omega) (by omega)
  have hr : skF L (e + 1 + 1) = e + 1 + 1 + 1 := Ju l2 b2 h2 h3
  refine ⟨1, by rw [hq]; exact hj _ l1 b1 b2, by rw [hq, hr]; rfl, by omega, by rw [hq]; show e + 1 < e + 3; omega, by rw [hq]; exact l1, Kd b0 (by decide)⟩
 have go2 : ∀ a b : UInt8, a ≠ 32 → a ≠ 10 → Ks k = [32, a, b, 32] → (∀ q, q < L.length → Xe L q = a.toNat → q + 1 < L.length → Xe L (q + 1) = b.toNat → Xx L q = some (k, 2)) → ∃ len, Xx L (skF L e) = some (k, len) ∧ skF L (skF L e + len) = e + (Ks k).length ∧ e ≤ skF L e ∧ skF L e < e + (Ks k).length ∧ skF L e < L.length ∧ Vd L e := by
  intro a b ha ha2 hs hj
  rw [hs] at h h2 h3 ⊢
  obtain ⟨l0, b0, s1⟩ := Xv h
  obtain ⟨l1, b1, s2⟩ := Xv s1
  obtain ⟨l2, b2, s3⟩ := Xv s2
  obtain ⟨l3, b3, _⟩ := Xv s3
  have na : a.toNat ≠ 32 := fun e => ha (UInt8.toNat_inj.1 e)
  have na2 : a.toNat ≠ 10 := fun e => ha2 (UInt8.toNat_inj.1 e)
  have hq : skF L e = e + 1 := Ju l0 b0 (by omega) (by omega)
  have hr : skF L (e + 1 + 1 + 1) = e + 1 + 1 + 1 + 1 := Ju l3 b3 h2 h3
  refine ⟨2, by rw [hq]; exact hj _ l1 b1 l2 b2, by rw [hq]; exact hr, by omega, by rw [hq]; show e + 1 < e + 4; omega, by rw [hq]; exact l1, Kd b0 (by decide)⟩
 rcases hk with rfl | rfl | rfl | rfl | rfl | rfl | rfl | rfl | rfl
 ·refine go1 124 (by decide) (by decide) rfl fun q hq hb _ => ?_
  unfold Xx; rw [Ya hq hb]; rfl
 ·have hs : Ks 7 = [44, 32] := rfl
  rw [hs] at h h2 h3 ⊢
  obtain ⟨l0, b0, s1⟩ := Xv h
  obtain ⟨l1, b1, _⟩ := Xv s1
  have c0 : Xe L e = 44 := b0
  have hq : skF L e = e := Zo (by omega) (by omega)
  have hr : skF L (e + 1) = e + 1 + 1 := Ju l1 b1 h2 h3
  refine ⟨1, by rw [hq]; unfold Xx; rw [Ya l0 c0, Ya l0 c0]; rfl, by rw [hq, hr]; rfl, by omega, by rw [hq]; show e < e + 2; omega, by rw [hq]; exact l0, Kd b0 (by decide)⟩
 ·refine go1 43 (by decide) (by decide) rfl fun q hq hb _ => ?_
  have hb' : Xe L q = 43 := hb
  unfold Xx; simp only [Ya hq hb']; rfl
 ·refine go1 45 (by decide) (by decide) rfl fun q hq hb _ => ?_
  have hb' : Xe L q = 45 := hb
  unfold Xx; simp only [Ya hq hb']; rfl
 ·refine go2 61 61 (by decide) (by decide) rfl fun q hq hb hq1 hb1 => ?_
  have hb' : Xe L q = 61 := hb
  have hb1' : Xe L (q + 1) = 61 := hb1
  unfold Xx; simp only [Ya hq hb', Ya hq1 hb1']; rfl
 ·refine go2 33 61 (by decide) (by decide) rfl fun q hq hb hq1 hb1 => ?_
  have hb' : Xe L q = 33 := hb
  have hb1' : Xe L (q + 1) = 61 := hb1
  unfold Xx; simp only [Ya hq hb', Ya hq1 hb1']; rfl
 ·refine go1 60 (by decide) (by decide) rfl fun q hq hb hb1 => ?_
  have hb' : Xe L q = 60 := hb
  have h61 : Xd L (q + 1) 61 = false := by rw [X4]; omega
  unfold Xx; simp only [Ya hq hb', h61]; rfl
 ·refine go2 60 61 (by decide) (by decide) rfl fun q hq hb hq1 hb1 => ?_
  have hb' : Xe L q = 60 := hb
  have hb1' : Xe L (q + 1) = 61 := hb1
  unfold Xx; simp only [Ya hq hb', Ya hq1 hb1']; rfl
 ·refine go2 47 47 (by decide) (by decide) rfl fun q hq hb hq1 hb1 => ?_
  have hb' : Xe L q = 47 := hb
  have hb1' : Xe L (q + 1) = 47 := hb1
  unfold Xx; simp only [Ya hq hb', Ya hq1 hb1']; rfl
theorem Xge {R : RD} {L : List UInt8} {W : WP} {g : Nat} {least bind n : Int} {fs : List FN} {q : Nat} {k : Int} {len : Nat} (h : Xx L q = some (k, len)) (h1 : least ≤ Xq k) (h2 : Xd7 k ≤ bind) :
  Zq R L W (g + 1) least bind n fs q = Xw (Jj R L W k len n fs q) fun n fs q => Zq R L W g least (Xq k) n fs q := by
 rw [Zq, h]
 simp only
 rw [if_neg (by omega), if_neg (by omega)]
theorem Xo3 {R : RD} {L : List UInt8} {W : WP} {g : Nat} {least bind n : Int} {fs : List FN} {q : Nat} (h : ∀ k len, Xx L q = some (k, len) → Xq k < least) : Zq R L W (g + 1) least bind n fs q = some (n, fs, q) := by
 rw [Zq]
 cases e : Xx L q with
 | none => rfl
 | some x =>
  obtain ⟨k, len⟩ := x
  simp only
  rw [if_pos (h k len e)]

section
variable {R : Int → Int → List UInt8} {x : FN}
theorem Xu2 (h : x.kind = 1) : Xm R x = [46] := by unfold Xm; rw [h]; rfl
theorem Xu3 (h : x.kind = 2) : Xm R x = 46 :: x.name.data.toList := by unfold Xm; rw [h]; rfl
theorem Xu4 (h : x.kind = 3) : Xm R x = [46, 91] ++ Lib.itoa x.place ++ [93] := by unfold Xm; rw [h]; rfl
theorem Xu5 (h : x.kind = 4) : Xm R x = [46, 91, 93] := by unfold Xm; rw [h]; rfl
theorem Xu6 (h : x.kind = 5) : Xm R x = J3 x.cst := by unfold Xm; rw [h]; rfl
theorem Xu7 (h : x.kind = 8) : Xm R x = [91] ++ (if x.kids.length = 0 then [] else R (Xk x.kids 0) 1) ++ [93] := by unfold Xm; rw [h]; rfl
theorem Xu8 (h : x.kind = 9) : Xm R x = [123] ++ Yk R x.names x.kids x.kids.length ++ [125] := by unfold Xm; rw [h]; rfl
theorem Xqz (h : x.kind = 10) : Xm R x = [115, 101, 108, 101, 99, 116, 40] ++ R (Xk x.kids 0) 1 ++ [41] := by unfold Xm; rw [h]; rfl
theorem Xq0 (h : x.kind = 11) : Xm R x = [108, 101, 110, 103, 116, 104] := by unfold Xm; rw [h]; rfl
theorem Xq1 (h : x.kind = 12) : Xm R x = [107, 101, 121, 115] := by unfold Xm; rw [h]; rfl
theorem Xq2 (h : x.kind = 13) : Xm R x = [110, 111, 116] := by unfold Xm; rw [h]; rfl
theorem Xq3 (h : x.kind = 14) : Xm R x = [101, 109, 112, 116, 121] := by unfold Xm; rw [h]; rfl
theorem Xq4 (h : x.kind = 22) : Xm R x = [105, 102, 32] ++ R (Xk x.kids 0) 1 ++ [32, 116, 104, 101, 110, 32] ++ R (Xk x.kids 1) 1 ++ [32, 101, 108, 115, 101, 32] ++ R (Xk x.kids 2) 1 ++ [32, 101, 110, 100] := by unfold Xm; rw [h]; rfl
theorem Xq5 (h : x.kind = 23) : Xm R x = R (Xk x.kids 0) 6 ++ [63] := by unfold Xm; rw [h]; rfl
theorem Xq6 (h : Xa9 x.kind) : Xm R x = R (Xk x.kids 0) (Vc x.kind) ++ Ks x.kind ++ R (Xk x.kids 1) (Ja x.kind) := by
 unfold Xm
 rcases h with h | h | h | h | h | h | h | h | h <;> (rw [h]; rfl)
end
theorem Xb8 {k : Int} (h1 : 1 ≤ k) (h2 : k ≤ 23) : k = 1 ∨ k = 2 ∨ k = 3 ∨ k = 4 ∨ k = 5 ∨ k = 8 ∨ k = 9 ∨ k = 10 ∨ k = 11 ∨ k = 12 ∨ k = 13 ∨ k = 14 ∨ k = 22 ∨ k = 23 ∨ Xa9 k := by unfold Xa9; omega
theorem Xno {T : Nat → Option (Nat × Nat)} {a n : Nat} {l : List Int} (h : K5 T a l n) (hl : l.length = 1) : ∃ m p, l = [((m : Nat) : Int)] ∧ T m = some p ∧ p.1 = a ∧ m + 1 = n := by
 match l, hl with
 | [k], _ => obtain ⟨m, p, rfl, h1, h2, h3⟩ := h; exact ⟨m, p, rfl, h1, h2, h3⟩
theorem Xzu {T : Nat → Option (Nat × Nat)} {a n : Nat} {l : List Int} (h : K5 T a l n) (hl : l.length = 2) : ∃ m p m' p', l = [((m : Nat) : Int), ((m' : Nat) : Int)] ∧ T m = some p ∧ p.1 = a ∧ T m' = some p' ∧ p'.1 = m + 1 ∧ m' + 1 = n := by
 match l, hl with
 | [k, k'], _ => obtain ⟨m, p, rfl, h1, h2, m', p', rfl, h3, h4, h5⟩ := h; exact ⟨m, p, m', p', rfl, h1, h2, h3, h4, h5⟩
theorem Xzv {T : Nat → Option (Nat × Nat)} {a n : Nat} {l : List Int} (h : K5 T a l n) (hl : l.length = 3) : ∃ m p m' p' m'' p'', l = [((m : Nat) : Int), ((m' : Nat) : Int), ((m'' : Nat) : Int)] ∧ T m = some p ∧ p.1 = a ∧ T m' = some p' ∧ p'.1 = m + 1 ∧ T m'' = some p'' ∧ p''.1 = m' + 1 ∧ m'' + 1 = n := by
 match l, hl with
 | [k, k', k''], _ => obtain ⟨m, p, rfl, h1, h2, m', p', rfl, h3, h4, m'', p'', rfl, h5, h6, h7⟩ := h; exact ⟨m, p, m', p', m'', p'', rfl, h1, h2, h3, h4, h5, h6, h7⟩
theorem Xq7 {fs : List FN} {m : Nat} {p : Nat × Nat} (h : tr (Yq fs) m = some p) : Zd fs m ≤ m := by rw [Qv h]; exact Gj h
theorem Xq8 (k : Int) : 1 ≤ Xq k ∧ Xq k ≤ 7 := by
 unfold Xq; repeat' split
 all_goals omega
section
variable {fs : List FN} (hok : okF fs = true)
include hok
theorem Vr {L : List UInt8} : ∀ (N n : Nat), n < N → n < fs.length → ∀ F l p, n < F → Sit L p (Xp fs F (n : Int) l) → p < L.length ∧ Xe L p ≠ 32 ∧ Xe L p ≠ 10 ∧ Xe L p ≠ 93 := by
 obtain ⟨o1, o2, o3, o4⟩ := J1 hok
 intro N
 induction N with
 | zero => intro n h; omega
 | succ N ih =>
  intro n hN hn F l p hF h
  match F, hF with
  | F + 1, hF =>
   have fin : ∀ {c : UInt8} {B : List UInt8}, Sit L p (c :: B) → c.toNat ≠ 32 → c.toNat ≠ 10 → c.toNat ≠ 93 → p < L.length ∧ Xe L p ≠ 32 ∧ Xe L p ≠ 10 ∧ Xe L p ≠ 93 := fun h a b c => by
    obtain ⟨h1, h2, _⟩ := Xv h
    rw [h2]; exact ⟨h1, a, b, c⟩
   rw [Xp] at h
   split at h
   ·exact fin (show Sit L p (40 :: (Xm (Xp fs F) (Xj fs (n : Int).toNat) ++ [41])) from h) (by decide) (by decide) (by decide)
   ·rw [Int.toNat_natCast] at h
    obtain ⟨x, hx⟩ : ∃ x, Xj fs n = x := ⟨_, rfl⟩
    have hb := o2 n hn
    have hch := J7 (o3 n hn)
    rw [hx] at h hb hch
    obtain ⟨z1, z2, z3, z4, z5, z6, z7, z8, z9, z10, z11⟩ := Wh hb
    have kid0 : ∀ l', (∀ B, Xm (Xp fs F) x = Xp fs F (Xk x.kids 0) l' ++ B → True) → (∃ B, Xm (Xp fs F) x = Xp fs F (Xk x.kids 0) l' ++ B) → (∃ k ks, x.kids = k :: ks) → p < L.length ∧ Xe L p ≠ 32 ∧ Xe L p ≠ 10 ∧ Xe L p ≠ 93 := by
     intro l' _ ⟨B, hB⟩ ⟨k, ks, hk⟩
     rw [hk] at hch
     obtain ⟨m, q, rfl, h1, h2, h3⟩ := hch
     have hm : m < n := by
      have := Xfs (o3 n hn).choose_spec (m : Int) (by show (m : Int) ∈ (Xj fs n).kids; rw [hx, hk]; exact List.mem_cons_self ..)
      omega
     rw [hB, hk] at h
     exact ih m (by omega) (by omega) F l' p (by omega) h.left
    rcases Xb8 z10 z11 with k | k | k | k | k | k | k | k | k | k | k | k | k | k | k
    ·rw [Xu2 k] at h; exact fin h (by decide) (by decide) (by decide)
    ·rw [Xu3 k] at h; exact fin h (by decide) (by decide) (by decide)
    ·rw [Xu4 k] at h; exact fin (show Sit L p (46 :: _) from h) (by decide) (by decide) (by decide)
    ·rw [Xu5 k] at h; exact fin h (by decide) (by decide) (by decide)
    ·rw [Xu6 k] at h
     rcases Xiz (z7 k) with e | e | e | ⟨v, e, _⟩ | ⟨t, e, _⟩
     ·rw [e] at h
      have e2 : J3 [⟨1, 0, ByteArray.empty, [], []⟩] = [110, 117, 108, 108] := (Z9 false 0 0).1 rfl
      rw [e2] at h; exact fin h (by decide) (by decide) (by decide)
     ·rw [e] at h
      have e2 : J3 [⟨2, 0, ByteArray.empty, [], []⟩] = [102, 97, 108, 115, 101] := (Z9 false 0 0).2.1 rfl
      rw [e2] at h; exact fin h (by decide) (by decide) (by decide)
     ·rw [e] at h
      have e2 : J3 [⟨2, 1, ByteArray.empty, [], []⟩] = [116, 114, 117, 101] := (Z9 false 0 0).2.1 rfl
      rw [e2] at h; exact fin h (by decide) (by decide) (by decide)
     ·rw [e] at h
      have e2 : J3 [⟨3, v, ByteArray.empty, [], []⟩] = Lib.itoa v := (Z9 false 0 0).2.2.1 rfl
      rw [e2] at h
      obtain ⟨q1, q2⟩ := Xbx h
      rcases q2 with q2 | q2
      ·rw [q2]; exact ⟨q1, by decide, by decide, by decide⟩
      ·unfold Zi at q2; simp at q2; exact ⟨q1, by omega, by omega, by omega⟩
     ·rw [e] at h
      have e2 : J3 [⟨4, 0, t, [], []⟩] = Gr t := (Z9 false 0 0).2.2.2.1 rfl
      rw [e2] at h
      exact fin (show Sit L p (34 :: _) from h) (by decide) (by decide) (by decide)
    ·rw [Xu7 k] at h; exact fin (show Sit L p (91 :: _) from h) (by decide) (by decide) (by decide)
    ·rw [Xu8 k] at h; exact fin (show Sit L p (123 :: _) from h) (by decide) (by decide) (by decide)
    ·rw [Xqz k] at h; exact fin (show Sit L p (115 :: _) from h) (by decide) (by decide) (by decide)
    ·rw [Xq0 k] at h; exact fin h (by decide) (by decide) (by decide)
    ·rw [Xq1 k] at h; exact fin h (by decide) (by decide) (by decide)
    ·rw [Xq2 k] at h; exact fin h (by decide) (by decide) (by decide)
    ·rw [Xq3 k] at h; exact fin h (by decide) (by decide) (by decide)
    ·rw [Xq4 k] at h; exact fin (show Sit L p (105 :: _) from (by simpa using h)) (by decide) (by decide) (by decide)
    ·refine kid0 6 (fun _ _ => trivial) ⟨_, Xq5 k⟩ ?_
     have := Xak hb (by omega) (by omega)
     rw [k] at this
     match hk : x.kids, this with
     | a :: r, _ => exact ⟨a, r, rfl⟩
    ·refine kid0 (Vc x.kind) (fun _ _ => trivial) ⟨_, by rw [Xq6 k, List.append_assoc]⟩ ?_
     have := Xak hb (by unfold Xa9 at k; omega) (by unfold Xa9 at k; omega)
     have e2 : kidsN x.kind = 2 := by unfold kidsN; unfold Xa9 at k; rw [if_pos (by omega)]
     rw [e2] at this
     match hk : x.kids, this with
     | a :: r, _ => exact ⟨a, r, rfl⟩
end

def Xn8 (fs : List FN) (L : List UInt8) (n : Nat) : Prop := ∀ F l p f, n < F → 1 ≤ l → l ≤ 6 → Sit L p (Xp fs F (n : Int) l) → L.length < p + f → Vd L (p + (Xp fs F (n : Int) l).length) → Gl L l (p + (Xp fs F (n : Int) l).length) →
 Yj WPr L f l (fs.take (Zd fs n)) p = some ((n : Int), fs.take (n + 1), skF L (p + (Xp fs F (n : Int) l).length))
def Xas (fs : List FN) (L : List UInt8) (n f G : Nat) (least l : Int) (p q : Nat) : Prop := ∃ G' bnd, L.length < skF L q + G' ∧ l ≤ bnd ∧ Xw (Xo WPr (Yj WPr L f) L (fs.take (Zd fs n)) p) (fun n fs q => Zq (Yj WPr L f) L WPr G least 7 n fs q) = Zq (Yj WPr L f) L WPr G' least bnd (n : Int) (fs.take (n + 1)) (skF L q)
def Xn9 (fs : List FN) (L : List UInt8) (n : Nat) : Prop := ∀ F l p f G least, n < F → 1 ≤ l → l ≤ 6 → least ≤ l → Sit L p (Xp fs F (n : Int) l) → L.length < p + (f + 1) → L.length < p + G → Vd L (p + (Xp fs F (n : Int) l).length) → (l ≤ Xq (Xj fs n).kind → Gl L (Gp (Xj fs n).kind) (p + (Xp fs F (n : Int) l).length)) →
 Xas fs L n f G least l p (p + (Xp fs F (n : Int) l).length)
def Xoa (fs : List FN) (L : List UInt8) (n : Nat) : Prop := ∀ F l p f G least, n < F + 1 → 1 ≤ l → l ≤ 6 → l ≤ Xq (Xj fs n).kind → least ≤ l → Sit L p (Xm (Xp fs F) (Xj fs n)) → L.length < p + (f + 1) → L.length < p + G → Vd L (p + (Xm (Xp fs F) (Xj fs n)).length) → Gl L (Gp (Xj fs n).kind) (p + (Xm (Xp fs F) (Xj fs n)).length) →
 Xas fs L n f G least l p (p + (Xm (Xp fs F) (Xj fs n)).length)
theorem Xma {fs : List FN} {F n : Nat} {l : Int} (h : l ≤ Xq (Xj fs n).kind) : Xp fs (F + 1) (n : Int) l = Xm (Xp fs F) (Xj fs n) := by
 rw [Xp, Int.toNat_natCast, if_neg (by omega)]
theorem Xug {fs : List FN} {F n : Nat} {l : Int} (h : Xq (Xj fs n).kind < l) : Xp fs (F + 1) (n : Int) l = [40] ++ Xm (Xp fs F) (Xj fs n) ++ [41] := by
 rw [Xp, Int.toNat_natCast, if_pos h]
theorem V9 {fs : List FN} {L : List UInt8} {n f G : Nat} {least l : Int} {p q : Nat} (hw : Xo WPr (Yj WPr L f) L (fs.take (Zd fs n)) p = some ((n : Int), fs.take (n + 1), skF L q)) (hl : l ≤ 7) (hG : L.length < p + G) (hpq : p ≤ q) : Xas fs L n f G least l p q := by
 have := Xu L q
 exact ⟨G, 7, by omega, hl, by rw [hw]; rfl⟩
theorem Xob {L : List UInt8} {f : Nat} {l : Int} {fs : List FN} {p : Nat} : Yj WPr L (f + 1) l fs p = Xw (Xo WPr (Yj WPr L f) L fs p) (fun n fs q => Zq (Yj WPr L f) L WPr (L.length + 1) l 7 n fs q) := rfl
theorem Xg9 {fs : List FN} {L : List UInt8} {n f : Nat} {l : Int} {p q : Nat} (hq : q ≤ L.length) (h : Xas fs L n f (L.length + 1) l l p q) (hs : Gl L l q) : Yj WPr L (f + 1) l (fs.take (Zd fs n)) p = some ((n : Int), fs.take (n + 1), skF L q) := by
 obtain ⟨G', bnd, h1, h2, h3⟩ := h
 rw [Xob, h3]
 have := Xy hq
 obtain ⟨g, rfl⟩ : ∃ g, G' = g + 1 := ⟨G' - 1, by omega⟩
 exact Xo3 hs
theorem Xld {fs : List FN} {L : List UInt8} {n F f p : Nat} (hf : L.length < p + (f + 1)) (h : Sit L p ([40] ++ Xm (Xp fs F) (Xj fs n) ++ [41]))
  (hfirst : ∀ q, Sit L q (Xm (Xp fs F) (Xj fs n)) → skF L q = q) (hV : Xoa fs L n) (hn : n < F + 1) :
  Xo WPr (Yj WPr L f) L (fs.take (Zd fs n)) p = some ((n : Int), fs.take (n + 1), skF L (p + ([40] ++ Xm (Xp fs F) (Xj fs n) ++ [41]).length)) := by
 obtain ⟨B, hB⟩ : ∃ B, Xm (Xp fs F) (Xj fs n) = B := ⟨_, rfl⟩
 unfold Xoa at hV
 have hv := hV F 1 (p + 1) (f - 1) (L.length + 1) 1 hn (by decide) (by decide) (Xq8 _).1 (by decide)
 rw [hB] at h hfirst hv ⊢
 obtain ⟨l0, b0, s1⟩ := Xv (show Sit L p (40 :: (B ++ [41])) from h)
 have sB := s1.left
 have s2 := s1.right
 obtain ⟨l2, b2, _⟩ := Xv s2
 have hb2 : Xe L (p + 1 + B.length) = 41 := b2
 have hlen := sB.len
 have hq : skF L (p + 1 + B.length) = p + 1 + B.length := Zo (by omega) (by omega)
 have hw := hv sB (by omega) (by omega) (Kd b2 (by decide)) (Wi hb2 (by omega))
 have hr := Xg9 (by omega) hw (Wi hb2 (by omega))
 rw [Xvm l0 b0, hfirst _ sB]
 unfold Zf
 rw [show f = f - 1 + 1 by omega, hr, Xz]
 unfold Ye
 rw [hq, if_pos (Xg.2 ⟨l2, hb2⟩)]
 have e1 : ([40] ++ B ++ [41] : List UInt8).length = B.length + 2 := by simp
 rw [e1, show p + (B.length + 2) = p + 1 + B.length + 1 by omega]
theorem Xmb {fs : List FN} {L : List UInt8} {n : Nat} (hW : Xn9 fs L n) : Xn8 fs L n := by
 intro F l p f hF h1 h6 hs hf hfol hstop
 have hlen := hs.len
 have h := hW F l p (f - 1) (L.length + 1) l hF h1 h6 (Int.le_refl _) hs (by omega) (by omega) hfol (fun hl => Xwh hstop (Int.le_trans hl (Xwi _)))
 have := Xg9 hlen h hstop
 rw [show f - 1 + 1 = f by omega] at this
 exact this
theorem Xxc {fs : List FN} (hok : okF fs = true) {L : List UInt8} {n : Nat} (hn : n < fs.length) (hV : Xoa fs L n) : Xn9 fs L n := by
 intro F l p f G least hF h1 h6 hle hs hf hG hfol hstop
 match F, hF with
 | F + 1, hF =>
  by_cases hl : l ≤ Xq (Xj fs n).kind
  ·rw [Xma hl] at hs hfol hstop ⊢
   exact hV F l p f G least hF h1 h6 hl hle hs hf hG hfol (hstop hl)
  ·rw [Xug (by omega)] at hs hfol ⊢
   refine V9 (Xld hf hs (fun q hq => ?_) hV hF) (by omega) hG (by omega)
   have hb : Xp fs (F + 1) (n : Int) 1 = Xm (Xp fs F) (Xj fs n) := Xma (Xq8 _).1
   have := Vr hok (n + 1) n (by omega) hn (F + 1) 1 q hF (by rw [hb]; exact hq)
   exact Zo this.2.1 this.2.2.1
end Go.Proofs.YtehihemfepbmfaaGreatDoor
