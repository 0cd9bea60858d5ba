import Derived.Test.YtehihemfepbmfaaGreatDoorFrU
import Derived.Test.YtehihemfepbmfaaGreatDoorFtD
namespace Go.Proofs.YtehihemfepbmfaaGreatDoor
open Go.RowKit
set_option linter.unusedSimpArgs false
set_option linter.unusedVariables false
set_option linter.unusedSectionVars false
def Zr (l : Int) (L : List UInt8) (q : Nat) : Option (Int × Nat) := (Xx L q).bind fun x => if Xq x.1 = l then some x else none
theorem Gu (L : List UInt8) (q : Nat) :
  (Xd L q 124 = true ∧ Xx L q = some (6, 1)) ∨ (Xd L q 44 = true ∧ Xx L q = some (7, 1)) ∨ (Xd L q 47 = true ∧ Xd L (q + 1) 47 = true ∧ Xx L q = some (21, 2)) ∨
  (Xd L q 61 = true ∧ Xd L (q + 1) 61 = true ∧ Xx L q = some (17, 2)) ∨ (Xd L q 33 = true ∧ Xd L (q + 1) 61 = true ∧ Xx L q = some (18, 2)) ∨
  (Xd L q 60 = true ∧ Xd L (q + 1) 61 = true ∧ Xx L q = some (20, 2)) ∨ (Xd L q 60 = true ∧ Xd L (q + 1) 61 = false ∧ Xx L q = some (19, 1)) ∨
  (Xd L q 43 = true ∧ Xx L q = some (15, 1)) ∨ (Xd L q 45 = true ∧ Xx L q = some (16, 1)) ∨ (Xd L q 63 = true ∧ Xx L q = some (23, 1)) ∨
  (Xx L q = none ∧ Xd L q 124 = false ∧ Xd L q 44 = false ∧ ¬ (Xd L q 47 = true ∧ Xd L (q + 1) 47 = true) ∧ ¬ (Xd L q 61 = true ∧ Xd L (q + 1) 61 = true) ∧ ¬ (Xd L q 33 = true ∧ Xd L (q + 1) 61 = true) ∧ Xd L q 60 = false ∧ Xd L q 43 = false ∧ Xd L q 45 = false ∧ Xd L q 63 = false) := by
 unfold Xx
 by_cases h1 : Xd L q 124 = true
 ·left; exact ⟨h1, by rw [if_pos h1]⟩
 by_cases h2 : Xd L q 44 = true
 ·right; left; exact ⟨h2, by rw [if_neg h1, if_pos h2]⟩
 by_cases h3 : Xd L q 47 = true ∧ Xd L (q + 1) 47 = true
 ·right; right; left; exact ⟨h3.1, h3.2, by rw [if_neg h1, if_neg h2, if_pos h3]⟩
 by_cases h4 : Xd L q 61 = true ∧ Xd L (q + 1) 61 = true
 ·right; right; right; left; exact ⟨h4.1, h4.2, by rw [if_neg h1, if_neg h2, if_neg h3, if_pos h4]⟩
 by_cases h5 : Xd L q 33 = true ∧ Xd L (q + 1) 61 = true
 ·right; right; right; right; left; exact ⟨h5.1, h5.2, by rw [if_neg h1, if_neg h2, if_neg h3, if_neg h4, if_pos h5]⟩
 by_cases h6 : Xd L q 60 = true ∧ Xd L (q + 1) 61 = true
 ·right; right; right; right; right; left; exact ⟨h6.1, h6.2, by rw [if_neg h1, if_neg h2, if_neg h3, if_neg h4, if_neg h5, if_pos h6]⟩
 by_cases h7 : Xd L q 60 = true
 ·right; right; right; right; right; right; left
  exact ⟨h7, by rw [← Bool.not_eq_true]; exact fun e => h6 ⟨h7, e⟩, by rw [if_neg h1, if_neg h2, if_neg h3, if_neg h4, if_neg h5, if_neg h6, if_pos h7]⟩
 by_cases h8 : Xd L q 43 = true
 ·right; right; right; right; right; right; right; left; exact ⟨h8, by rw [if_neg h1, if_neg h2, if_neg h3, if_neg h4, if_neg h5, if_neg h6, if_neg h7, if_pos h8]⟩
 by_cases h9 : Xd L q 45 = true
 ·right; right; right; right; right; right; right; right; left; exact ⟨h9, by rw [if_neg h1, if_neg h2, if_neg h3, if_neg h4, if_neg h5, if_neg h6, if_neg h7, if_neg h8, if_pos h9]⟩
 by_cases h10 : Xd L q 63 = true
 ·right; right; right; right; right; right; right; right; right; left; exact ⟨h10, by rw [if_neg h1, if_neg h2, if_neg h3, if_neg h4, if_neg h5, if_neg h6, if_neg h7, if_neg h8, if_neg h9, if_pos h10]⟩
 right; right; right; right; right; right; right; right; right; right
 refine ⟨by rw [if_neg h1, if_neg h2, if_neg h3, if_neg h4, if_neg h5, if_neg h6, if_neg h7, if_neg h8, if_neg h9, if_neg h10], ?_, ?_, h3, h4, h5, ?_, ?_, ?_, ?_⟩ <;> rw [← Bool.not_eq_true] <;> assumption
theorem Qg {L : List UInt8} {q a b : Nat} (h : Xd L q a = true) (hab : a ≠ b) : Xd L q b = false := by
 rw [X4]; rintro ⟨_, e⟩; exact hab ((Xg.1 h).2.symm.trans e)
section
variable {L : List UInt8} {q : Nat}
theorem Xx1 : Zr 1 L q = if Xd L q 124 = true then some (6, 1) else none := by
 unfold Zr
 rcases Gu L q with ⟨h, e⟩ | ⟨h, e⟩ | ⟨h, _, e⟩ | ⟨h, _, e⟩ | ⟨h, _, e⟩ | ⟨h, _, e⟩ | ⟨h, _, e⟩ | ⟨h, e⟩ | ⟨h, e⟩ | ⟨h, e⟩ | ⟨e, h1, _⟩
 ·rw [e, if_pos h]; rfl
 all_goals first
  | (rw [e, if_neg (by rw [Qg h (by decide)]; decide)]; rfl)
  | (rw [e, if_neg (by rw [h1]; decide)]; rfl)
theorem Xx2 : Zr 2 L q = if Xd L q 44 = true then some (7, 1) else none := by
 unfold Zr
 rcases Gu L q with ⟨h, e⟩ | ⟨h, e⟩ | ⟨h, _, e⟩ | ⟨h, _, e⟩ | ⟨h, _, e⟩ | ⟨h, _, e⟩ | ⟨h, _, e⟩ | ⟨h, e⟩ | ⟨h, e⟩ | ⟨h, e⟩ | ⟨e, _, h1, _⟩
 rotate_left
 ·rw [e, if_pos h]; rfl
 all_goals first
  | (rw [e, if_neg (by rw [Qg h (by decide)]; decide)]; rfl)
  | (rw [e, if_neg (by rw [h1]; decide)]; rfl)
theorem Xz3 : Zr 3 L q = if Xd L q 47 = true ∧ Xd L (q + 1) 47 = true then some (21, 2) else none := by
 unfold Zr
 rcases Gu L q with ⟨h, e⟩ | ⟨h, e⟩ | ⟨h, h', e⟩ | ⟨h, _, e⟩ | ⟨h, _, e⟩ | ⟨h, _, e⟩ | ⟨h, _, e⟩ | ⟨h, e⟩ | ⟨h, e⟩ | ⟨h, e⟩ | ⟨e, _, _, h1, _⟩
 rotate_left 2
 ·rw [e, if_pos ⟨h, h'⟩]; rfl
 all_goals first
  | (rw [e, if_neg (fun hh => by rw [Qg h (by decide)] at hh; exact absurd hh.1 (by decide))]; rfl)
  | (rw [e, if_neg h1]; rfl)
theorem Xig : Zr 4 L q = if Xd L q 61 = true ∧ Xd L (q + 1) 61 = true then some (17, 2) else if Xd L q 33 = true ∧ Xd L (q + 1) 61 = true then some (18, 2) else if Xd L q 60 = true ∧ Xd L (q + 1) 61 = true then some (20, 2) else if Xd L q 60 = true then some (19, 1) else none := by
 unfold Zr
 rcases Gu L q with ⟨h, e⟩ | ⟨h, e⟩ | ⟨h, _, e⟩ | ⟨h, h', e⟩ | ⟨h, h', e⟩ | ⟨h, h', e⟩ | ⟨h, h', e⟩ | ⟨h, e⟩ | ⟨h, e⟩ | ⟨h, e⟩ | ⟨e, _, _, _, h1, h2, h3, _⟩
 rotate_left 3
 ·rw [e, if_pos ⟨h, h'⟩]; rfl
 ·rw [e, if_neg (fun hh => by rw [Qg h (by decide)] at hh; exact absurd hh.1 (by decide)), if_pos ⟨h, h'⟩]; rfl
 ·rw [e, if_neg (fun hh => by rw [Qg h (by decide)] at hh; exact absurd hh.1 (by decide)), if_neg (fun hh => by rw [Qg h (by decide)] at hh; exact absurd hh.1 (by decide)), if_pos ⟨h, h'⟩]; rfl
 ·rw [e, if_neg (fun hh => by rw [Qg h (by decide)] at hh; exact absurd hh.1 (by decide)), if_neg (fun hh => by rw [Qg h (by decide)] at hh; exact absurd hh.1 (by decide)), if_neg (fun hh => by rw [h'] at hh; exact absurd hh.2 (by decide)), if_pos h]; rfl
 all_goals first
  | (rw [e, if_neg h1, if_neg h2, if_neg (fun hh => by rw [h3] at hh; exact absurd hh.1 (by decide)), if_neg (by rw [h3]; decide)]; rfl)
  | (rw [e, if_neg (fun hh => by rw [Qg h (by decide)] at hh; exact absurd hh.1 (by decide)), if_neg (fun hh => by rw [Qg h (by decide)] at hh; exact absurd hh.1 (by decide)), if_neg (fun hh => by rw [Qg h (by decide)] at hh; exact absurd hh.1 (by decide)), if_neg (by rw [Qg h (by decide)]; decide)]; rfl)
theorem Xsq : Zr 5 L q = if Xd L q 43 = true then some (15, 1) else if Xd L q 45 = true then some (16, 1) else none := by
 unfold Zr
 rcases Gu L q with ⟨h, e⟩ | ⟨h, e⟩ | ⟨h, _, e⟩ | ⟨h, _, e⟩ | ⟨h, _, e⟩ | ⟨h, _, e⟩ | ⟨h, _, e⟩ | ⟨h, e⟩ | ⟨h, e⟩ | ⟨h, e⟩ | ⟨e, _, _, _, _, _, _, h1, h2, _⟩
 rotate_left 7
 ·rw [e, if_pos h]; rfl
 ·rw [e, if_neg (by rw [Qg h (by decide)]; decide), if_pos h]; rfl
 all_goals first
  | (rw [e, if_neg (by rw [Qg h (by decide)]; decide), if_neg (by rw [Qg h (by decide)]; decide)]; rfl)
  | (rw [e, if_neg (by rw [h1]; decide), if_neg (by rw [h2]; decide)]; rfl)
theorem Xz4 : Zr 6 L q = if Xd L q 63 = true then some (23, 1) else none := by
 unfold Zr
 rcases Gu L q with ⟨h, e⟩ | ⟨h, e⟩ | ⟨h, _, e⟩ | ⟨h, _, e⟩ | ⟨h, _, e⟩ | ⟨h, _, e⟩ | ⟨h, _, e⟩ | ⟨h, e⟩ | ⟨h, e⟩ | ⟨h, e⟩ | ⟨e, _, _, _, _, _, _, _, _, h1⟩
 rotate_left 9
 ·rw [e, if_pos h]; rfl
 all_goals first
  | (rw [e, if_neg (by rw [Qg h (by decide)]; decide)]; rfl)
  | (rw [e, if_neg (by rw [h1]; decide)]; rfl)
end
theorem Xlq {S : RD} {L : List UInt8} {W : WP} {l g : Nat} {n : Int} {fs : List FN} {p : Nat} : Js S L W l (g + 1) n fs p = match Zr (l : Int) L p with
  | none => some (n, fs, p)
  | some (k, len) => Xw (Jj S L W k len n fs p) fun n fs q => if l = 6 ∨ l = 5 ∨ l = 2 then Js S L W l g n fs q else some (n, fs, q) := by
 rw [Js]
 unfold Zr
 cases h : Xx L p with
 | none => rfl
 | some x =>
  obtain ⟨k, len⟩ := x
  simp only [Option.bind_some]
  by_cases e : Xq k = (l : Int)
  ·rw [if_pos e, if_pos e]
  ·rw [if_neg e, if_neg e]

theorem Xlx {x : FN} (h : Xl x = true) (hk : kidsN x.kind = 0) : x.kids = [] := by
 have h8 : x.kind ≠ 8 := fun e => by rw [e] at hk; cases hk
 have h9 : x.kind ≠ 9 := fun e => by rw [e] at hk; cases hk
 have := Xak h h8 h9
 rw [hk] at this
 exact List.eq_nil_of_length_eq_zero (by omega)
theorem Xwv {L : List UInt8} {q : Nat} (h : Vd L q) : Yn L q = false := by
 unfold Yn
 have := h.1
 unfold nmC at this
 rw [Bool.or_eq_false_iff] at this
 rw [this.1, Bool.and_false]
theorem Xbn {L : List UInt8} {q c : Nat} (h : Xe L q ≠ c) : Xd L q c = false := by rw [X4]; exact fun e => h e.2
theorem Kz {W : WP} {Rd : RD} {L : List UInt8} {fs : List FN} {p : Nat} {c : UInt8} {r : List UInt8} (h : Sit L p (c :: r)) (hc : Yl c.toNat = true) (hw : ∀ d ∈ c :: r, nmC d.toNat = true) (hf : nmC (Xe L (p + (c :: r).length)) = false) : Xo W Rd L fs p = X1 W Rd L (c :: r) fs (skF L (p + (c :: r).length)) := by
 obtain ⟨l0, b0, _⟩ := Xv h
 obtain ⟨w1, w2⟩ := Xaa h (by simp) hw hf
 rw [Xoz l0 b0 hc, w1, w2]
section
variable {fs : List FN} (hok : okF fs = true) {L : List UInt8} {n : Nat} (hn : n < fs.length) {Rd : RD}
include hok hn
theorem Xnj {R : Int → Int → List UInt8} {p : Nat} (hk : kidsN (Xj fs n).kind = 0) (h : Sit L p (Xm R (Xj fs n))) (hfol : Vd L (p + (Xm R (Xj fs n)).length)) :
  Xo WPr Rd L (fs.take n) p = some ((n : Int), fs.take (n + 1), skF L (p + (Xm R (Xj fs n)).length)) := by
 obtain ⟨o1, o2, o3, o4⟩ := J1 hok
 have hb := o2 n hn
 obtain ⟨x, hx⟩ : ∃ x, Xj fs n = x := ⟨_, rfl⟩
 rw [hx] at hb h hfol hk ⊢
 have hkids := Xlx hb hk
 obtain ⟨z1, z2, z3, z4, z5, z6, z7, z8, z9, z10, z11⟩ := Wh hb
 have add : ∀ {y : FN} {q : Nat}, x = y → Xs WPr y (fs.take n) q = some ((n : Int), fs.take (n + 1), q) := fun e => Xd1 hn (hx.trans e)
 have K : x.kind ≠ 2 → x.kind ≠ 3 → x.kind ≠ 5 → x.kind ≠ 9 → x = Qn x.kind := fun a b c d => Xz6 hb a b c d hkids
 rcases Xb8 z10 z11 with k | k | k | k | k | k | k | k | k | k | k | k | k | k | k
 ·rw [Xu2 k] at h hfol ⊢
  obtain ⟨l0, b0, _⟩ := Xv h
  have hf : Vd L (p + 1) := hfol
  rw [Xdh l0 b0]
  unfold Yg
  rw [if_neg (by rw [Xwv hf]; decide), if_neg (by rw [Xbn hf.2]; decide)]
  exact add (by have := K (by omega) (by omega) (by omega) (by omega); rw [k] at this; exact this)
 ·rw [Xu3 k] at h hfol ⊢
  obtain ⟨l0, b0, s1⟩ := Xv h
  obtain ⟨n1, n2, n3⟩ := Xd2 (z5 k)
  have e1 : p + (46 :: x.name.data.toList).length = p + 1 + x.name.data.toList.length := by simp; omega
  rw [e1] at hfol ⊢
  obtain ⟨w1, w2⟩ := Xaa s1 n1 n2 hfol.1
  have hl : Yn L (p + 1) = true := by
   match hd : x.name.data.toList, n1 with
   | c :: r, _ =>
    rw [hd] at s1
    obtain ⟨l1, b1, _⟩ := Xv s1
    rw [Us l1 b1]; exact n3 c r hd
  rw [Xdh l0 b0]
  unfold Yg
  rw [if_pos hl, w1, w2, Qx]
  exact add (by rw [Xbl x, k, z2 (by omega), z3 (by omega), z4 (by omega), hkids])
 ·rw [Xu4 k] at h hfol ⊢
  obtain ⟨l0, b0, s1⟩ := Xv (show Sit L p (46 :: (91 :: (Lib.itoa x.place ++ [93]))) from (by simpa using h))
  obtain ⟨l1, b1, s2⟩ := Xv s1
  have s3 := s2.right
  obtain ⟨l3, b3, _⟩ := Xv s3
  have c3 : Xe L (p + 1 + 1 + (Lib.itoa x.place).length) = 93 := b3
  have c1 : Xe L (p + 1) = 91 := b1
  obtain ⟨f1, f2⟩ := Xbx s2.left
  have f3 : Xe L (p + 1 + 1) ≠ 32 ∧ Xe L (p + 1 + 1) ≠ 10 ∧ Xe L (p + 1 + 1) ≠ 93 := by
   rcases f2 with f2 | f2
   ·omega
   ·unfold Zi at f2; simp at f2; omega
  have hp80 := z6 k
  rw [Xdh l0 b0]
  unfold Yg Qe
  rw [if_neg (by rw [Us l1 b1]; decide), if_pos (by rw [Ya l1 c1]; decide), Zo f3.1 f3.2.1, if_neg (by rw [Xbn f3.2.2]; decide),
   Xo2 s2.left (by omega) (by omega) (by rw [c3]; decide), Zo (by omega) (by omega)]
  unfold Ye
  rw [if_pos (Xg.2 ⟨l3, c3⟩), show p + ([46, 91] ++ Lib.itoa x.place ++ [93] : List UInt8).length = p + 1 + 1 + (Lib.itoa x.place).length + 1 by simp; omega]
  exact add (by rw [Xbl x, k, z1 (by omega), z3 (by omega), z4 (by omega), hkids])
 ·rw [Xu5 k] at h hfol ⊢
  obtain ⟨l0, b0, s1⟩ := Xv h
  obtain ⟨l1, b1, s2⟩ := Xv s1
  obtain ⟨l2, b2, _⟩ := Xv s2
  have c1 : Xe L (p + 1) = 91 := b1
  have c2 : Xe L (p + 1 + 1) = 93 := b2
  rw [Xdh l0 b0]
  unfold Yg Qe
  rw [if_neg (by rw [Us l1 b1]; decide), if_pos (by rw [Ya l1 c1]; decide), Zo (by omega) (by omega), if_pos (Xg.2 ⟨l2, c2⟩)]
  exact add (by have := K (by omega) (by omega) (by omega) (by omega); rw [k] at this; exact this)
 ·have hx5 : ∀ c, x.cst = [c] → x = Zm c := fun c e => by rw [Xbl x, k, z1 (by omega), z2 (by omega), z4 (by omega), hkids, e]; rfl
  rw [Xu6 k] at h hfol ⊢
  rcases Xiz (z7 k) with e | e | e | ⟨v, e, v1, v2⟩ | ⟨t, e, ht⟩
  ·have e2 : J3 x.cst = [110, 117, 108, 108] := by rw [e]; exact (Z9 false 0 0).1 rfl
   rw [e2] at h hfol ⊢
   rw [Kz h (by decide) (by decide) hfol.1]
   exact add (hx5 _ e)
  ·have e2 : J3 x.cst = [102, 97, 108, 115, 101] := by rw [e]; exact (Z9 false 0 0).2.1 rfl
   rw [e2] at h hfol ⊢
   rw [Kz h (by decide) (by decide) hfol.1]
   exact add (hx5 _ e)
  ·have e2 : J3 x.cst = [116, 114, 117, 101] := by rw [e]; exact (Z9 false 0 0).2.1 rfl
   rw [e2] at h hfol ⊢
   rw [Kz h (by decide) (by decide) hfol.1]
   exact add (hx5 _ e)
  ·have e2 : J3 x.cst = Lib.itoa v := by rw [e]; exact (Z9 false 0 0).2.2.1 rfl
   rw [e2] at h hfol ⊢
   obtain ⟨q1, q2⟩ := Xbx h
   rw [Xo0 q1 rfl (by rcases q2 with q2 | q2; exact .inl q2; exact .inr (by rw [← Xo1]; exact q2)), Xo2 h v1 v2 hfol.1]
   exact add (hx5 _ e)
  ·have e2 : J3 x.cst = Gr t := by rw [e]; exact (Z9 false 0 0).2.2.2.1 rfl
   rw [e2] at h hfol ⊢
   obtain ⟨q1, q2⟩ := Xsp ht h
   obtain ⟨q3, q4⟩ := Xg.1 q1
   rw [Xvn (W := WPr) q3 q4 q2, Qx]
   exact add (hx5 _ e)
 ·rw [k] at hk; cases hk
 ·rw [k] at hk; cases hk
 ·rw [k] at hk; cases hk
 ·rw [Xq0 k] at h hfol ⊢
  rw [Kz h (by decide) (by decide) hfol.1]
  exact add (by have := K (by omega) (by omega) (by omega) (by omega); rw [k] at this; exact this)
 ·rw [Xq1 k] at h hfol ⊢
  rw [Kz h (by decide) (by decide) hfol.1]
  exact add (by have := K (by omega) (by omega) (by omega) (by omega); rw [k] at this; exact this)
 ·rw [Xq2 k] at h hfol ⊢
  rw [Kz h (by decide) (by decide) hfol.1]
  exact add (by have := K (by omega) (by omega) (by omega) (by omega); rw [k] at this; exact this)
 ·rw [Xq3 k] at h hfol ⊢
  rw [Kz h (by decide) (by decide) hfol.1]
  exact add (by have := K (by omega) (by omega) (by omega) (by omega); rw [k] at this; exact this)
 ·rw [k] at hk; cases hk
 ·rw [k] at hk; cases hk
 ·exfalso; rcases k with k | k | k | k | k | k | k | k | k <;> (rw [k] at hk; cases hk)
end

theorem Xht {L : List UInt8} {q c : Nat} {k : Nat → RF} (h : Xd L q c = true) : Ye L q c k = k (skF L (q + 1)) := by unfold Ye; rw [if_pos h]
theorem Xid {L : List UInt8} {w : List UInt8} {q : Nat} {k : Nat → RF} (h : X6 L q = w) : Jf L w q k = k (skF L (nmJ L q)) := by unfold Jf; rw [if_pos h]
theorem Xd5 {R : Int → Int → List UInt8} {names : List ByteArray} {kids : List Int} {L : List UInt8} {p : Nat} : ∀ d k j, k = j + d → Sit L p (Yk R names kids k) → Sit L p (Yk R names kids j) := by
 intro d
 induction d with
 | zero => intro k j hk h; rw [hk] at h; exact h
 | succ d ih =>
  intro k j hk h
  rw [show k = (j + d) + 1 by omega, Yk] at h
  exact ih (j + d) j rfl h.left.left.left.left
theorem Xcw {T : Nat → Option (Nat × Nat)} : ∀ (ks : List Int) (a b : Nat), K5 T a ks b → ∀ j (hj : j < ks.length), ∃ m p, ks[j] = ((m : Nat) : Int) ∧ T m = some p ∧ (j = 0 → p.1 = a) ∧ (∀ i, j = i + 1 → ∃ (m' : Nat), ks[i]? = some (m' : Int) ∧ p.1 = m' + 1) ∧ (j + 1 = ks.length → m + 1 = b) := by
 intro ks
 induction ks with
 | nil => intro a b h j hj; simp at hj
 | cons k ks ih =>
  intro a b h j hj
  obtain ⟨m, p, rfl, h1, h2, h3⟩ := h
  match j with
  | 0 =>
   refine ⟨m, p, rfl, h1, fun _ => h2, fun i hi => by omega, fun e => ?_⟩
   have : ks = [] := by simpa using e
   subst this
   exact h3
  | j + 1 =>
   obtain ⟨m', p', e1, e2, e3, e4, e5⟩ := ih _ _ h3 j (by simpa using hj)
   refine ⟨m', p', by simpa using e1, e2, fun e => by omega, fun i hi => ?_, fun e => e5 (by simpa using e)⟩
   obtain rfl : i = j := by omega
   match i with
   | 0 => exact ⟨m, rfl, e3 rfl⟩
   | i + 1 => obtain ⟨q, q1, q2⟩ := e4 i rfl; exact ⟨q, by simpa using q1, q2⟩
section
variable {fs : List FN} (hok : okF fs = true) {L : List UInt8} {n : Nat} (hn : n < fs.length) (ih : ∀ m, m < n → Xn8 fs L m) {F p f : Nat} (hF : n < F + 1) (hf : L.length < p + (f + 1))
include hok hn ih hF hf
theorem Ut {m q : Nat} {l : Int} (hm : m < n) (hq : p < q) (h1 : 1 ≤ l) (h6 : l ≤ 6) (h : Sit L q (Xp fs F (m : Int) l)) (hfol : Vd L (q + (Xp fs F (m : Int) l).length)) (hs : Gl L l (q + (Xp fs F (m : Int) l).length)) :
  Yj WPr L f l (fs.take (Zd fs m)) q = some ((m : Int), fs.take (m + 1), skF L (q + (Xp fs F (m : Int) l).length)) ∧ skF L q = q ∧ Xe L q ≠ 93 := by
 have h2 := Vr hok (m + 1) m (by omega) (by omega) F l q (by omega) h
 exact ⟨ih m hm F l q f (by omega) h1 h6 h (by omega) hfol hs, Zo h2.2.1 h2.2.2.1, h2.2.2.2⟩
theorem Xmk (k : (Xj fs n).kind = 8) (h : Sit L p (Xm (Xp fs F) (Xj fs n))) :
  Xo WPr (Yj WPr L f) L (fs.take (Zd fs n)) p = some ((n : Int), fs.take (n + 1), skF L (p + (Xm (Xp fs F) (Xj fs n)).length)) := by
 obtain ⟨o1, o2, o3, o4⟩ := J1 hok
 have hb := o2 n hn
 have hch := J7 (o3 n hn)
 have HX := Xd1 (q := skF L (p + (Xm (Xp fs F) (Xj fs n)).length)) hn rfl
 obtain ⟨x, hx⟩ : ∃ x, Xj fs n = x := ⟨_, rfl⟩
 rw [hx] at hb h hch k HX ⊢
 have hR := Xiy hb (by omega) (by omega) (by omega) (by omega)
 rw [k] at hR
 have hfit := (Wh hb).2.2.2.2.2.2.2.2.1
 unfold Jc at hfit
 rw [if_pos k] at hfit
 have hl1 : x.kids.length ≤ 1 := by simpa using hfit
 rw [Xu7 k] at h HX ⊢
 rcases (show x.kids.length = 0 ∨ x.kids.length = 1 by omega) with hl | hl
 ·rw [if_pos hl] at h HX ⊢
  have hke : x.kids = [] := List.eq_nil_of_length_eq_zero hl
  rw [hke] at hch hR
  have hfst : Zd fs n = n := hch
  obtain ⟨l0, b0, s1⟩ := Xv (show Sit L p (91 :: [93]) from h)
  obtain ⟨l1, b1, _⟩ := Xv s1
  have c1 : Xe L (p + 1) = 93 := b1
  rw [Xlj l0 b0, Zo (by omega) (by omega), hfst]
  unfold Jg
  rw [if_pos (Xg.2 ⟨l1, c1⟩)]
  rw [hR] at HX
  exact HX
 ·rw [if_neg (by omega)] at h HX ⊢
  obtain ⟨m, pp, hkk, t1, t2, t3⟩ := Xno hch hl
  rw [hkk] at h HX ⊢
  rw [hkk] at hR
  have hfst : Zd fs m = Zd fs n := by rw [Qv t1, t2]
  rw [show Xk [((m : Nat) : Int)] 0 = ((m : Nat) : Int) from rfl] at h HX ⊢
  obtain ⟨T, hT⟩ : ∃ T, Xp fs F (m : Int) 1 = T := ⟨_, rfl⟩
  have hkid := Ut hok hn ih hF hf (m := m) (q := p + 1) (l := 1) (by omega) (by omega) (by decide) (by decide)
  rw [hT] at h HX hkid ⊢
  obtain ⟨l0, b0, s1⟩ := Xv (show Sit L p (91 :: (T ++ [93])) from h)
  obtain ⟨l2, b2, _⟩ := Xv s1.right
  have c2 : Xe L (p + 1 + T.length) = 93 := b2
  obtain ⟨k1, k2, k3⟩ := hkid s1.left (Kd b2 (by decide)) (Wi c2 (by omega))
  rw [Xlj l0 b0, k2]
  unfold Jg
  rw [if_neg (by rw [Xbn k3]; decide), ← hfst, k1, Xz, Zo (by omega) (by omega)]
  unfold Ye
  rw [if_pos (Xg.2 ⟨l2, c2⟩), t3]
  rw [hR, show p + ([91] ++ T ++ [93] : List UInt8).length = p + 1 + T.length + 1 by simp; omega] at HX
  rw [show p + ([91] ++ T ++ [93] : List UInt8).length = p + 1 + T.length + 1 by simp; omega]
  exact HX
theorem Xpc (k : (Xj fs n).kind = 10) (h : Sit L p (Xm (Xp fs F) (Xj fs n))) :
  Xo WPr (Yj WPr L f) L (fs.take (Zd fs n)) p = some ((n : Int), fs.take (n + 1), skF L (p + (Xm (Xp fs F) (Xj fs n)).length)) := by
 obtain ⟨o1, o2, o3, o4⟩ := J1 hok
 have hb := o2 n hn
 have hch := J7 (o3 n hn)
 have HX := Xd1 (q := skF L (p + (Xm (Xp fs F) (Xj fs n)).length)) hn rfl
 obtain ⟨x, hx⟩ : ∃ x, Xj fs n = x := ⟨_, rfl⟩
 rw [hx] at hb h hch k HX ⊢
 have hR := Xiy hb (by omega) (by omega) (by omega) (by omega)
 rw [k] at hR
 have hl : x.kids.length = 1 := by have := Xak hb (by omega) (by omega); rw [k] at this; have e : kidsN 10 = 1 := by decide
                                   omega
 obtain ⟨m, pp, hkk, t1, t2, t3⟩ := Xno hch hl
 have hfst : Zd fs m = Zd fs n := by rw [Qv t1, t2]
 rw [Xqz k, hkk] at h HX ⊢
 rw [hkk] at hR
 rw [show Xk [((m : Nat) : Int)] 0 = ((m : Nat) : Int) from rfl] at h HX ⊢
 obtain ⟨T, hT⟩ : ∃ T, Xp fs F (m : Int) 1 = T := ⟨_, rfl⟩
 have hkid := Ut hok hn ih hF hf (m := m) (q := p + 7) (l := 1) (by omega) (by omega) (by decide) (by decide)
 rw [hT] at h HX hkid ⊢
 have s0 : Sit L p ([115, 101, 108, 101, 99, 116] ++ (40 :: (T ++ [41]))) := by simpa using h
 have s6 : Sit L (p + 6) (40 :: (T ++ [41])) := s0.right
 obtain ⟨l6, b6, s7⟩ := Xv s6
 have c6 : Xe L (p + 6) = 40 := b6
 obtain ⟨l2, b2, _⟩ := Xv s7.right
 have c2 : Xe L (p + 7 + T.length) = 41 := b2
 obtain ⟨k1, k2, k3⟩ := hkid s7.left (Kd b2 (by decide)) (Wi c2 (by omega))
 have hw := Kz (W := WPr) (Rd := Yj WPr L f) (fs := fs.take (Zd fs n)) s0.left (by decide) (by decide) (by show nmC (Xe L (p + 6)) = false; rw [c6]; decide)
 rw [show p + ([115, 101, 108, 101, 99, 116] : List UInt8).length = p + 6 from rfl, Zo (by omega) (by omega)] at hw
 have hn1 : X1 WPr (Yj WPr L f) L [115, 101, 108, 101, 99, 116] (fs.take (Zd fs n)) (p + 6) = Vm WPr (Yj WPr L f) L (fs.take (Zd fs n)) (p + 6) := rfl
 rw [hw, hn1]
 unfold Vm
 rw [Xht (Xg.2 ⟨l6, c6⟩)]
 unfold Zf
 rw [show skF L (p + 6 + 1) = p + 7 from k2, ← hfst, k1, Xz, Zo (by omega) (by omega)]
 rw [Xht (Xg.2 ⟨l2, c2⟩), Xz, t3]
 rw [hR, show p + ([115, 101, 108, 101, 99, 116, 40] ++ T ++ [41] : List UInt8).length = p + 7 + T.length + 1 by simp; omega] at HX
 rw [show p + ([115, 101, 108, 101, 99, 116, 40] ++ T ++ [41] : List UInt8).length = p + 7 + T.length + 1 by simp; omega]
 exact HX
theorem Xsg (k : (Xj fs n).kind = 22) (h : Sit L p (Xm (Xp fs F) (Xj fs n))) (hfol : Vd L (p + (Xm (Xp fs F) (Xj fs n)).length)) :
  Xo WPr (Yj WPr L f) L (fs.take (Zd fs n)) p = some ((n : Int), fs.take (n + 1), skF L (p + (Xm (Xp fs F) (Xj fs n)).length)) := by
 obtain ⟨o1, o2, o3, o4⟩ := J1 hok
 have hb := o2 n hn
 have hch := J7 (o3 n hn)
 have HX := Xd1 (q := skF L (p + (Xm (Xp fs F) (Xj fs n)).length)) hn rfl
 obtain ⟨x, hx⟩ : ∃ x, Xj fs n = x := ⟨_, rfl⟩
 rw [hx] at hb h hch k HX hfol ⊢
 have hR := Xiy hb (by omega) (by omega) (by omega) (by omega)
 rw [k] at hR
 have hl : x.kids.length = 3 := by have := Xak hb (by omega) (by omega); rw [k] at this; have e : kidsN 22 = 3 := by decide
                                   omega
 obtain ⟨m, pp, m', pp', m'', pp'', hkk, t1, t2, t3, t4, t5, t6, t7⟩ := Xzv hch hl
 have hm' : m < m' := by have := Xq7 t3; rw [Qv t3] at this; omega
 have hm'' : m' < m'' := by have := Xq7 t5; rw [Qv t5] at this; omega
 have hfst : Zd fs m = Zd fs n := by rw [Qv t1, t2]
 have hfst' : Zd fs m' = m + 1 := by rw [Qv t3, t4]
 have hfst'' : Zd fs m'' = m' + 1 := by rw [Qv t5, t6]
 rw [Xq4 k, hkk] at h HX hfol ⊢
 rw [hkk] at hR
 rw [show Xk [((m : Nat) : Int), ((m' : Nat) : Int), ((m'' : Nat) : Int)] 0 = ((m : Nat) : Int) from rfl, show Xk [((m : Nat) : Int), ((m' : Nat) : Int), ((m'' : Nat) : Int)] 1 = ((m' : Nat) : Int) from rfl, show Xk [((m : Nat) : Int), ((m' : Nat) : Int), ((m'' : Nat) : Int)] 2 = ((m'' : Nat) : Int) from rfl] at h HX hfol ⊢
 obtain ⟨A, hA⟩ : ∃ T, Xp fs F (m : Int) 1 = T := ⟨_, rfl⟩
 obtain ⟨B, hB⟩ : ∃ T, Xp fs F (m' : Int) 1 = T := ⟨_, rfl⟩
 obtain ⟨C, hC⟩ : ∃ T, Xp fs F (m'' : Int) 1 = T := ⟨_, rfl⟩
 have kid1 := Ut hok hn ih hF hf (m := m) (q := p + 3) (l := 1) (by omega) (by omega) (by decide) (by decide)
 rw [hA] at h HX kid1 hfol ⊢
 have kid2 := Ut hok hn ih hF hf (m := m') (q := p + 3 + A.length + 6) (l := 1) (by omega) (by omega) (by decide) (by decide)
 rw [hB] at h HX kid2 hfol ⊢
 have kid3 := Ut hok hn ih hF hf (m := m'') (q := p + 3 + A.length + 6 + B.length + 6) (l := 1) (by omega) (by omega) (by decide) (by decide)
 rw [hC] at h HX kid3 hfol ⊢
 have hlen : ([105, 102, 32] ++ A ++ [32, 116, 104, 101, 110, 32] ++ B ++ [32, 101, 108, 115, 101, 32] ++ C ++ [32, 101, 110, 100] : List UInt8).length = 3 + A.length + 6 + B.length + 6 + C.length + 4 := by simp; omega
 rw [hlen] at HX hfol ⊢
 have s0 : Sit L p ([105, 102] ++ (32 :: (A ++ (32 :: ([116, 104, 101, 110] ++ (32 :: (B ++ (32 :: ([101, 108, 115, 101] ++ (32 :: (C ++ (32 :: [101, 110, 100])))))))))))) := by simpa using h
 obtain ⟨u2, v2, s3⟩ := Xv s0.right
 have s3' : Sit L (p + 3) (A ++ (32 :: ([116, 104, 101, 110] ++ (32 :: (B ++ (32 :: ([101, 108, 115, 101] ++ (32 :: (C ++ (32 :: [101, 110, 100])))))))))) := s3
 obtain ⟨u4, v4, s5⟩ := Xv s3'.right
 obtain ⟨u6, v6, s7⟩ := Xv s5.right
 have s7' : Sit L (p + 3 + A.length + 6) (B ++ (32 :: ([101, 108, 115, 101] ++ (32 :: (C ++ (32 :: [101, 110, 100])))))) := s7
 obtain ⟨u8, v8, s9⟩ := Xv s7'.right
 obtain ⟨u10, v10, s11⟩ := Xv s9.right
 have s11' : Sit L (p + 3 + A.length + 6 + B.length + 6) (C ++ (32 :: [101, 110, 100])) := s11
 obtain ⟨u12, v12, s13⟩ := Xv s11'.right
 have g2 : Xe L (p + 2) = 32 := v2
 have g4 : Xe L (p + 3 + A.length) = 32 := v4
 have g6 : Xe L (p + 3 + A.length + 1 + 4) = 32 := v6
 have g8 : Xe L (p + 3 + A.length + 6 + B.length) = 32 := v8
 have g10 : Xe L (p + 3 + A.length + 6 + B.length + 1 + 4) = 32 := v10
 have g12 : Xe L (p + 3 + A.length + 6 + B.length + 6 + C.length) = 32 := v12
 have t0 : Xe L (p + 3 + A.length + 1) = 116 := (Xv s5.left).2.1
 have e0 : Xe L (p + 3 + A.length + 6 + B.length + 1) = 101 := (Xv s9.left).2.1
 have d0 : Xe L (p + 3 + A.length + 6 + B.length + 6 + C.length + 1) = 101 := (Xv s13).2.1
 have q1 : skF L (p + 3 + A.length) = p + 3 + A.length + 1 := Ju u4 g4 (by omega) (by omega)
 have q2 : skF L (p + 3 + A.length + 6 + B.length) = p + 3 + A.length + 6 + B.length + 1 := Ju u8 g8 (by omega) (by omega)
 have q3 : skF L (p + 3 + A.length + 6 + B.length + 6 + C.length) = p + 3 + A.length + 6 + B.length + 6 + C.length + 1 := Ju u12 g12 (by omega) (by omega)
 have noS : ∀ {q c : Nat}, skF L q = q + 1 → Xe L (q + 1) = c → Yl c = true → Gl L 1 q := fun e1 e2 e3 k len e => by rw [e1, Xvo e2 e3] at e; cases e
 obtain ⟨k1, k2, _⟩ := kid1 s3'.left (Kd v4 (by decide)) (noS q1 t0 (by decide))
 obtain ⟨k3, k4, _⟩ := kid2 s7'.left (Kd v8 (by decide)) (noS q2 e0 (by decide))
 obtain ⟨k5, k6, _⟩ := kid3 s11'.left (Kd v12 (by decide)) (noS q3 d0 (by decide))
 have f1 := Vr hok (m + 1) m (by omega) (by omega) F 1 (p + 3) (by omega) (by rw [hA]; exact s3'.left)
 have f2 := Vr hok (m' + 1) m' (by omega) (by omega) F 1 (p + 3 + A.length + 6) (by omega) (by rw [hB]; exact s7'.left)
 have f3 := Vr hok (m'' + 1) m'' (by omega) (by omega) F 1 (p + 3 + A.length + 6 + B.length + 6) (by omega) (by rw [hC]; exact s11'.left)
 have r2 : skF L (p + 2) = p + 3 := Ju u2 g2 f1.2.1 f1.2.2.1
 have r6 : skF L (p + 3 + A.length + 1 + 4) = p + 3 + A.length + 6 := Ju u6 g6 f2.2.1 f2.2.2.1
 have r10 : skF L (p + 3 + A.length + 6 + B.length + 1 + 4) = p + 3 + A.length + 6 + B.length + 6 := Ju u10 g10 f3.2.1 f3.2.2.1
 have hw := Kz (W := WPr) (Rd := Yj WPr L f) (fs := fs.take (Zd fs n)) s0.left (by decide) (by decide) (by show nmC (Xe L (p + 2)) = false; rw [g2]; decide)
 rw [show p + ([105, 102] : List UInt8).length = p + 2 from rfl, r2] at hw
 have hn1 : X1 WPr (Yj WPr L f) L [105, 102] (fs.take (Zd fs n)) (p + 3) = ifF WPr (Yj WPr L f) L (fs.take (Zd fs n)) (p + 3) := rfl
 obtain ⟨w1, x1⟩ := Xaa s5.left (by simp) (by decide) (by show nmC (Xe L (p + 3 + A.length + 1 + 4)) = false; rw [g6]; decide)
 obtain ⟨w2, x2⟩ := Xaa s9.left (by simp) (by decide) (by show nmC (Xe L (p + 3 + A.length + 6 + B.length + 1 + 4)) = false; rw [g10]; decide)
 obtain ⟨w3, x3⟩ := Xaa s13 (by simp) (by decide) (by
  have := hfol.1
  rw [show p + (3 + A.length + 6 + B.length + 6 + C.length + 4) = p + 3 + A.length + 6 + B.length + 6 + C.length + 1 + 3 by omega] at this
  exact this)
 rw [hw, hn1]
 unfold ifF
 rw [← hfst, k1, Xz, q1, Xid w1, x1, show p + 3 + A.length + 1 + ([116, 104, 101, 110] : List UInt8).length = p + 3 + A.length + 1 + 4 from rfl, r6, ← hfst', k3, Xz, q2, Xid w2, x2,
  show p + 3 + A.length + 6 + B.length + 1 + ([101, 108, 115, 101] : List UInt8).length = p + 3 + A.length + 6 + B.length + 1 + 4 from rfl, r10, ← hfst'', k5, Xz, q3, Xid w3, x3, t7]
 rw [hR, show p + (3 + A.length + 6 + B.length + 6 + C.length + 4) = p + 3 + A.length + 6 + B.length + 6 + C.length + 1 + 3 by omega] at HX
 rw [show p + (3 + A.length + 6 + B.length + 6 + C.length + 4) = p + 3 + A.length + 6 + B.length + 6 + C.length + 1 + 3 by omega]
 exact HX
end

theorem Xbt {l : List ByteArray} (h : Zu l = true) {j : Nat} (hj : j < l.length) : X7 (Xr l j) = true := by
 unfold Zu at h
 rw [Bool.and_eq_true, Xg4, Bool.and_eq_true, List.all_eq_true] at h
 exact h.2.1 j (List.mem_range.2 hj)
theorem Xr1 {l : List ByteArray} {j : Nat} (hj : j < l.length) : l.take j ++ [Xr l j] = l.take (j + 1) := by
 rw [List.take_add_one, List.getElem?_eq_getElem hj]
 have : Xr l j = l[j] := by unfold Xr; rw [List.getD_eq_getElem?_getD, List.getElem?_eq_getElem hj]; rfl
 rw [this]; rfl
theorem Xr2 {l : List Int} {j : Nat} (hj : j < l.length) : l.take j ++ [l[j]] = l.take (j + 1) := by
 rw [List.take_add_one, List.getElem?_eq_getElem hj]; rfl
theorem Xes {s : ByteArray} (h : X7 s = true) {L : List UInt8} {q : Nat} (hs : Sit L q s.data.toList) : Yn L q = true ∧ Xe L q ≠ 32 ∧ Xe L q ≠ 10 ∧ Xe L q ≠ 125 := by
 obtain ⟨n1, n2, n3⟩ := Xd2 h
 match hd : s.data.toList, n1 with
 | c :: r, _ =>
  rw [hd] at hs
  obtain ⟨l1, b1, _⟩ := Xv hs
  have hc := n3 c r hd
  refine ⟨by rw [Us l1 b1]; exact hc, ?_, ?_, ?_⟩ <;> (intro e; rw [b1] at e; rw [e] at hc; revert hc; decide)
section
variable {fs : List FN} (hok : okF fs = true) {L : List UInt8} {n : Nat} (hn : n < fs.length) (ih : ∀ m, m < n → Xn8 fs L m) {F p f : Nat} (hF : n < F + 1) (hf : L.length < p + (f + 1))
include hok hn ih hF hf
theorem Xov {names : List ByteArray} {kids : List Int} (hch : K5 (tr (Yq fs)) (Zd fs n) kids n) (hnm : Zu names = true) (hlen : kids.length = names.length)
  (hrow : Sit L (p + 1) (Yk (Xp fs F) names kids kids.length)) (hend : Xe L (p + 1 + (Yk (Xp fs F) names kids kids.length).length) = 125) (hend2 : p + 1 + (Yk (Xp fs F) names kids kids.length).length < L.length) :
  ∀ d j g, j + d = kids.length → 0 < d → L.length < p + 1 + (Yk (Xp fs F) names kids j).length + (Vl j).length + g →
   Zg WPr (Yj WPr L f) L g (names.take j) (kids.take j) (fs.take (Zd fs (Xk kids j).toNat)) (p + 1 + (Yk (Xp fs F) names kids j).length + (Vl j).length) = Xs WPr (Vi names kids) (fs.take n) (skF L (p + 1 + (Yk (Xp fs F) names kids kids.length).length + 1)) := by
 intro d
 induction d with
 | zero => intro j g _ h; omega
 | succ d ihd =>
  intro j g hj _ hg
  have hjk : j < kids.length := by omega
  obtain ⟨m, pp, e1, t1, t2, t3, t4⟩ := Xcw _ _ _ hch j hjk
  have hmn : m < n := by
   have : ((m : Nat) : Int) ∈ kids := by rw [← e1]; exact List.getElem_mem hjk
   have hall : ∀ (ks : List Int) (a : Nat), K5 (tr (Yq fs)) a ks n → ∀ k ∈ ks, k < (n : Int) := by
    intro ks
    induction ks with
    | nil => intro a _ k hk; cases hk
    | cons k0 ks ih2 =>
     intro a h k hk
     obtain ⟨m0, p0, rfl, u1, u2, u3⟩ := h
     have hle : ∀ (ks : List Int) (a : Nat), K5 (tr (Yq fs)) a ks n → a ≤ n := by
      intro ks
      induction ks with
      | nil => intro a h; exact Nat.le_of_eq h
      | cons k1 ks ih3 =>
       intro a h
       obtain ⟨m1, p1, rfl, v1, v2, v3⟩ := h
       have := ih3 _ v3
       have := Gj v1
       omega
     rcases List.mem_cons.1 hk with rfl | hk
     ·have := hle _ _ u3; omega
     ·exact ih2 _ u3 k hk
   have := hall _ _ hch _ this
   omega
  have hia : Xk kids j = ((m : Nat) : Int) := by rw [Qb hjk]; exact e1
  have hname := Xbt hnm (j := j) (by omega)
  have sj := Xd5 (kids.length - (j + 1)) kids.length (j + 1) (by omega) hrow
  rw [Yk, hia] at sj
  obtain ⟨A, hA⟩ : ∃ A, Yk (Xp fs F) names kids j = A := ⟨_, rfl⟩
  obtain ⟨S, hS⟩ : ∃ S, Vl j = S := ⟨_, rfl⟩
  obtain ⟨K, hK⟩ : ∃ K, (Xr names j).data.toList = K := ⟨_, rfl⟩
  obtain ⟨T, hT⟩ : ∃ T, Xp fs F (m : Int) 3 = T := ⟨_, rfl⟩
  have hrl : (Yk (Xp fs F) names kids (j + 1)).length = A.length + S.length + K.length + 2 + T.length := by
   rw [Yk, hia, hA, hS, hK, hT]; simp; omega
  rw [hia, Int.toNat_natCast]
  rw [hA, hS, hK, hT] at sj
  rw [hA, hS] at hg ⊢
  obtain ⟨P, hP⟩ : ∃ P, p + 1 + A.length + S.length = P := ⟨_, rfl⟩
  rw [hP] at hg ⊢
  have s1 : Sit L (p + 1) (A ++ (S ++ (K ++ (58 :: (32 :: T))))) := by simpa using sj
  have s2 : Sit L P (K ++ (58 :: (32 :: T))) := by rw [← hP]; exact s1.right.right
  obtain ⟨u1, v1, s3⟩ := Xv s2.right
  obtain ⟨u2, v2, s4⟩ := Xv s3
  have w1 : Xe L (P + K.length) = 58 := v1
  have w2 : Xe L (P + K.length + 1) = 32 := v2
  obtain ⟨n1, n2, n3⟩ := Xd2 hname
  rw [hK] at n1 n2
  obtain ⟨x1, x2⟩ := Xaa s2.left n1 n2 (by rw [w1]; decide)
  have hPL : P < L.length := by omega
  obtain ⟨g, rfl⟩ : ∃ g', g = g' + 1 := ⟨g - 1, by omega⟩
  have f4 := Vr hok (m + 1) m (by omega) (by omega) F 3 (P + K.length + 1 + 1) (by omega) (by rw [hT]; exact s4)
  have hkid := Ut hok hn ih hF hf (m := m) (q := P + K.length + 1 + 1) (l := 3) hmn (by omega) (by decide) (by decide)
  rw [hT] at hkid
  obtain ⟨E, hE⟩ : ∃ E, P + K.length + 1 + 1 + T.length = E := ⟨_, rfl⟩
  rw [hE] at hkid
  have hEr : E = p + 1 + (Yk (Xp fs F) names kids (j + 1)).length := by rw [hrl]; omega
  have hkey : txt ((L.drop P).take (WPr.nam L P - P)) = Xr names j := by
   have : (L.drop P).take (nmJ L P - P) = K := x1
   rw [show WPr.nam L P = nmJ L P from rfl, this, ← hK, Qx]
  rw [Zg, hkey, Xr1 (show j < names.length by omega), show WPr.nam L P = nmJ L P from rfl, x2, Zo (by omega) (by omega), Xht (Xg.2 ⟨u1, w1⟩), Ju u2 w2 f4.2.1 f4.2.2.1]
  have hkt : kids.take j ++ [((m : Nat) : Int)] = kids.take (j + 1) := by rw [← e1]; exact Xr2 hjk
  by_cases hlast : j + 1 = kids.length
  ·have hE2 : E = p + 1 + (Yk (Xp fs F) names kids kids.length).length := by rw [← hlast]; exact hEr
   have c3 : Xe L E = 125 := by rw [hE2]; exact hend
   obtain ⟨k1, k2, _⟩ := hkid s4 (by unfold Vd; rw [c3]; decide) (Wi c3 (by omega))
   rw [k1, Xz, Zo (by omega) (by omega), if_pos (Xg.2 ⟨by omega, c3⟩), hkt, hlast, List.take_length, t4 hlast, ← hE2, hlen, List.take_length]
  ·have sj2 := Xd5 (kids.length - (j + 2)) kids.length (j + 2) (by omega) hrow
   rw [Yk] at sj2
   have s5 : Sit L E (Vl (j + 1) ++ (Xr names (j + 1)).data.toList) := by
    rw [hEr]
    have h5 : Sit L (p + 1) (Yk (Xp fs F) names kids (j + 1) ++ ((Vl (j + 1) ++ (Xr names (j + 1)).data.toList) ++ ([58, 32] ++ Xp fs F (Xk kids (j + 1)) 3))) := by simpa using sj2
    exact h5.right.left
   have hsep : Vl (j + 1) = [44, 32] := rfl
   rw [hsep] at s5
   obtain ⟨u6, v6, s6⟩ := Xv (show Sit L E (44 :: (32 :: (Xr names (j + 1)).data.toList)) from s5)
   obtain ⟨u7, v7, s7⟩ := Xv s6
   have w6 : Xe L E = 44 := v6
   have w7 : Xe L (E + 1) = 32 := v7
   obtain ⟨f5, f6, f7, _⟩ := Xes (Xbt hnm (j := j + 1) (by omega)) s7
   have hskE : skF L E = E := Zo (by omega) (by omega)
   have hjE : Xx L (skF L E) = some (7, 1) := by rw [hskE]; unfold Xx; rw [Ya u6 w6, Ya u6 w6]; rfl
   obtain ⟨k1, k2, _⟩ := hkid s4 (by unfold Vd; rw [w6]; decide) (Xee hjE (by decide))
   obtain ⟨m', pp', e1', t1', t2', t3', t4'⟩ := Xcw _ _ _ hch (j + 1) (by omega)
   obtain ⟨m0, e0, e0'⟩ := t3' j rfl
   have hm0 : m0 = m := by rw [List.getElem?_eq_getElem hjk, e1] at e0; simp at e0; omega
   have hst : Zd fs (Xk kids (j + 1)).toNat = m + 1 := by rw [Qb (show j + 1 < kids.length by omega), e1', Int.toNat_natCast, Qv t1', e0', hm0]
   rw [k1, Xz, hskE, if_neg (by rw [Xbn (by omega)]; decide), Xht (Xg.2 ⟨u6, w6⟩), Ju u7 w7 f6 f7, hkt]
   have := ihd (j + 1) g (by omega) (by omega) (by rw [hrl, hsep]; show L.length < _ + 2 + g; omega)
   rw [hst, hsep, ← hEr] at this
   exact this
theorem Xow (k : (Xj fs n).kind = 9) (h : Sit L p (Xm (Xp fs F) (Xj fs n))) :
  Xo WPr (Yj WPr L f) L (fs.take (Zd fs n)) p = some ((n : Int), fs.take (n + 1), skF L (p + (Xm (Xp fs F) (Xj fs n)).length)) := by
 obtain ⟨o1, o2, o3, o4⟩ := J1 hok
 have hb := o2 n hn
 have hch := J7 (o3 n hn)
 have HX := Xd1 (q := skF L (p + (Xm (Xp fs F) (Xj fs n)).length)) hn rfl
 obtain ⟨x, hx⟩ : ∃ x, Xj fs n = x := ⟨_, rfl⟩
 rw [hx] at hb h hch k HX ⊢
 obtain ⟨z1, z2, z3, z4, z5, z6, z7, z8, z9, z10, z11⟩ := Wh hb
 have hM : x = Vi x.names x.kids := by
  conv => lhs; rw [Xbl x, k, z1 (by omega), z2 (by omega), z3 (by omega)]
  rfl
 have hlen : x.kids.length = x.names.length := by unfold Jc at z9; rw [if_neg (by omega), if_pos k] at z9; simpa using z9
 rw [Xu8 k] at h HX ⊢
 obtain ⟨l0, b0, s1⟩ := Xv (show Sit L p (123 :: (Yk (Xp fs F) x.names x.kids x.kids.length ++ [125])) from h)
 obtain ⟨l2, b2, _⟩ := Xv s1.right
 have c2 : Xe L (p + 1 + (Yk (Xp fs F) x.names x.kids x.kids.length).length) = 125 := b2
 have hlen2 : ([123] ++ Yk (Xp fs F) x.names x.kids x.kids.length ++ [125] : List UInt8).length = (Yk (Xp fs F) x.names x.kids x.kids.length).length + 2 := by simp
 rw [hlen2, show p + ((Yk (Xp fs F) x.names x.kids x.kids.length).length + 2) = p + 1 + (Yk (Xp fs F) x.names x.kids x.kids.length).length + 1 by omega] at HX ⊢
 rw [Xr4 l0 b0]
 unfold Q7
 by_cases hk0 : x.kids.length = 0
 ·have hke : x.kids = [] := List.eq_nil_of_length_eq_zero hk0
  have hne : x.names = [] := List.eq_nil_of_length_eq_zero (by omega)
  have hr0 : Yk (Xp fs F) x.names x.kids x.kids.length = [] := by rw [hk0]; rfl
  rw [hr0] at c2 l2 HX ⊢
  have c3 : Xe L (p + 1) = 125 := c2
  have l3 : p + 1 < L.length := l2
  rw [hke] at hch
  have hfst : Zd fs n = n := hch
  rw [Zo (by omega) (by omega), if_pos (Xg.2 ⟨l3, c3⟩), hfst]
  rw [hM, hke, hne] at HX
  exact HX
 ·have hname := Xbt (z8 k) (j := 0) (by omega)
  have s3 := Xd5 (x.kids.length - 1) x.kids.length 1 (by omega) s1.left
  have s4 : Sit L (p + 1) (Xr x.names 0).data.toList := by
   have h4 : Sit L (p + 1) ((Xr x.names 0).data.toList ++ ([58, 32] ++ Xp fs F (Xk x.kids 0) 3)) := by
    have : Yk (Xp fs F) x.names x.kids 1 = (Xr x.names 0).data.toList ++ ([58, 32] ++ Xp fs F (Xk x.kids 0) 3) := by
     rw [Yk, Yk]; simp [Vl]
    rw [← this]; exact s3
   exact h4.left
  obtain ⟨f5, f6, f7, f8⟩ := Xes hname s4
  obtain ⟨m, pp, e1, t1, t2, t3, t4⟩ := Xcw _ _ _ hch 0 (by omega)
  have hst : Zd fs (Xk x.kids 0).toNat = Zd fs n := by rw [Qb (by omega), e1, Int.toNat_natCast, Qv t1, t2 rfl]
  have hr := Xov hok hn ih hF hf hch (z8 k) hlen s1.left c2 l2 x.kids.length 0 (L.length + 1) (by omega) (by omega) (by omega)
  rw [hst] at hr
  have e0 : p + 1 + (Yk (Xp fs F) x.names x.kids 0).length + (Vl 0).length = p + 1 := rfl
  rw [e0] at hr
  rw [Zo f6 f7, if_neg (by rw [Xbn f8]; decide)]
  have : Zg WPr (Yj WPr L f) L (L.length + 1) [] [] (fs.take (Zd fs n)) (p + 1) = _ := hr
  rw [this, ← hM]
  exact HX
end

theorem Xlw (k : Int) : (Xq k = 1 ∧ Gp k = 1) ∨ (Xq k = 2 ∧ Gp k = 3) ∨ (Xq k = 3 ∧ Gp k = 3) ∨ (Xq k = 4 ∧ Gp k = 5) ∨ (Xq k = 5 ∧ Gp k = 6) ∨ (Xq k = 6 ∧ Gp k = 7) ∨ (Xq k = 7 ∧ Gp k = 7) := by
 by_cases e : k = 6
 ·subst e; decide
 by_cases e : k = 7
 ·subst e; decide
 by_cases e : k = 21
 ·subst e; decide
 by_cases e : k = 17
 ·subst e; decide
 by_cases e : k = 18
 ·subst e; decide
 by_cases e : k = 19
 ·subst e; decide
 by_cases e : k = 20
 ·subst e; decide
 by_cases e : k = 15
 ·subst e; decide
 by_cases e : k = 16
 ·subst e; decide
 by_cases e : k = 23
 ·subst e; decide
 right; right; right; right; right; right
 unfold Xq Gp
 simp [*]
theorem Xwq {k ka : Int} (hk : Xa9 k) (h : Vc k ≤ Xq ka) : Xq k < Gp ka := by
 have h1 := Xlw ka
 have h2 : (Xq k = 1 ∧ Vc k = 2) ∨ (Xq k = 2 ∧ Vc k = 2) ∨ (Xq k = 3 ∧ Vc k = 4) ∨ (Xq k = 4 ∧ Vc k = 5) ∨ (Xq k = 5 ∧ Vc k = 5) := by
  rcases hk with rfl | rfl | rfl | rfl | rfl | rfl | rfl | rfl | rfl <;> decide
 omega
theorem Xtk {k : Int} (hk : Xa9 k) : 1 ≤ Vc k ∧ Vc k ≤ 6 ∧ 1 ≤ Ja k ∧ Ja k ≤ 6 ∧ Xq k ≤ Vc k ∧ Ja k = Gp k ∧ k ≠ 23 ∧ Xd7 k = Vc k ∧ kidsN k = 2 ∧ k ≠ 2 ∧ k ≠ 3 ∧ k ≠ 5 ∧ k ≠ 8 ∧ k ≠ 9 := by
 rcases hk with rfl | rfl | rfl | rfl | rfl | rfl | rfl | rfl | rfl <;> decide
section
variable {fs : List FN} (hok : okF fs = true) {L : List UInt8} {n : Nat} (hn : n < fs.length) (ihB : ∀ m, m < n → Xn8 fs L m) (ihW : ∀ m, m < n → Xn9 fs L m)
include hok hn ihB ihW
theorem Xwr {F p f G : Nat} {least l : Int} (k : (Xj fs n).kind = 23) (hF : n < F + 1) (h1 : 1 ≤ l) (h6 : l ≤ 6) (hle : least ≤ l) (h : Sit L p (Xm (Xp fs F) (Xj fs n))) (hf : L.length < p + (f + 1)) (hG : L.length < p + G) :
  Xas fs L n f G least l p (p + (Xm (Xp fs F) (Xj fs n)).length) := by
 obtain ⟨o1, o2, o3, o4⟩ := J1 hok
 have hb := o2 n hn
 have hch := J7 (o3 n hn)
 have HX := Xd1 (q := skF L (p + (Xm (Xp fs F) (Xj fs n)).length)) hn rfl
 unfold Xas
 obtain ⟨x, hx⟩ : ∃ x, Xj fs n = x := ⟨_, rfl⟩
 rw [hx] at hb h hch k HX ⊢
 have hR := Xiy hb (by omega) (by omega) (by omega) (by omega)
 rw [k] at hR
 have hl : x.kids.length = 1 := by have := Xak hb (by omega) (by omega); rw [k] at this; have e : kidsN 23 = 1 := by decide
                                   omega
 obtain ⟨m, pp, hkk, t1, t2, t3⟩ := Xno hch hl
 have hfst : Zd fs m = Zd fs n := by rw [Qv t1, t2]
 rw [Xq5 k, hkk] at h HX ⊢
 rw [hkk] at hR
 rw [show Xk [((m : Nat) : Int)] 0 = ((m : Nat) : Int) from rfl] at h HX ⊢
 have hw := ihW m (by omega) F 6 p f G least (by omega) (by decide) (by decide) (by omega) h.left hf hG
 unfold Xas at hw
 obtain ⟨T, hT⟩ : ∃ T, Xp fs F (m : Int) 6 = T := ⟨_, rfl⟩
 rw [hT] at h HX hw ⊢
 obtain ⟨l2, b2, _⟩ := Xv h.right
 have c2 : Xe L (p + T.length) = 63 := b2
 have hsk : skF L (p + T.length) = p + T.length := Zo (by omega) (by omega)
 have hj : Xx L (p + T.length) = some (23, 1) := by unfold Xx; simp only [Ya l2 c2]; rfl
 obtain ⟨G', bnd, g1, g2, g3⟩ := hw (Kd b2 (by decide)) (fun hl => Xee (by rw [hsk]; exact hj) (by have := Xlw (Xj fs m).kind; have e : Xq 23 = 6 := (by decide); omega))
 rw [hsk] at g1 g3
 obtain ⟨g, rfl⟩ : ∃ g, G' = g + 1 := ⟨G' - 1, by omega⟩
 have hlv : Xq 23 = 6 := by decide
 rw [Xge hj (by rw [hlv]; omega) (by show (6 : Int) ≤ bnd; exact g2)] at g3
 have hend : (T ++ [63] : List UInt8).length = T.length + 1 := by simp
 rw [hend] at HX ⊢
 have hge := Xu L (p + T.length + 1)
 refine ⟨g, 6, ?_, h6, ?_⟩
 ·rw [show p + (T.length + 1) = p + T.length + 1 by omega]; omega
 ·rw [← hfst, g3]
  unfold Jj
  rw [if_pos rfl, t3]
  rw [hR, show p + (T.length + 1) = p + T.length + 1 by omega] at HX
  rw [HX, Xz, hlv, show p + (T.length + 1) = p + T.length + 1 by omega]
theorem Xws {F p f G : Nat} {least l : Int} (k : Xa9 (Xj fs n).kind) (hF : n < F + 1) (h1 : 1 ≤ l) (hll : l ≤ Xq (Xj fs n).kind) (hle : least ≤ l) (h : Sit L p (Xm (Xp fs F) (Xj fs n))) (hf : L.length < p + (f + 1)) (hG : L.length < p + G)
  (hfol : Vd L (p + (Xm (Xp fs F) (Xj fs n)).length)) (hstop : Gl L (Gp (Xj fs n).kind) (p + (Xm (Xp fs F) (Xj fs n)).length)) :
  Xas fs L n f G least l p (p + (Xm (Xp fs F) (Xj fs n)).length) := by
 obtain ⟨o1, o2, o3, o4⟩ := J1 hok
 have hb := o2 n hn
 have hch := J7 (o3 n hn)
 have HX := Xd1 (q := skF L (p + (Xm (Xp fs F) (Xj fs n)).length)) hn rfl
 unfold Xas
 obtain ⟨x, hx⟩ : ∃ x, Xj fs n = x := ⟨_, rfl⟩
 rw [hx] at hb h hch k HX hll hfol hstop ⊢
 obtain ⟨y1, y2, y3, y4, y5, y6, y7, y8, y9, n2, n3, n5, n8, n9⟩ := Xtk k
 have hR := Xiy hb n2 n3 n5 n9
 have hl : x.kids.length = 2 := by have := Xak hb n8 n9; rw [y9] at this; omega
 obtain ⟨m, pp, m', pp', hkk, t1, t2, t3, t4, t5⟩ := Xzu hch hl
 have hm' : m < m' := by have := Gj t3; omega
 have hfst : Zd fs m = Zd fs n := by rw [Qv t1, t2]
 have hfst' : Zd fs m' = m + 1 := by rw [Qv t3, t4]
 rw [Xq6 k, hkk] at h HX hfol hstop ⊢
 rw [hkk] at hR
 rw [show Xk [((m : Nat) : Int), ((m' : Nat) : Int)] 0 = ((m : Nat) : Int) from rfl, show Xk [((m : Nat) : Int), ((m' : Nat) : Int)] 1 = ((m' : Nat) : Int) from rfl] at h HX hfol hstop ⊢
 have hw := ihW m (by omega) F (Vc x.kind) p f G least (by omega) y1 y2 (by omega) h.left.left hf hG
 unfold Xas at hw
 obtain ⟨A, hA⟩ : ∃ T, Xp fs F (m : Int) (Vc x.kind) = T := ⟨_, rfl⟩
 obtain ⟨S, hS⟩ : ∃ T, Ks x.kind = T := ⟨_, rfl⟩
 rw [hA] at h HX hw hfol hstop ⊢
 have hread := ihB m' (by omega) F (Ja x.kind) (p + A.length + S.length) f (by omega) y3 y4
 have f4 := Vr hok (L := L) (m' + 1) m' (by omega) (by omega) F (Ja x.kind) (p + A.length + S.length) (by omega)
 have hss := fun (hh : Sit L (p + A.length) (Ks x.kind)) => Xvp k hh
 rw [hS] at h HX hfol hstop hss ⊢
 obtain ⟨B, hB⟩ : ∃ T, Xp fs F (m' : Int) (Ja x.kind) = T := ⟨_, rfl⟩
 rw [hB] at h HX hread f4 hfol hstop ⊢
 have s0 : Sit L p (A ++ (S ++ B)) := by rw [← List.append_assoc]; exact h
 have sS := s0.right.left
 have sB := s0.right.right
 obtain ⟨u1, u2, u3, _⟩ := f4 sB
 obtain ⟨len, j1, j2, j3, j4, j5, j6⟩ := hss sS u2 u3
 obtain ⟨G', bnd, g1, g2, g3⟩ := hw j6 (fun hl => Xee j1 (Xwq k hl))
 obtain ⟨g, rfl⟩ : ∃ g, G' = g + 1 := ⟨G' - 1, by omega⟩
 rw [Xge j1 (by omega) (by rw [y8]; exact g2)] at g3
 have hend : (A ++ S ++ B : List UInt8).length = A.length + S.length + B.length := by simp; omega
 rw [hend, show p + (A.length + S.length + B.length) = p + A.length + S.length + B.length by omega] at HX hfol hstop ⊢
 have hr := hread sB (by omega) hfol (by rw [y6]; exact hstop)
 rw [hfst'] at hr
 have hge := Xu L (p + A.length + S.length + B.length)
 refine ⟨g, Xq x.kind, by omega, hll, ?_⟩
 rw [← hfst, g3]
 unfold Jj
 rw [if_neg y7, j2, hr, Xz, t5]
 have hXX : Xs WPr (Yp x.kind [((m : Nat) : Int), ((m' : Nat) : Int)]) (fs.take n) (skF L (p + A.length + S.length + B.length)) = some ((n : Int), fs.take (n + 1), skF L (p + A.length + S.length + B.length)) := by rw [← hR]; exact HX
 rw [hXX, Xz]
theorem Xtl : Xoa fs L n := by
 intro F l p f G least hF h1 h6 hll hle hs hf hG hfol hstop
 obtain ⟨o1, o2, o3, o4⟩ := J1 hok
 have hb := o2 n hn
 obtain ⟨z1, z2, z3, z4, z5, z6, z7, z8, z9, z10, z11⟩ := Wh hb
 have leaf : kidsN (Xj fs n).kind = 0 → Xas fs L n f G least l p (p + (Xm (Xp fs F) (Xj fs n)).length) := fun hk => by
  have hch := J7 (o3 n hn)
  rw [Xlx hb hk] at hch
  have hfst : Zd fs n = n := hch
  have hw := Xnj hok hn (Rd := Yj WPr L f) hk hs hfol
  refine V9 (by rw [hfst]; exact hw) (by omega) hG (by omega)
 rcases Xb8 z10 z11 with k | k | k | k | k | k | k | k | k | k | k | k | k | k | k
 ·exact leaf (by rw [k]; rfl)
 ·exact leaf (by rw [k]; rfl)
 ·exact leaf (by rw [k]; rfl)
 ·exact leaf (by rw [k]; rfl)
 ·exact leaf (by rw [k]; rfl)
 ·exact V9 (Xmk hok hn ihB hF hf k hs) (by omega) hG (by omega)
 ·exact V9 (Xow hok hn ihB hF hf k hs) (by omega) hG (by omega)
 ·exact V9 (Xpc hok hn ihB hF hf k hs) (by omega) hG (by omega)
 ·exact leaf (by rw [k]; rfl)
 ·exact leaf (by rw [k]; rfl)
 ·exact leaf (by rw [k]; rfl)
 ·exact leaf (by rw [k]; rfl)
 ·exact V9 (Xsg hok hn ihB hF hf k hs hfol) (by omega) hG (by omega)
 ·exact Xwr hok hn ihB ihW k hF h1 h6 hle hs hf hG
 ·exact Xws hok hn ihB ihW k hF h1 hll hle hs hf hG hfol hstop
end
theorem Xwt {fs : List FN} (hok : okF fs = true) {L : List UInt8} : ∀ N n, n < N → n < fs.length → Xn9 fs L n := by
 intro N
 induction N with
 | zero => intro n h; omega
 | succ N ih =>
  intro n hN hn
  exact Xxc hok hn (Xtl hok hn (fun m hm => Xmb (ih m (by omega) (by omega))) (fun m hm => ih m (by omega) (by omega)))
theorem Xkz {fs : List FN} (hok : okF fs = true) {f : Nat} (hf : (Qj fs).length < f) : Xcx (Yj WPr (Qj fs) f) (Qj fs) = some fs := by
 obtain ⟨o1, o2, o3, o4⟩ := J1 hok
 obtain ⟨L, hL⟩ : ∃ L, Qj fs = L := ⟨_, rfl⟩
 have hT : Xp fs fs.length (((fs.length - 1 : Nat) : Nat) : Int) 1 = L := by
  rw [← hL]; unfold Qj; rw [if_pos hok, show ((fs.length : Int) - 1) = ((fs.length - 1 : Nat) : Int) by omega]
 rw [hL] at hf ⊢
 have hs : Sit L 0 (Xp fs fs.length ((fs.length - 1 : Nat) : Int) 1) := by rw [hT]; exact Xeb L
 have hB := Xmb (Xwt hok (L := L) fs.length (fs.length - 1) (by omega) (by omega))
 have h1 := Vr hok fs.length (fs.length - 1) (by omega) (by omega) fs.length 1 0 (by omega) hs
 have hsk : skF L 0 = 0 := Zo h1.2.1 h1.2.2.1
 have hpast : skF L L.length = L.length := Xa2 (Nat.le_refl _)
 have hr := hB fs.length 1 0 f (by omega) (by decide) (by decide) hs (by omega)
 rw [hT, Nat.zero_add] at hr
 have hrr := hr (Xwg (Nat.le_refl _)) (Xtc (by rw [hpast]; exact Nat.le_refl _))
 rw [o4, hpast, show fs.length - 1 + 1 = fs.length by omega, List.take_length, List.take_zero] at hrr
 unfold Xcx
 rw [hsk, hrr]
 show (if L.length = L.length ∧ okF fs = true then some fs else none) = some fs
 rw [if_pos ⟨rfl, hok⟩]
end Go.Proofs.YtehihemfepbmfaaGreatDoor
