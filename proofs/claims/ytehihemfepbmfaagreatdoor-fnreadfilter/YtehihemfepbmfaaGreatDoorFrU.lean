import Derived.Test.YtehihemfepbmfaaGreatDoorFSpc3
import Derived.Test.YtehihemfepbmfaaGreatDoorUneP
import Derived.Test.YtehihemfepbmfaaGreatDoorSJt
namespace Go.Proofs.YtehihemfepbmfaaGreatDoor
set_option linter.unusedSectionVars false
open Go.RowKit
set_option linter.unusedSimpArgs false
set_option linter.unusedVariables false
def Xq (k : Int) : Int :=
 if k = 6 then 1 else if k = 7 then 2 else if k = 21 then 3 else if k = 17 ∨ k = 18 ∨ k = 19 ∨ k = 20 then 4 else if k = 15 ∨ k = 16 then 5 else if k = 23 then 6 else 7
def Ks (k : Int) : List UInt8 :=
 if k = 6 then [32, 124, 32] else if k = 7 then [44, 32] else if k = 21 then [32, 47, 47, 32] else if k = 17 then [32, 61, 61, 32] else if k = 18 then [32, 33, 61, 32]
 else if k = 19 then [32, 60, 32] else if k = 20 then [32, 60, 61, 32] else if k = 15 then [32, 43, 32] else [32, 45, 32]
def Vc (k : Int) : Int := if k = 6 then 2 else if k = 7 then 2 else if k = 21 then 4 else 5
def Ja (k : Int) : Int := if k = 6 then 1 else if k = 7 then 3 else if k = 21 then 3 else if k = 15 ∨ k = 16 then 6 else 5
def J3 (c : List VN) : List UInt8 := Ym false 1 0 (Yr c 1 0)
def Vl (k : Nat) : List UInt8 := if k = 0 then [] else [44, 32]
def Yk (R : Int → Int → List UInt8) (names : List ByteArray) (kids : List Int) : Nat → List UInt8
 | 0 => []
 | k + 1 => Yk R names kids k ++ Vl k ++ (Xr names k).data.toList ++ [58, 32] ++ R (Xk kids k) 3
def Xm (R : Int → Int → List UInt8) (x : FN) : List UInt8 :=
 if x.kind = 1 then [46]
 else if x.kind = 2 then 46 :: x.name.data.toList
 else if x.kind = 3 then [46, 91] ++ Lib.itoa x.place ++ [93]
 else if x.kind = 4 then [46, 91, 93]
 else if x.kind = 5 then J3 x.cst
 else if x.kind = 8 then [91] ++ (if x.kids.length = 0 then [] else R (Xk x.kids 0) 1) ++ [93]
 else if x.kind = 9 then [123] ++ Yk R x.names x.kids x.kids.length ++ [125]
 else if x.kind = 10 then [115, 101, 108, 101, 99, 116, 40] ++ R (Xk x.kids 0) 1 ++ [41]
 else if x.kind = 11 then [108, 101, 110, 103, 116, 104]
 else if x.kind = 12 then [107, 101, 121, 115]
 else if x.kind = 13 then [110, 111, 116]
 else if x.kind = 14 then [101, 109, 112, 116, 121]
 else if x.kind = 22 then [105, 102, 32] ++ R (Xk x.kids 0) 1 ++ [32, 116, 104, 101, 110, 32] ++ R (Xk x.kids 1) 1 ++ [32, 101, 108, 115, 101, 32] ++ R (Xk x.kids 2) 1 ++ [32, 101, 110, 100]
 else if x.kind = 23 then R (Xk x.kids 0) 6 ++ [63]
 else R (Xk x.kids 0) (Vc x.kind) ++ Ks x.kind ++ R (Xk x.kids 1) (Ja x.kind)
def Xp (fs : List FN) : Nat → Int → Int → List UInt8
 | 0, _, _ => []
 | f + 1, n, least => if Xq (Xj fs n.toNat).kind < least then [40] ++ Xm (Xp fs f) (Xj fs n.toNat) ++ [41] else Xm (Xp fs f) (Xj fs n.toNat)
def Qj (fs : List FN) : List UInt8 := if okF fs = true then Xp fs fs.length ((fs.length : Int) - 1) 1 else []
def Xbv (T : Nat → Option (Nat × Nat)) (k : Int) : Nat := match T k.toNat with
 | some p => k.toNat + 1 - p.1
 | none => 0
theorem Xsi {T : Nat → Option (Nat × Nat)} (hT : ∀ m p, T m = some p → p.1 ≤ m) : ∀ (l : List Int) (b h : Nat) (q : Nat × Nat), l.foldl (Xt T) (some (b, h)) = some q → q.1 ≤ b ∧ (l.map (Xbv T)).sum = b - q.1 := by
 intro l
 induction l with
 | nil => intro b h q e; simp at e; rw [← e]; simp
 | cons k l ih =>
  intro b h q e
  obtain ⟨p, h1, h2, h3, h4⟩ := Qr e
  have hp := hT _ _ h3
  obtain ⟨g1, g2⟩ := ih _ _ _ h4
  have e1 : Xbv T k = b - p.1 := by
   have : k.toNat = b - 1 := by omega
   unfold Xbv
   rw [this, h3]
   simp only
   omega
  rw [List.map_cons, List.sum_cons, g2, e1]
  omega
theorem Xxv {K : Nat → List Int} {n : Nat} {p : Nat × Nat} (h : tr K n = some p) : p.1 ≤ n ∧ ((K n).map (Xbv (tr K))).sum = n - p.1 := by
 rw [Ua] at h
 cases hf : (K n).reverse.foldl (Xt (tr K)) (some (n, 0)) with
 | none => simp [hf] at h
 | some q =>
  rw [hf] at h
  simp at h
  have := Xsi (fun m p hp => Gj hp) _ _ _ _ hf
  rw [List.map_reverse, List.sum_reverse] at this
  rw [← h]
  exact this
theorem Xvz (W : Int → Nat) : ∀ (l : List Int) (k : Int), k ∈ l → W k ≤ (l.map W).sum := by
 intro l
 induction l with
 | nil => intro k h; cases h
 | cons a l ih =>
  intro k h
  rw [List.map_cons, List.sum_cons]
  rcases List.mem_cons.1 h with rfl | h
  ·omega
  ·have := ih k h; omega
theorem Xfx (W : Int → Nat) (l : List Int) (j : Nat) (hj : j < l.length) : W (Xk l j) ≤ (l.map W).sum := by
 rw [Qb hj]
 exact Xvz W l _ (List.getElem_mem hj)
theorem Xie (k : Nat) : (Vl k).length ≤ 2 := by unfold Vl; split <;> simp
theorem Xpe (R : Int → Int → List UInt8) (names : List ByteArray) (kids : List Int) {j k : Nat} (h : j ≤ k) : (Yk R names kids j).length ≤ (Yk R names kids k).length := by
 induction k with
 | zero => obtain rfl : j = 0 := by omega
           exact Nat.le_refl _
 | succ k ih =>
  by_cases e : j = k + 1
  ·subst e; exact Nat.le_refl _
  ·have := ih (by omega)
   rw [Yk]; simp only [List.length_append]; omega
theorem Xsj {R : Int → Int → List UInt8} {names : List ByteArray} {kids : List Int} {W : Int → Nat} (hR : ∀ k ∈ kids, ∀ l, (R k l).length ≤ W k) (hn : ∀ j, j < kids.length → (Xr names j).size ≤ 60) :
  ∀ k, k ≤ kids.length → (Yk R names kids k).length ≤ 64 * k + ((kids.take k).map W).sum := by
 intro k
 induction k with
 | zero => intro _; simp [Yk]
 | succ k ih =>
  intro hk
  have h1 := ih (by omega)
  have h2 := hn k (by omega)
  have h3 := hR (Xk kids k) (by rw [Qb (show k < kids.length by omega)]; exact List.getElem_mem _) 3
  have h4 := Xie k
  have h5 : (Xr names k).data.toList.length = (Xr names k).size := Xh _
  rw [Yk]
  simp only [List.length_append, List.length_cons, List.length_nil]
  rw [List.take_succ_eq_append_getElem (show k < kids.length by omega), List.map_append, List.sum_append]
  rw [Qb (show k < kids.length by omega)] at h3 ⊢
  simp only [List.map_cons, List.map_nil, List.sum_cons, List.sum_nil]
  omega
theorem Xd6 {c : List VN} (h : Q8 c = true) : 1 ≤ (J3 c).length ∧ (J3 c).length ≤ 362 := by
 unfold Q8 at h
 simp only [Bool.and_eq_true, decide_eq_true_eq] at h
 obtain ⟨⟨⟨h1, h2⟩, h3⟩, h4⟩ := h
 refine ⟨Xgi h2 false 0 0 (i := 0) (by omega), ?_⟩
 unfold J3
 rw [Yr]
 have hl := Z9 false 0 0 (kind := (Xc c 0).kind) (n := (Xc c 0).n) (s := (Xc c 0).s) (keys := (Xc c 0).keys) (kids := (Xc c 0).kids.map fun k => Yr c 0 k.toNat)
 rcases Xa8 h2 (show 0 < c.length by omega) with k | ⟨k, _⟩ | ⟨k, q1, q2⟩ | ⟨k, q1⟩ | k | ⟨k, _⟩
 ·rw [hl.1 k]; simp
 ·rw [hl.2.1 k]; split <;> simp
 ·rw [hl.2.2.1 k]; have := Lib.itoa_length_le (Xc c 0).n (by omega) (by omega); omega
 ·rw [hl.2.2.2.1 k]; have := (U1 (Xc c 0).s).2; omega
 ·exact absurd k h3
 ·exact absurd k h4
theorem Xsk (k : Int) : (Ks k).length ≤ 4 := by
 unfold Ks
 repeat (split; · simp)
 simp
theorem Xkm {l : List ByteArray} (h : Zu l = true) : l.length ≤ 5 ∧ ∀ j, j < l.length → (Xr l j).size ≤ 60 := by
 unfold Zu Gg at h
 simp only [Bool.and_eq_true, decide_eq_true_eq, List.all_eq_true, List.mem_range] at h
 refine ⟨h.1, fun j hj => ?_⟩
 have := h.2 j hj
 unfold Qw X7 at this
 simp only [Bool.and_eq_true, decide_eq_true_eq] at this
 exact this.1.1.1.2
theorem Xai {x : FN} (h : Xl x = true) : (x.kind = 8 → x.kids.length ≤ 1) ∧ (x.kind = 9 → x.kids.length = x.names.length ∧ x.names.length ≤ 5 ∧ ∀ j, j < x.names.length → (Xr x.names j).size ≤ 60) ∧ (x.kind ≠ 8 → x.kind ≠ 9 → 1 ≤ x.kind ∧ x.kind ≤ 23 ∧ (x.kids.length : Int) = kidsN x.kind) ∧
  (x.kind = 2 → X7 x.name = true) ∧ (x.kind = 3 → -80 ≤ x.place ∧ x.place ≤ 80) ∧ (x.kind = 5 → Q8 x.cst = true) ∧ (x.kind ≠ 2 → x.name.size = 0) ∧ (x.kind ≠ 9 → x.names.length = 0) := by
 unfold Xl at h
 simp only [Bool.and_eq_true] at h
 obtain ⟨⟨h0, h1⟩, h2⟩ := h
 refine ⟨fun k => ?_, fun k => ?_, fun k8 k9 => ?_, fun k => ?_, fun k => ?_, fun k => ?_, fun k => ?_, fun k => ?_⟩
 ·unfold Jc at h2; rw [if_pos k] at h2; simpa using h2
 ·unfold Jc at h2; rw [if_neg (by omega), if_pos k] at h2
  unfold Q2 at h1; rw [if_neg (by omega), if_neg (by omega), if_neg (by omega), if_pos k] at h1
  exact ⟨by simpa using h2, Xkm h1⟩
 ·unfold Jc at h2; rw [if_neg k8, if_neg k9] at h2
  simp only [Bool.and_eq_true, decide_eq_true_eq] at h2
  exact ⟨h2.1.1, h2.1.2, h2.2⟩
 ·unfold Q2 at h1; rw [if_pos k] at h1; exact h1
 ·unfold Q2 at h1; rw [if_neg (by omega), if_pos k] at h1; simpa using h1
 ·unfold Q2 at h1; rw [if_neg (by omega), if_neg (by omega), if_pos k] at h1; exact h1
 ·unfold V4 at h0
  simp only [Bool.and_eq_true, Bool.not_eq_true', Bool.and_eq_false_iff, decide_eq_false_iff_not] at h0
  have := h0.1.1.1
  have hh : x.name.toList = [] := by
   rcases this with t | t
   ·exact absurd k t
   ·exact Classical.not_not.1 t
  exact Xah.1 hh
 ·unfold V4 at h0
  simp only [Bool.and_eq_true, Bool.not_eq_true', Bool.and_eq_false_iff, decide_eq_false_iff_not] at h0
  have := h0.2
  omega
theorem Xpf {R : Int → Int → List UInt8} {x : FN} (hx : Xl x = true) {W : Int → Nat} (hR : ∀ k ∈ x.kids, ∀ l, (R k l).length ≤ W k) : (Xm R x).length ≤ 500 + (x.kids.map W).sum := by
 obtain ⟨f8, f9, fo, f2, f3, f5, _, _⟩ := Xai hx
 have hk : ∀ j, j < x.kids.length → ∀ l, (R (Xk x.kids j) l).length ≤ W (Xk x.kids j) := fun j hj l => hR _ (by rw [Qb hj]; exact List.getElem_mem _) l
 have two : ∀ l m, 2 ≤ x.kids.length → (R (Xk x.kids 0) l).length + (R (Xk x.kids 1) m).length ≤ (x.kids.map W).sum := by
  intro l m h2
  have a := hk 0 (by omega) l
  have b := hk 1 (by omega) m
  match hh : x.kids, h2 with
  | p :: q :: r, _ =>
   rw [hh] at a b
   simp only [List.map_cons, List.sum_cons]
   simp [Xk] at a b ⊢
   omega
 unfold Xm
 by_cases g1 : x.kind = 1
 ·rw [if_pos g1]
  simp only [List.length_cons, List.length_nil]; omega
 rw [if_neg g1]
 by_cases g2 : x.kind = 2
 ·rw [if_pos g2]
  have := (show x.name.size ≤ 60 by have := f2 g2; unfold X7 at this; simp only [Bool.and_eq_true, decide_eq_true_eq] at this; exact this.1.1.2); have := Xh x.name; simp only [List.length_cons]; omega
 rw [if_neg g2]
 by_cases g3 : x.kind = 3
 ·rw [if_pos g3]
  have := f3 g3; have := Lib.itoa_length_le x.place (by omega) (by omega); simp only [List.length_append, List.length_cons, List.length_nil]; omega
 rw [if_neg g3]
 by_cases g4 : x.kind = 4
 ·rw [if_pos g4]
  simp only [List.length_cons, List.length_nil]; omega
 rw [if_neg g4]
 by_cases g5 : x.kind = 5
 ·rw [if_pos g5]
  have := (Xd6 (f5 g5)).2; omega
 rw [if_neg g5]
 by_cases g8 : x.kind = 8
 ·rw [if_pos g8]
  split
  ·simp only [List.length_append, List.length_cons, List.length_nil]; omega
  ·have a := hk 0 (by omega) 1
   have b := Xfx W x.kids 0 (by omega)
   simp only [List.length_append, List.length_cons, List.length_nil]; omega
 rw [if_neg g8]
 by_cases g9 : x.kind = 9
 ·rw [if_pos g9]
  obtain ⟨e1, e2, e3⟩ := f9 g9
  have := Xsj hR (fun j hj => e3 j (by omega)) x.kids.length (Nat.le_refl _)
  rw [List.take_length] at this
  simp only [List.length_append, List.length_cons, List.length_nil]; omega
 rw [if_neg g9]
 by_cases g10 : x.kind = 10
 ·rw [if_pos g10]
  have e := (fo (by omega) (by omega)).2.2
  rw [g10] at e; simp [kidsN] at e
  have a := hk 0 (by omega) 1
  have b := Xfx W x.kids 0 (by omega)
  simp only [List.length_append, List.length_cons, List.length_nil]; omega
 rw [if_neg g10]
 by_cases g11 : x.kind = 11
 ·rw [if_pos g11]
  simp only [List.length_cons, List.length_nil]; omega
 rw [if_neg g11]
 by_cases g12 : x.kind = 12
 ·rw [if_pos g12]
  simp only [List.length_cons, List.length_nil]; omega
 rw [if_neg g12]
 by_cases g13 : x.kind = 13
 ·rw [if_pos g13]
  simp only [List.length_cons, List.length_nil]; omega
 rw [if_neg g13]
 by_cases g14 : x.kind = 14
 ·rw [if_pos g14]
  simp only [List.length_cons, List.length_nil]; omega
 rw [if_neg g14]
 by_cases g22 : x.kind = 22
 ·rw [if_pos g22]
  have e := (fo (by omega) (by omega)).2.2
  rw [g22] at e; simp [kidsN] at e
  have e3 : x.kids.length = 3 := by omega
  have a := hk 0 (by omega) 1
  have b := hk 1 (by omega) 1
  have c := hk 2 (by omega) 1
  match hh : x.kids, e3 with
  | [p, q, r], _ =>
   rw [hh] at a b c
   simp only [List.map_cons, List.sum_cons, List.length_append, List.length_cons, List.length_nil, List.map_nil, List.sum_nil]
   simp [Xk] at a b c ⊢
   omega
 rw [if_neg g22]
 by_cases g23 : x.kind = 23
 ·rw [if_pos g23]
  have e := (fo (by omega) (by omega)).2.2
  rw [g23] at e; simp [kidsN] at e
  have a := hk 0 (by omega) 6
  have b := Xfx W x.kids 0 (by omega)
  simp only [List.length_append, List.length_cons, List.length_nil]; omega
 rw [if_neg g23]
 obtain ⟨k1, k2, k3⟩ := fo g8 g9
 have e : x.kids.length = 2 := by
  unfold kidsN at k3
  rw [if_pos (by omega)] at k3
  omega
 have a := two (Vc x.kind) (Ja x.kind) (by omega)
 have b := Xsk x.kind
 simp only [List.length_append]; omega
theorem Wd {fs : List FN} (h : okF fs = true) : (1 ≤ fs.length ∧ fs.length ≤ 40) ∧ (∀ i, i < fs.length → Xl (Xj fs i) = true ∧ Jd fs i = true) ∧ (∀ i, i < fs.length → ∃ p, tr (Yq fs) i = some p) := by
 have ht := h
 rw [← Xi7] at ht
 unfold okF Vp at h
 unfold Xef Jr at ht
 simp only [Bool.and_eq_true, List.all_eq_true, List.mem_range, decide_eq_true_eq] at h ht
 exact ⟨h.1.1, fun i hi => h.1.2 i hi, fun i hi => Option.isSome_iff_exists.1 (ht.2.1 i hi)⟩
theorem Xgj {fs : List FN} {k j : Nat} (h : Jd fs k = true) (hj : j < (Xj fs k).kids.length) : 0 ≤ Xk (Xj fs k).kids j ∧ Xk (Xj fs k).kids j < (k : Int) := by
 unfold Jd Yq at h
 simp only [List.all_eq_true, Bool.and_eq_true, decide_eq_true_eq] at h
 rw [Qb hj]
 have := h _ (List.getElem_mem hj)
 omega
theorem Xsl {fs : List FN} (hok : okF fs = true) : ∀ (f n : Nat) (least : Int) (p : Nat × Nat), n < fs.length → n < f → tr (Yq fs) n = some p → (Xp fs f n least).length ≤ 600 * (n + 1 - p.1) := by
 obtain ⟨_, h2, h3⟩ := Wd hok
 intro f
 induction f with
 | zero => intro n l p _ h; omega
 | succ f ih =>
  intro n least p hn hf hp
  obtain ⟨w1, w2⟩ := Xxv hp
  obtain ⟨hx, hki⟩ := h2 n hn
  have hb := Xpf (R := Xp fs f) hx (W := fun k => 600 * Xbv (tr (Yq fs)) k) (fun k hk l => by
   obtain ⟨j, hj, rfl⟩ := List.getElem_of_mem hk
   have hj' : j < (Xj fs n).kids.length := hj
   have hg := Xgj hki hj'
   rw [Qb hj'] at hg
   obtain ⟨q, hq⟩ : ∃ q : Nat, (Xj fs n).kids[j] = (q : Int) := ⟨((Xj fs n).kids[j]).toNat, by omega⟩
   rw [hq] at hg ⊢
   obtain ⟨r, hr⟩ := h3 q (by omega)
   have := ih q l r (by omega) (by omega) hr
   have e : Xbv (tr (Yq fs)) (q : Int) = q + 1 - r.1 := by unfold Xbv; rw [Int.toNat_natCast, hr]
   simp only [e]
   exact this)
  have e : ((Xj fs n).kids.map fun k => 600 * Xbv (tr (Yq fs)) k).sum = 600 * (n - p.1) := by
   rw [← w2]
   show _ = 600 * ((Xj fs n).kids.map (Xbv (tr (Yq fs)))).sum
   generalize (Xj fs n).kids = l
   induction l with
   | nil => rfl
   | cons a l ihl => simp only [List.map_cons, List.sum_cons, ihl]; omega
  rw [e] at hb
  rw [Xp, Int.toNat_natCast]
  split
  ·simp only [List.length_append, List.length_cons, List.length_nil]; omega
  ·omega
theorem Xlp {fs : List FN} (hok : okF fs = true) (f n : Nat) (least : Int) (hn : n < fs.length) (hf : n < f) : (Xp fs f n least).length ≤ 24600 := by
 obtain ⟨h1, _, h3⟩ := Wd hok
 obtain ⟨p, hp⟩ := h3 n hn
 have := Xsl hok f n least p hn hf hp
 have : n + 1 - p.1 ≤ 41 := by omega
 omega

def Xbw (c : Nat) : Bool := decide (c = 32 ∨ c = 10)
abbrev skF (L : List UInt8) (p : Nat) : Nat := Kj Xbw L p
def nmC (c : Nat) : Bool := Yl c || Ze c
abbrev nmJ (L : List UInt8) (p : Nat) : Nat := Kj nmC L p
def Yn (L : List UInt8) (p : Nat) : Bool := decide (p < L.length) && Yl (Xe L p)
def Kt (L : List UInt8) (p : Nat) : Bool := decide (p < L.length) && Ze (Xe L p)
def X6 (L : List UInt8) (p : Nat) : List UInt8 := (L.drop p).take (nmJ L p - p)
abbrev RF := Option (Int × List FN × Nat)
def Xw (a : RF) (k : Int → List FN → Nat → RF) : RF := match a with
 | none => none
 | some (n, fs, q) => k n fs q
theorem Xz {n : Int} {fs : List FN} {q : Nat} {k : Int → List FN → Nat → RF} : Xw (some (n, fs, q)) k = k n fs q := rfl
theorem Je {k : Int → List FN → Nat → RF} : Xw none k = none := rfl
structure WP where
 dec : List UInt8 → Option Int
 nam : List UInt8 → Nat → Nat
 tex : List UInt8 → Nat → Option (List UInt8 × Nat)
 cap : Bool
def Xs (W : WP) (x : FN) (fs : List FN) (q : Nat) : RF := if W.cap = true ∧ 40 < fs.length + 1 then none else some ((fs.length : Int), fs ++ [x], q)
def Ye (L : List UInt8) (q c : Nat) (k : Nat → RF) : RF := if Xd L q c = true then k (skF L (q + 1)) else none
def Jf (L : List UInt8) (w : List UInt8) (q : Nat) (k : Nat → RF) : RF := if X6 L q = w then k (skF L (nmJ L q)) else none
def Qo (W : WP) (L : List UInt8) (q : Nat) (k : Int → Nat → RF) : RF := match W.dec (Q3 L q) with
 | none => none
 | some n => k n (skF L (dgJ L (X9 L q)))
def Qn (k : Int) : FN := ⟨k, ByteArray.empty, 0, [], [], []⟩
def Yp (k : Int) (kids : List Int) : FN := ⟨k, ByteArray.empty, 0, [], [], kids⟩
def Zm (v : VN) : FN := ⟨5, ByteArray.empty, 0, [v], [], []⟩
def Vi (names : List ByteArray) (kids : List Int) : FN := ⟨9, ByteArray.empty, 0, [], names, kids⟩
def Qe (W : WP) (L : List UInt8) (fs : List FN) (p : Nat) : RF :=
 if Xd L p 93 = true then Xs W (Qn 4) fs (skF L (p + 1))
 else Qo W L p fun n q => Ye L q 93 fun q => Xs W ⟨3, ByteArray.empty, n, [], [], []⟩ fs q
def Yg (W : WP) (L : List UInt8) (fs : List FN) (p : Nat) : RF :=
 if Yn L p = true then Xs W ⟨2, txt (X6 L p), 0, [], [], []⟩ fs (skF L (nmJ L p))
 else if Xd L p 91 = true then Qe W L fs (skF L (p + 1))
 else Xs W (Qn 1) fs (skF L p)
abbrev RD := Int → List FN → Nat → RF
def Zf (R : RD) (L : List UInt8) (c : Nat) (fs : List FN) (p : Nat) : RF := Xw (R 1 fs p) fun n fs q => Ye L q c fun q => some (n, fs, q)
def Jg (W : WP) (R : RD) (L : List UInt8) (fs : List FN) (p : Nat) : RF :=
 if Xd L p 93 = true then Xs W (Qn 8) fs (skF L (p + 1))
 else Xw (R 1 fs p) fun n fs q => Ye L q 93 fun q => Xs W (Yp 8 [n]) fs q
def Zg (W : WP) (R : RD) (L : List UInt8) : Nat → List ByteArray → List Int → List FN → Nat → RF
 | 0, _, _, _, _ => none
 | g + 1, names, kids, fs, p =>
  Ye L (skF L (W.nam L p)) 58 fun q => Xw (R 3 fs q) fun n fs q =>
   if Xd L q 125 = true then Xs W (Vi (names ++ [txt ((L.drop p).take (W.nam L p - p))]) (kids ++ [n])) fs (skF L (q + 1))
   else Ye L q 44 fun q => Zg W R L g (names ++ [txt ((L.drop p).take (W.nam L p - p))]) (kids ++ [n]) fs q
def Q7 (W : WP) (R : RD) (L : List UInt8) (fs : List FN) (p : Nat) : RF :=
 if Xd L p 125 = true then Xs W (Qn 9) fs (skF L (p + 1)) else Zg W R L (L.length + 1) [] [] fs p
def Vm (W : WP) (R : RD) (L : List UInt8) (fs : List FN) (p : Nat) : RF :=
 Ye L p 40 fun q => Xw (Zf R L 41 fs q) fun n fs q => Xs W (Yp 10 [n]) fs q
def ifF (W : WP) (R : RD) (L : List UInt8) (fs : List FN) (p : Nat) : RF :=
 Xw (R 1 fs p) fun a fs q => Jf L [116, 104, 101, 110] q fun q =>
 Xw (R 1 fs q) fun b fs q => Jf L [101, 108, 115, 101] q fun q =>
 Xw (R 1 fs q) fun c fs q => Jf L [101, 110, 100] q fun q => Xs W (Yp 22 [a, b, c]) fs q
def X1 (W : WP) (R : RD) (L : List UInt8) (w : List UInt8) (fs : List FN) (p : Nat) : RF :=
 if w = Xhv then Xs W (Zm ⟨1, 0, ByteArray.empty, [], []⟩) fs p
 else if w = Xhw then Xs W (Zm ⟨2, 1, ByteArray.empty, [], []⟩) fs p
 else if w = Xe8 then Xs W (Zm ⟨2, 0, ByteArray.empty, [], []⟩) fs p
 else if w = [115, 101, 108, 101, 99, 116] then Vm W R L fs p
 else if w = [105, 102] then ifF W R L fs p
 else if w = [108, 101, 110, 103, 116, 104] then Xs W (Qn 11) fs p
 else if w = [107, 101, 121, 115] then Xs W (Qn 12) fs p
 else if w = [110, 111, 116] then Xs W (Qn 13) fs p
 else if w = [101, 109, 112, 116, 121] then Xs W (Qn 14) fs p
 else none
def Xo (W : WP) (R : RD) (L : List UInt8) (fs : List FN) (p : Nat) : RF :=
 if Xd L p 46 = true then Yg W L fs (p + 1)
 else if Xd L p 40 = true then Zf R L 41 fs (skF L (p + 1))
 else if Xd L p 91 = true then Jg W R L fs (skF L (p + 1))
 else if Xd L p 123 = true then Q7 W R L fs (skF L (p + 1))
 else if Xd L p 34 = true then (match W.tex L (p + 1) with
  | none => none
  | some (t, q) => Xs W (Zm ⟨4, 0, txt t, [], []⟩) fs (skF L q))
 else if Yn L p = true then X1 W R L (X6 L p) fs (skF L (nmJ L p))
 else if Xd L p 45 = true ∨ Kt L p = true then Qo W L p fun n q => Xs W (Zm ⟨3, n, ByteArray.empty, [], []⟩) fs q
 else none
def Xx (L : List UInt8) (p : Nat) : Option (Int × Nat) :=
 if Xd L p 124 = true then some (6, 1)
 else if Xd L p 44 = true then some (7, 1)
 else if Xd L p 47 = true ∧ Xd L (p + 1) 47 = true then some (21, 2)
 else if Xd L p 61 = true ∧ Xd L (p + 1) 61 = true then some (17, 2)
 else if Xd L p 33 = true ∧ Xd L (p + 1) 61 = true then some (18, 2)
 else if Xd L p 60 = true ∧ Xd L (p + 1) 61 = true then some (20, 2)
 else if Xd L p 60 = true then some (19, 1)
 else if Xd L p 43 = true then some (15, 1)
 else if Xd L p 45 = true then some (16, 1)
 else if Xd L p 63 = true then some (23, 1)
 else none
def Xd7 (k : Int) : Int := if k = 23 then 6 else Vc k
def Jj (R : RD) (L : List UInt8) (W : WP) (k : Int) (len : Nat) (n : Int) (fs : List FN) (p : Nat) : RF :=
 if k = 23 then Xs W (Yp 23 [n]) fs (skF L (p + len))
 else Xw (R (Ja k) fs (skF L (p + len))) fun b fs q => Xs W (Yp k [n, b]) fs q
def Zq (R : RD) (L : List UInt8) (W : WP) : Nat → Int → Int → Int → List FN → Nat → RF
 | 0, _, _, _, _, _ => none
 | g + 1, least, bind, n, fs, p => match Xx L p with
  | none => some (n, fs, p)
  | some (k, len) => if Xq k < least then some (n, fs, p) else if bind < Xd7 k then none
   else Xw (Jj R L W k len n fs p) fun n fs q => Zq R L W g least (Xq k) n fs q
def Yj (W : WP) (L : List UInt8) : Nat → RD
 | 0, _, _, _ => none
 | f + 1, least, fs, p => Xw (Xo W (Yj W L f) L fs p) fun n fs q => Zq (Yj W L f) L W (L.length + 1) least 7 n fs q
def Js (S : RD) (L : List UInt8) (W : WP) (l : Nat) : Nat → Int → List FN → Nat → RF
 | 0, _, _, _ => none
 | g + 1, n, fs, p => match Xx L p with
  | none => some (n, fs, p)
  | some (k, len) => if Xq k = (l : Int) then Xw (Jj S L W k len n fs p) fun n fs q => if l = 6 ∨ l = 5 ∨ l = 2 then Js S L W l g n fs q else some (n, fs, q)
   else some (n, fs, p)
def lvS (S : RD) (L : List UInt8) (W : WP) : Nat → List FN → Nat → RF
 | 0, fs, p => Xw (Xo W S L fs p) (Js S L W 6 (L.length + 1))
 | d + 1, fs, p => Xw (lvS S L W d fs p) (Js S L W (5 - d) (L.length + 1))
def Ud (W : WP) (L : List UInt8) : Nat → RD
 | 0, _, _, _ => none
 | f + 1, least, fs, p => lvS (Ud W L f) L W (6 - least.toNat) fs p
def Xcx (R : RD) (L : List UInt8) : Option (List FN) := match R 1 [] (skF L 0) with
 | none => none
 | some (_, fs, q) => if q = L.length ∧ okF fs = true then some fs else none

structure Went (L : List UInt8) (fs : List FN) (p : Nat) (n : Int) (fs' : List FN) (q : Nat) : Prop where
 lt : p < q
 le : q ≤ L.length
 nb : skF L q = q
 pre : ∃ more, fs' = fs ++ more
 cnt : fs'.length + p ≤ fs.length + q
 n0 : 0 ≤ n
 n1 : n < (fs'.length : Int)
def Jp (L : List UInt8) (R : RD) : Prop := ∀ least fs p n fs' q, p ≤ L.length → R least fs p = some (n, fs', q) → Went L fs p n fs' q
structure WGood (W : WP) (L : List UInt8) : Prop where
 nam : ∀ p, p ≤ L.length → p ≤ W.nam L p ∧ W.nam L p ≤ L.length
 tex : ∀ p t q, p ≤ L.length → W.tex L p = some (t, q) → p ≤ q ∧ q ≤ L.length
theorem X2 {a : RF} {k : Int → List FN → Nat → RF} {n : Int} {fs : List FN} {q : Nat} (h : Xw a k = some (n, fs, q)) : ∃ n1 fs1 q1, a = some (n1, fs1, q1) ∧ k n1 fs1 q1 = some (n, fs, q) := by
 cases a with
 | none => cases h
 | some r => obtain ⟨n1, fs1, q1⟩ := r; exact ⟨n1, fs1, q1, rfl, h⟩
theorem Zc {L : List UInt8} {p c : Nat} {k : Nat → RF} {n : Int} {fs : List FN} {q : Nat} (h : Ye L p c k = some (n, fs, q)) : Xd L p c = true ∧ k (skF L (p + 1)) = some (n, fs, q) := by
 unfold Ye at h
 split at h
 ·rename_i e; exact ⟨e, h⟩
 ·cases h
theorem Vs {L : List UInt8} {w : List UInt8} {p : Nat} {k : Nat → RF} {n : Int} {fs : List FN} {q : Nat} (h : Jf L w p k = some (n, fs, q)) : X6 L p = w ∧ k (skF L (nmJ L p)) = some (n, fs, q) := by
 unfold Jf at h
 split at h
 ·rename_i e; exact ⟨e, h⟩
 ·cases h
theorem Xap {W : WP} {L : List UInt8} {p : Nat} {k : Int → Nat → RF} {n : Int} {fs : List FN} {q : Nat} (h : Qo W L p k = some (n, fs, q)) : ∃ v, W.dec (Q3 L p) = some v ∧ k v (skF L (dgJ L (X9 L p))) = some (n, fs, q) := by
 unfold Qo at h
 split at h
 ·cases h
 ·rename_i v e; exact ⟨v, e, h⟩
theorem Vt {W : WP} {x : FN} {fs : List FN} {p : Nat} {n : Int} {fs' : List FN} {q : Nat} (h : Xs W x fs p = some (n, fs', q)) : n = (fs.length : Int) ∧ fs' = fs ++ [x] ∧ q = p := by
 unfold Xs at h
 split at h
 ·cases h
 ·simp only [Option.some.injEq, Prod.mk.injEq] at h
  exact ⟨h.1.symm, h.2.1.symm, h.2.2.symm⟩
theorem Xu (L : List UInt8) (p : Nat) : p ≤ skF L p := Zb _ _ _
theorem Xy {L : List UInt8} {p : Nat} (h : p ≤ L.length) : skF L p ≤ L.length := Uw h
theorem Gm {L : List UInt8} {p : Nat} (h : p ≤ L.length) : nmJ L p ≤ L.length := Uw h
theorem Yc (L : List UInt8) (p : Nat) : skF L (skF L p) = skF L p := Xp2 _ _ _
theorem Zs {W : WP} {L : List UInt8} {x : FN} {fs fs1 : List FN} {p q : Nat} {n : Int} {fs' : List FN} {q' : Nat} (h : Xs W x fs1 (skF L q) = some (n, fs', q')) (hp : ∃ more, fs1 = fs ++ more) (hc : fs1.length + 1 + p ≤ fs.length + q) (hl : p < q) (hq : q ≤ L.length) : Went L fs p n fs' q' := by
 obtain ⟨rfl, rfl, rfl⟩ := Vt h
 obtain ⟨more, rfl⟩ := hp
 have h1 := Xu L q
 have h2 := Xy hq
 rw [List.length_append] at hc
 refine ⟨by omega, h2, Yc L q, ⟨more ++ [x], by simp⟩, ?_, by omega, ?_⟩
 ·simp only [List.length_append, List.length_singleton]; omega
 ·simp only [List.length_append, List.length_singleton]; omega
theorem Xnp {W : WP} {L : List UInt8} {fs : List FN} {p0 p : Nat} {n : Int} {fs' : List FN} {q : Nat} (hp0 : p0 < p) (hp : p ≤ L.length) (h : Qe W L fs p = some (n, fs', q)) : Went L fs p0 n fs' q := by
 unfold Qe at h
 split at h
 ·rename_i e
  have := (Xg.1 e).1
  exact Zs h ⟨[], by simp⟩ (by omega) (by omega) (by omega)
 ·obtain ⟨v, -, h⟩ := Xap h
  obtain ⟨e, h⟩ := Zc h
  have h1 := (Xg.1 e).1
  have h2 := Xu L (dgJ L (X9 L p))
  have h3 : X9 L p ≤ dgJ L (X9 L p) := Zb _ _ _
  have h4 := U0 L p
  exact Zs h ⟨[], by simp⟩ (by omega) (by omega) (by omega)
theorem Xc8 {L : List UInt8} {p : Nat} (h : Yn L p = true) : p < nmJ L p ∧ p < L.length := by
 unfold Yn at h
 simp only [Bool.and_eq_true, decide_eq_true_eq] at h
 have h1 : nmC (Xe L p) = true := by unfold nmC; rw [h.2]; rfl
 have h2 : nmJ L p = nmJ L (p + 1) := Jz h.1 h1
 have h3 : p + 1 ≤ nmJ L (p + 1) := Zb _ _ _
 exact ⟨by omega, h.1⟩
theorem Xnq {W : WP} {L : List UInt8} {fs : List FN} {p : Nat} {n : Int} {fs' : List FN} {q : Nat} (hp : p < L.length) (h : Yg W L fs (p + 1) = some (n, fs', q)) : Went L fs p n fs' q := by
 unfold Yg at h
 split at h
 ·rename_i e
  have h1 := Xc8 e
  exact Zs h ⟨[], by simp⟩ (by omega) (by omega) (Uw (by omega))
 ·split at h
  ·rename_i e
   have h1 := (Xg.1 e).1
   have h2 := Xu L (p + 1 + 1)
   exact Xnp (by omega) (Xy (by omega)) h
  ·exact Zs h ⟨[], by simp⟩ (by omega) (by omega) (by omega)
theorem Xbd {R : RD} {L : List UInt8} (HR : Jp L R) {c : Nat} {fs : List FN} {p0 p : Nat} {n : Int} {fs' : List FN} {q : Nat} (hp0 : p0 < p) (hp : p ≤ L.length) (h : Zf R L c fs p = some (n, fs', q)) : Went L fs p0 n fs' q ∧ fs'.length + 1 + p0 ≤ fs.length + q := by
 unfold Zf at h
 obtain ⟨n1, fs1, q1, h1, h2⟩ := X2 h
 have w1 := HR _ _ _ _ _ _ hp h1
 obtain ⟨e, h3⟩ := Zc h2
 simp only [Option.some.injEq, Prod.mk.injEq] at h3
 obtain ⟨rfl, rfl, rfl⟩ := h3
 have e1 := (Xg.1 e).1
 have e2 := Xu L (q1 + 1)
 have := w1.lt
 have := w1.cnt
 exact ⟨⟨by omega, Xy (by omega), Yc _ _, w1.pre, by omega, w1.n0, w1.n1⟩, by omega⟩
theorem Vu {a b c : List FN} (h1 : ∃ m, b = a ++ m) (h2 : ∃ m, c = b ++ m) : ∃ m, c = a ++ m := by
 obtain ⟨m1, rfl⟩ := h1; obtain ⟨m2, rfl⟩ := h2; exact ⟨m1 ++ m2, by simp⟩
theorem Xq9 {W : WP} {R : RD} {L : List UInt8} (HR : Jp L R) {fs : List FN} {p0 p : Nat} {n : Int} {fs' : List FN} {q : Nat} (hp0 : p0 < p) (hp : p ≤ L.length) (h : Jg W R L fs p = some (n, fs', q)) : Went L fs p0 n fs' q := by
 unfold Jg at h
 split at h
 ·rename_i e
  have := (Xg.1 e).1
  exact Zs h ⟨[], by simp⟩ (by omega) (by omega) (by omega)
 ·obtain ⟨n1, fs1, q1, h1, h2⟩ := X2 h
  have w1 := HR _ _ _ _ _ _ hp h1
  obtain ⟨e, h3⟩ := Zc h2
  have e1 := (Xg.1 e).1
  have := w1.lt
  have := w1.cnt
  exact Zs h3 w1.pre (by omega) (by omega) (by omega)
theorem Xra {W : WP} {R : RD} {L : List UInt8} (HR : Jp L R) (HW : WGood W L) : ∀ g names kids fs p p0 n fs' q, p0 < p → p ≤ L.length → Zg W R L g names kids fs p = some (n, fs', q) → Went L fs p0 n fs' q := by
 intro g
 induction g with
 | zero => intro names kids fs p p0 n fs' q _ _ h; cases h
 | succ g ih =>
  intro names kids fs p p0 n fs' q hp0 hp h
  rw [Zg] at h
  obtain ⟨e, h⟩ := Zc h
  obtain ⟨n1, fs1, q1, h1, h2⟩ := X2 h
  have e1 := (Xg.1 e).1
  have e2 := Xu L (W.nam L p)
  have e3 := (HW.nam p hp).1
  have e4 := Xu L (skF L (W.nam L p) + 1)
  have w1 := HR _ _ _ _ _ _ (Xy (by omega)) h1
  have := w1.lt
  have := w1.cnt
  have := w1.le
  split at h2
  ·rename_i e5
   have e6 := (Xg.1 e5).1
   exact Zs h2 w1.pre (by omega) (by omega) (by omega)
  ·obtain ⟨e5, h3⟩ := Zc h2
   have e6 := (Xg.1 e5).1
   have e7 := Xu L (q1 + 1)
   have w2 := ih _ _ _ _ q1 _ _ _ (by omega) (Xy (by omega)) h3
   have := w2.lt
   have := w2.cnt
   exact ⟨by omega, w2.le, w2.nb, Vu w1.pre w2.pre, by omega, w2.n0, w2.n1⟩
theorem Xt0 {W : WP} {R : RD} {L : List UInt8} (HR : Jp L R) (HW : WGood W L) {fs : List FN} {p0 p : Nat} {n : Int} {fs' : List FN} {q : Nat} (hp0 : p0 < p) (hp : p ≤ L.length) (h : Q7 W R L fs p = some (n, fs', q)) : Went L fs p0 n fs' q := by
 unfold Q7 at h
 split at h
 ·rename_i e
  have := (Xg.1 e).1
  exact Zs h ⟨[], by simp⟩ (by omega) (by omega) (by omega)
 ·exact Xra HR HW _ _ _ _ _ _ _ _ _ hp0 hp h
theorem Xt1 {W : WP} {R : RD} {L : List UInt8} (HR : Jp L R) {fs : List FN} {p0 p : Nat} {n : Int} {fs' : List FN} {q : Nat} (hp0 : p0 < p) (hp : p ≤ L.length) (h : Vm W R L fs p = some (n, fs', q)) : Went L fs p0 n fs' q := by
 unfold Vm at h
 obtain ⟨e, h⟩ := Zc h
 have e1 := (Xg.1 e).1
 have e2 := Xu L (p + 1)
 obtain ⟨n1, fs1, q1, h1, h2⟩ := X2 h
 obtain ⟨w1, w2⟩ := Xbd HR (p0 := p0) (by omega) (Xy (by omega)) h1
 obtain ⟨rfl, rfl, rfl⟩ := Vt h2
 have := w1.lt
 refine ⟨by omega, w1.le, w1.nb, Vu w1.pre ⟨_, rfl⟩, ?_, by omega, ?_⟩
 ·simp only [List.length_append, List.length_singleton]; omega
 ·simp only [List.length_append, List.length_singleton]; omega
theorem Xw2 {W : WP} {R : RD} {L : List UInt8} (HR : Jp L R) {fs : List FN} {p0 p : Nat} {n : Int} {fs' : List FN} {q : Nat} (hp0 : p0 < p) (hp : p ≤ L.length) (h : ifF W R L fs p = some (n, fs', q)) : Went L fs p0 n fs' q := by
 unfold ifF at h
 obtain ⟨n1, fs1, q1, h1, h⟩ := X2 h
 have w1 := HR _ _ _ _ _ _ hp h1
 obtain ⟨-, h⟩ := Vs h
 have a1 : q1 ≤ nmJ L q1 := Zb _ _ _
 have a2 := Xu L (nmJ L q1)
 obtain ⟨n2, fs2, q2, h2, h⟩ := X2 h
 have w2 := HR _ _ _ _ _ _ (Xy (Gm w1.le)) h2
 obtain ⟨-, h⟩ := Vs h
 have b1 : q2 ≤ nmJ L q2 := Zb _ _ _
 have b2 := Xu L (nmJ L q2)
 obtain ⟨n3, fs3, q3, h3, h⟩ := X2 h
 have w3 := HR _ _ _ _ _ _ (Xy (Gm w2.le)) h3
 obtain ⟨-, h⟩ := Vs h
 have c1 : q3 ≤ nmJ L q3 := Zb _ _ _
 have := w1.lt; have := w1.cnt
 have := w2.lt; have := w2.cnt
 have := w3.lt; have := w3.cnt
 exact Zs h (Vu w1.pre (Vu w2.pre w3.pre)) (by omega) (by omega) (Gm w3.le)
theorem Xnr {W : WP} {R : RD} {L : List UInt8} (HR : Jp L R) {w : List UInt8} {fs : List FN} {p0 p : Nat} {n : Int} {fs' : List FN} {q : Nat} (hp0 : p0 < p) (hp : p ≤ L.length) (h : X1 W R L w fs (skF L p) = some (n, fs', q)) : Went L fs p0 n fs' q := by
 have hs := Xu L p
 unfold X1 at h
 split at h
 ·exact Zs h ⟨[], by simp⟩ (by omega) hp0 hp
 split at h
 ·exact Zs h ⟨[], by simp⟩ (by omega) hp0 hp
 split at h
 ·exact Zs h ⟨[], by simp⟩ (by omega) hp0 hp
 split at h
 ·exact Xt1 HR (by omega) (Xy hp) h
 split at h
 ·exact Xw2 HR (by omega) (Xy hp) h
 split at h
 ·exact Zs h ⟨[], by simp⟩ (by omega) hp0 hp
 split at h
 ·exact Zs h ⟨[], by simp⟩ (by omega) hp0 hp
 split at h
 ·exact Zs h ⟨[], by simp⟩ (by omega) hp0 hp
 split at h
 ·exact Zs h ⟨[], by simp⟩ (by omega) hp0 hp
 ·cases h
theorem Xy3 {L : List UInt8} {p : Nat} (h : Xd L p 45 = true ∨ Kt L p = true) : p < dgJ L (X9 L p) ∧ p < L.length := by
 rcases h with h | h
 ·have h1 := (Xg.1 h).1
  have h2 : X9 L p = p + 1 := by unfold X9; rw [if_pos h]
  rw [h2]
  have : p + 1 ≤ dgJ L (p + 1) := Zb _ _ _
  exact ⟨by omega, h1⟩
 ·unfold Kt at h
  simp only [Bool.and_eq_true, decide_eq_true_eq] at h
  have h3 : ¬ Xe L p = 45 := fun e => by rw [e] at h; exact absurd h.2 (by decide)
  have h2 : X9 L p = p := by unfold X9; rw [if_neg (fun e => h3 (Xg.1 e).2)]
  rw [h2]
  have h4 : Zi (Xe L p) = true := by have := h.2; unfold Ze at this; unfold Zi; simpa using this
  have h5 : dgJ L p = dgJ L (p + 1) := Jz h.1 h4
  have : p + 1 ≤ dgJ L (p + 1) := Zb _ _ _
  exact ⟨by omega, h.1⟩
theorem J9 {W : WP} {R : RD} {L : List UInt8} (HR : Jp L R) (HW : WGood W L) {fs : List FN} {p : Nat} {n : Int} {fs' : List FN} {q : Nat} (hp : p ≤ L.length) (h : Xo W R L fs p = some (n, fs', q)) : Went L fs p n fs' q := by
 have hs := Xu L (p + 1)
 unfold Xo at h
 split at h
 ·rename_i e; exact Xnq (Xg.1 e).1 h
 split at h
 ·rename_i e; have := (Xg.1 e).1; exact (Xbd HR (by omega) (Xy (by omega)) h).1
 split at h
 ·rename_i e; have := (Xg.1 e).1; exact Xq9 HR (by omega) (Xy (by omega)) h
 split at h
 ·rename_i e; have := (Xg.1 e).1; exact Xt0 HR HW (by omega) (Xy (by omega)) h
 split at h
 ·rename_i e
  have h1 := (Xg.1 e).1
  split at h
  ·cases h
  ·rename_i t q1 et
   have h2 := HW.tex _ _ _ (by omega) et
   exact Zs h ⟨[], by simp⟩ (by omega) (by omega) (by omega)
 split at h
 ·rename_i e
  have h1 := Xc8 e
  exact Xnr HR h1.1 (Uw hp) h
 split at h
 ·rename_i e
  have h1 := Xy3 e
  obtain ⟨v, -, h⟩ := Xap h
  exact Zs h ⟨[], by simp⟩ (by omega) h1.1 (Uw (Xb7 hp))
 ·cases h
theorem Ke {L : List UInt8} {p : Nat} {k : Int} {len : Nat} (h : Xx L p = some (k, len)) : 1 ≤ len ∧ p + len ≤ L.length ∧ 1 ≤ Xq k ∧ Xq k ≤ 6 := by
 unfold Xx at h
 repeat' split at h
 all_goals first
  | (cases h; done)
  | (rename_i e; simp only [Option.some.injEq, Prod.mk.injEq] at h; obtain ⟨rfl, rfl⟩ := h
     first
      | (have h1 := (Xg.1 e.2).1; exact ⟨by omega, by omega, by decide, by decide⟩)
      | (have h1 := (Xg.1 e).1; exact ⟨by omega, by omega, by decide, by decide⟩))
theorem Vv {W : WP} {R : RD} {L : List UInt8} (HR : Jp L R) {k : Int} {len : Nat} {n : Int} {fs : List FN} {p : Nat} {n' : Int} {fs' : List FN} {q : Nat} (hl : 1 ≤ len) (hp : p + len ≤ L.length) (h : Jj R L W k len n fs p = some (n', fs', q)) : Went L fs p n' fs' q := by
 have hs := Xu L (p + len)
 unfold Jj at h
 split at h
 ·exact Zs h ⟨[], by simp⟩ (by omega) (by omega) hp
 ·obtain ⟨n1, fs1, q1, h1, h2⟩ := X2 h
  have w1 := HR _ _ _ _ _ _ (Xy hp) h1
  obtain ⟨rfl, rfl, rfl⟩ := Vt h2
  have := w1.lt; have := w1.cnt
  refine ⟨by omega, w1.le, w1.nb, Vu w1.pre ⟨_, rfl⟩, ?_, by omega, ?_⟩
  ·simp only [List.length_append, List.length_singleton]; omega
  ·simp only [List.length_append, List.length_singleton]; omega
structure Went0 (L : List UInt8) (fs : List FN) (p : Nat) (n : Int) (fs' : List FN) (q : Nat) : Prop where
 lt : p ≤ q
 le : q ≤ L.length
 nb : skF L q = q
 pre : ∃ more, fs' = fs ++ more
 cnt : fs'.length + p ≤ fs.length + q
 n0 : 0 ≤ n
 n1 : n < (fs'.length : Int)
theorem Went.on {L : List UInt8} {fs : List FN} {p : Nat} {n : Int} {fs' : List FN} {q : Nat} {n2 : Int} {fs2 : List FN} {q2 : Nat} (h : Went L fs p n fs' q) (h2 : Went0 L fs' q n2 fs2 q2) : Went L fs p n2 fs2 q2 := by
 have := h.lt; have := h.cnt; have := h2.lt; have := h2.cnt
 exact ⟨by omega, h2.le, h2.nb, Vu h.pre h2.pre, by omega, h2.n0, h2.n1⟩
theorem Went.wide {L : List UInt8} {fs : List FN} {p : Nat} {n : Int} {fs' : List FN} {q : Nat} (h : Went L fs p n fs' q) : Went0 L fs p n fs' q := ⟨Nat.le_of_lt h.lt, h.le, h.nb, h.pre, h.cnt, h.n0, h.n1⟩
theorem Wy {L : List UInt8} {fs : List FN} {p : Nat} {n : Int} (hp : p ≤ L.length) (hnb : skF L p = p) (h0 : 0 ≤ n) (h1 : n < (fs.length : Int)) : Went0 L fs p n fs p := ⟨Nat.le_refl _, hp, hnb, ⟨[], by simp⟩, Nat.le_refl _, h0, h1⟩
theorem Xns {W : WP} {R : RD} {L : List UInt8} (HR : Jp L R) (least : Int) : ∀ g bind n fs p n' fs' q, p ≤ L.length → skF L p = p → 0 ≤ n → n < (fs.length : Int) → Zq R L W g least bind n fs p = some (n', fs', q) → Went0 L fs p n' fs' q := by
 intro g
 induction g with
 | zero => intro bind n fs p n' fs' q _ _ _ _ h; cases h
 | succ g ih =>
  intro bind n fs p n' fs' q hp hnb hn0 hn1 h
  rw [Zq] at h
  cases hj : Xx L p with
  | none =>
   simp only [hj, Option.some.injEq, Prod.mk.injEq] at h
   obtain ⟨rfl, rfl, rfl⟩ := h
   exact Wy hp hnb hn0 hn1
  | some kl =>
   obtain ⟨k, len⟩ := kl
   obtain ⟨j1, j2, -, -⟩ := Ke hj
   simp only [hj] at h
   split at h
   ·simp only [Option.some.injEq, Prod.mk.injEq] at h
    obtain ⟨rfl, rfl, rfl⟩ := h
    exact Wy hp hnb hn0 hn1
   split at h
   ·cases h
   ·obtain ⟨n1, fs1, q1, h1, h2⟩ := X2 h
    have w1 := Vv HR j1 j2 h1
    exact (w1.on (ih _ _ _ _ _ _ _ w1.le w1.nb w1.n0 w1.n1 h2)).wide
theorem Xg8 {W : WP} {R : RD} {L : List UInt8} (HR : Jp L R) (l : Nat) : ∀ g n fs p n' fs' q, p ≤ L.length → skF L p = p → 0 ≤ n → n < (fs.length : Int) → Js R L W l g n fs p = some (n', fs', q) → Went0 L fs p n' fs' q := by
 intro g
 induction g with
 | zero => intro n fs p n' fs' q _ _ _ _ h; cases h
 | succ g ih =>
  intro n fs p n' fs' q hp hnb hn0 hn1 h
  rw [Js] at h
  cases hj : Xx L p with
  | none =>
   simp only [hj, Option.some.injEq, Prod.mk.injEq] at h
   obtain ⟨rfl, rfl, rfl⟩ := h
   exact Wy hp hnb hn0 hn1
  | some kl =>
   obtain ⟨k, len⟩ := kl
   obtain ⟨j1, j2, -, -⟩ := Ke hj
   simp only [hj] at h
   split at h
   ·obtain ⟨n1, fs1, q1, h1, h2⟩ := X2 h
    have w1 := Vv HR j1 j2 h1
    split at h2
    ·exact (w1.on (ih _ _ _ _ _ _ w1.le w1.nb w1.n0 w1.n1 h2)).wide
    ·simp only [Option.some.injEq, Prod.mk.injEq] at h2
     obtain ⟨rfl, rfl, rfl⟩ := h2
     exact w1.wide
   ·simp only [Option.some.injEq, Prod.mk.injEq] at h
    obtain ⟨rfl, rfl, rfl⟩ := h
    exact Wy hp hnb hn0 hn1
theorem Xjf {W : WP} {R : RD} {L : List UInt8} (HR : Jp L R) (HW : WGood W L) : ∀ d fs p n fs' q, p ≤ L.length → lvS R L W d fs p = some (n, fs', q) → Went L fs p n fs' q := by
 intro d
 induction d with
 | zero =>
  intro fs p n fs' q hp h
  rw [lvS] at h
  obtain ⟨n1, fs1, q1, h1, h2⟩ := X2 h
  have w1 := J9 HR HW hp h1
  exact w1.on (Xg8 HR 6 _ _ _ _ _ _ _ w1.le w1.nb w1.n0 w1.n1 h2)
 | succ d ih =>
  intro fs p n fs' q hp h
  rw [lvS] at h
  obtain ⟨n1, fs1, q1, h1, h2⟩ := X2 h
  have w1 := ih _ _ _ _ _ hp h1
  exact w1.on (Xg8 HR _ _ _ _ _ _ _ _ w1.le w1.nb w1.n0 w1.n1 h2)
theorem Xb9 {W : WP} {L : List UInt8} (HW : WGood W L) : ∀ f, Jp L (Yj W L f) := by
 intro f
 induction f with
 | zero => intro least fs p n fs' q _ h; cases h
 | succ f ih =>
  intro least fs p n fs' q hp h
  rw [Yj] at h
  obtain ⟨n1, fs1, q1, h1, h2⟩ := X2 h
  have w1 := J9 ih HW hp h1
  exact w1.on (Xns ih least _ _ _ _ _ _ _ _ w1.le w1.nb w1.n0 w1.n1 h2)
theorem Xfg {W : WP} {L : List UInt8} (HW : WGood W L) : ∀ f, Jp L (Ud W L f) := by
 intro f
 induction f with
 | zero => intro least fs p n fs' q _ h; cases h
 | succ f ih =>
  intro least fs p n fs' q hp h
  rw [Ud] at h
  exact Xjf ih HW _ _ _ _ _ _ hp h

def V6 (fs : List FN) : Prop := ∀ more, okF (fs ++ more) = false
theorem Wz {fs more : List FN} (h : V6 fs) : V6 (fs ++ more) := fun m => by rw [List.append_assoc]; exact h _
theorem Xnx {fs : List FN} (h : 40 < fs.length) : V6 fs := fun more => by
 unfold okF Vp
 have : decide ((fs ++ more).length ≤ 40) = false := by rw [decide_eq_false_iff_not, List.length_append]; omega
 rw [this]; simp
theorem Xny {fs : List FN} {x : FN} (h : Xl x = false) : V6 (fs ++ [x]) := fun more => by
 rw [Bool.eq_false_iff]
 intro ho
 unfold okF at ho
 simp only [Bool.and_eq_true, List.all_eq_true, List.mem_range] at ho
 have h1 := (ho.1.2 fs.length (by simp)).1
 have h2 : Xj (fs ++ [x] ++ more) fs.length = x := by unfold Xj; rw [List.getD_eq_getElem?_getD]; simp
 rw [h2, h] at h1
 cases h1
def Qm (fs : List FN) (r : RF) : Prop := ∀ n fs' q, r = some (n, fs', q) → ∃ more, fs' = fs ++ more
theorem Vw {fs : List FN} : Qm fs none := fun _ _ _ h => by cases h
theorem Xa5 {fs : List FN} {n : Int} {q : Nat} : Qm fs (some (n, fs, q)) := fun n' fs' q' h => by
 simp only [Option.some.injEq, Prod.mk.injEq] at h; exact ⟨[], by rw [← h.2.1]; simp⟩
theorem Yf {W : WP} {x : FN} {fs : List FN} {q : Nat} : Qm fs (Xs W x fs q) := fun n' fs' q' h => ⟨[x], (Vt h).2.1⟩
theorem Qi {fs : List FN} {a : RF} {k : Int → List FN → Nat → RF} (h : Qm fs a) (hk : ∀ n fs q, Qm fs (k n fs q)) : Qm fs (Xw a k) := fun n' fs' q' e => by
 obtain ⟨n1, fs1, q1, h1, h2⟩ := X2 e
 exact Vu (h _ _ _ h1) (hk _ _ _ _ _ _ h2)
theorem Ka {fs : List FN} {L : List UInt8} {q c : Nat} {k : Nat → RF} (hk : ∀ q, Qm fs (k q)) : Qm fs (Ye L q c k) := fun n' fs' q' e => hk _ _ _ _ (Zc e).2
theorem Kb {fs : List FN} {L : List UInt8} {q : Nat} {w : List UInt8} {k : Nat → RF} (hk : ∀ q, Qm fs (k q)) : Qm fs (Jf L w q k) := fun n' fs' q' e => hk _ _ _ _ (Vs e).2
theorem Xjq {fs : List FN} {W : WP} {L : List UInt8} {q : Nat} {k : Int → Nat → RF} (hk : ∀ n q, Qm fs (k n q)) : Qm fs (Qo W L q k) := fun n' fs' q' e => by
 obtain ⟨v, -, h⟩ := Xap e; exact hk _ _ _ _ _ h
theorem Yi {fs : List FN} {P : Prop} [Decidable P] {a b : RF} (ha : Qm fs a) (hb : Qm fs b) : Qm fs (if P then a else b) := by split <;> assumption
def Q4 (a b : RF) : Prop := match b with
 | some r => a = some r
 | none => ∀ n fs q, a = some (n, fs, q) → V6 fs
def Xca (L : List UInt8) (q : Nat) : Prop := ∃ k len, Xx L q = some (k, len) ∧ Xq k = 4
def Xrc (L : List UInt8) (least : Int) (q : Nat) : Prop := ∀ k len, Xx L q = some (k, len) → Xq k < least
def Xf8 (L : List UInt8) (least : Int) (a b : RF) : Prop := match b with
 | some (n, fs, q) => (a = some (n, fs, q) ∧ Xrc L least q) ∨ (a = none ∧ least ≤ 4 ∧ Xca L q)
 | none => ∀ n fs q, a = some (n, fs, q) → V6 fs
def Xfi (L : List UInt8) (R S : RD) : Prop := ∀ least fs p, 1 ≤ least → least ≤ 6 → p ≤ L.length → Xf8 L least (R least fs p) (S least fs p)
def Um (R : RD) : Prop := ∀ least fs p, Qm fs (R least fs p)
theorem Kq : Q4 none none := fun _ _ _ h => by cases h
theorem Xrd {r : Int × List FN × Nat} : Q4 (some r) (some r) := rfl
theorem Yt {P : Prop} [Decidable P] {a b c d : RF} (h1 : P → Q4 a c) (h2 : ¬ P → Q4 b d) : Q4 (if P then a else b) (if P then c else d) := by
 split
 ·exact h1 (by assumption)
 ·exact h2 (by assumption)
theorem Xre {a b : RF} {k k' : Int → List FN → Nat → RF} (h : Q4 a b) (hk : ∀ n fs q, b = some (n, fs, q) → Q4 (k n fs q) (k' n fs q)) (hp : ∀ n fs q, Qm fs (k n fs q)) : Q4 (Xw a k) (Xw b k') := by
 cases b with
 | some r => obtain ⟨n, fs, q⟩ := r; rw [show a = some (n, fs, q) from h, Xz, Xz]; exact hk n fs q rfl
 | none =>
  rw [Je]
  intro n' fs' q' e
  obtain ⟨n1, fs1, q1, h1, h2⟩ := X2 e
  obtain ⟨m, rfl⟩ := hp _ _ _ _ _ _ h2
  exact Wz (h _ _ _ h1)
theorem Gy {L : List UInt8} {least : Int} {a b : RF} {k k' : Int → List FN → Nat → RF} (h : Xf8 L least a b) (hk : ∀ n fs q, b = some (n, fs, q) → Q4 (k n fs q) (k' n fs q)) (hc : ∀ n fs q, Xca L q → k' n fs q = none) (hp : ∀ n fs q, Qm fs (k n fs q)) : Q4 (Xw a k) (Xw b k') := by
 cases b with
 | some r =>
  obtain ⟨n, fs, q⟩ := r
  rcases (show _ ∨ _ from h) with ⟨h1, h2⟩ | ⟨h1, h2, h3⟩
  ·rw [h1, Xz, Xz]; exact hk n fs q rfl
  ·rw [h1, Je, Xz, hc _ _ _ h3]; exact Kq
 | none =>
  rw [Je]
  intro n' fs' q' e
  obtain ⟨n1, fs1, q1, h1, h2⟩ := X2 e
  obtain ⟨m, rfl⟩ := hp _ _ _ _ _ _ h2
  exact Wz ((show ∀ n fs q, a = some (n, fs, q) → V6 fs from h) _ _ _ h1)
theorem Gz {L : List UInt8} {q c : Nat} {k k' : Nat → RF} (h : Xd L q c = true → Q4 (k (skF L (q + 1))) (k' (skF L (q + 1)))) : Q4 (Ye L q c k) (Ye L q c k') := by
 unfold Ye
 exact Yt h (fun _ => Kq)
theorem Xda {L : List UInt8} {q : Nat} {w : List UInt8} {k k' : Nat → RF} (h : Q4 (k (skF L (nmJ L q))) (k' (skF L (nmJ L q)))) : Q4 (Jf L w q k) (Jf L w q k') := by
 unfold Jf
 exact Yt (fun _ => h) (fun _ => Kq)
structure WRel (W W' : WP) (L : List UInt8) : Prop where
 cap : W.cap = false
 cap' : W'.cap = true
 dec : ∀ l v, W'.dec l = some v → W.dec l = some v
 dec' : ∀ l v, W'.dec l = none → W.dec l = some v → v < -1000000000000000 ∨ 1000000000000000 < v
 nam : ∀ p, W.nam L p = nmJ L p
 nam' : ∀ p, W'.nam L p = if Yn L p = true then nmJ L p else p
 tex : ∀ p r, W'.tex L p = some r → W.tex L p = some r
 tex' : ∀ p t q, W'.tex L p = none → W.tex L p = some (t, q) → 60 < t.length
theorem Zw {W W' : WP} {L : List UInt8} (H : WRel W W' L) (x : FN) (fs : List FN) (q : Nat) : Q4 (Xs W x fs q) (Xs W' x fs q) := by
 unfold Xs
 rw [H.cap, H.cap']
 by_cases h : 40 < fs.length + 1
 ·simp only [h, true_and, and_true, if_true, Bool.false_eq_true, false_and, if_false]
  intro n fs' q' e
  simp only [Option.some.injEq, Prod.mk.injEq] at e
  rw [← e.2.1]
  exact Xnx (by simp only [List.length_append, List.length_singleton]; exact h)
 ·simp only [h, and_false, if_false, Bool.false_eq_true, false_and]; rfl
theorem Xdb {a : RF} (h : ∀ n fs q, a = some (n, fs, q) → V6 fs) : Q4 a none := h
theorem Xar {W : WP} {x : FN} {fs : List FN} {q : Nat} (h : Xl x = false) : ∀ n fs' q', Xs W x fs q = some (n, fs', q') → V6 fs' := fun n fs' q' e => by
 obtain ⟨-, rfl, -⟩ := Vt e; exact Xny h
theorem Xcb {L : List UInt8} {q : Nat} (h : Xca L q) : q < L.length ∧ (Xe L q = 61 ∨ Xe L q = 33 ∨ Xe L q = 60) := by
 obtain ⟨k, len, hj, hl⟩ := h
 unfold Xx at hj
 repeat' split at hj
 all_goals first
  | (cases hj; done)
  | (simp only [Option.some.injEq, Prod.mk.injEq] at hj; obtain ⟨rfl, rfl⟩ := hj
     first
      | (exfalso; revert hl; decide)
      | (rename_i e; first | (have h1 := Xg.1 e.1; exact ⟨h1.1, by omega⟩) | (have h1 := Xg.1 e; exact ⟨h1.1, by omega⟩)))
theorem Xel {L : List UInt8} {q c : Nat} {k : Nat → RF} (h : Xca L q) (hc : c ≠ 61) (hc1 : c ≠ 33) (hc2 : c ≠ 60) : Ye L q c k = none := by
 unfold Ye
 rw [if_neg (fun e => ?_)]
 have h1 := (Xg.1 e).2
 have h2 := (Xcb h).2
 omega
theorem Xy4 {L : List UInt8} {q c : Nat} (h : Xca L q) (hc : c ≠ 61) (hc1 : c ≠ 33) (hc2 : c ≠ 60) : Xd L q c = false := by
 rw [X4]; intro e; have h2 := (Xcb h).2; omega
theorem Xem {L : List UInt8} {q : Nat} {w : List UInt8} {k : Nat → RF} (h : Xca L q) (hw : w ≠ []) : Jf L w q k = none := by
 unfold Jf
 rw [if_neg (fun e => ?_)]
 have h2 := (Xcb h).2
 have h3 : nmJ L q = q := Qt (fun e => by
  rcases h2 with h2 | h2 | h2 <;> (rw [h2] at e; exact absurd e.2 (by decide)))
 unfold X6 at e
 rw [h3] at e
 simp at e
 exact hw e

theorem Xmu {W : WP} {L : List UInt8} {fs : List FN} {p : Nat} : Qm fs (Qe W L fs p) := Yi Yf (Xjq fun _ _ => Ka fun _ => Yf)
theorem Xmv {W : WP} {L : List UInt8} {fs : List FN} {p : Nat} : Qm fs (Yg W L fs p) := Yi Yf (Yi Xmu Yf)
theorem Xds {R : RD} {L : List UInt8} {c : Nat} {fs : List FN} {p : Nat} (HR : Um R) : Qm fs (Zf R L c fs p) := Qi (HR _ _ _) fun _ _ _ => Ka fun _ => Xa5
theorem Xpx {W : WP} {R : RD} {L : List UInt8} {fs : List FN} {p : Nat} (HR : Um R) : Qm fs (Jg W R L fs p) := Yi Yf (Qi (HR _ _ _) fun _ _ _ => Ka fun _ => Yf)
theorem Xgv {W : WP} {R : RD} {L : List UInt8} (HR : Um R) : ∀ g names kids fs p, Qm fs (Zg W R L g names kids fs p) := by
 intro g
 induction g with
 | zero => intro names kids fs p; exact Vw
 | succ g ih =>
  intro names kids fs p
  rw [Zg]
  exact Ka fun _ => Qi (HR _ _ _) fun _ _ _ => Yi Yf (Ka fun _ => ih _ _ _ _)
theorem Xsy {W : WP} {R : RD} {L : List UInt8} {fs : List FN} {p : Nat} (HR : Um R) : Qm fs (Q7 W R L fs p) := Yi Yf (Xgv HR _ _ _ _ _)
theorem Xsz {W : WP} {R : RD} {L : List UInt8} {fs : List FN} {p : Nat} (HR : Um R) : Qm fs (Vm W R L fs p) := Ka fun _ => Qi (Xds HR) fun _ _ _ => Yf
theorem Xv9 {W : WP} {R : RD} {L : List UInt8} {fs : List FN} {p : Nat} (HR : Um R) : Qm fs (ifF W R L fs p) :=
 Qi (HR _ _ _) fun _ _ _ => Kb fun _ => Qi (HR _ _ _) fun _ _ _ => Kb fun _ => Qi (HR _ _ _) fun _ _ _ => Kb fun _ => Yf
theorem Xmw {W : WP} {R : RD} {L : List UInt8} {w : List UInt8} {fs : List FN} {p : Nat} (HR : Um R) : Qm fs (X1 W R L w fs p) :=
 Yi Yf (Yi Yf (Yi Yf (Yi (Xsz HR) (Yi (Xv9 HR) (Yi Yf (Yi Yf (Yi Yf (Yi Yf Vw))))))))
theorem Xpy {W : WP} {L : List UInt8} {fs : List FN} {p : Nat} : Qm fs (match W.tex L (p + 1) with
  | none => none
  | some (t, q) => Xs W (Zm ⟨4, 0, txt t, [], []⟩) fs (skF L q)) := by
 split
 ·exact Vw
 ·exact Yf
theorem Xmx {W : WP} {R : RD} {L : List UInt8} {fs : List FN} {p : Nat} (HR : Um R) : Qm fs (Xo W R L fs p) :=
 Yi Xmv (Yi (Xds HR) (Yi (Xpx HR) (Yi (Xsy HR) (Yi Xpy (Yi (Xmw HR) (Yi (Xjq fun _ _ => Yf) Vw))))))
theorem Xs0 {R : RD} {L : List UInt8} {W : WP} {k : Int} {len : Nat} {n : Int} {fs : List FN} {p : Nat} (HR : Um R) : Qm fs (Jj R L W k len n fs p) := Yi Yf (Qi (HR _ _ _) fun _ _ _ => Yf)
theorem We {R : RD} {L : List UInt8} {W : WP} (HR : Um R) (least : Int) : ∀ g bind n fs p, Qm fs (Zq R L W g least bind n fs p) := by
 intro g
 induction g with
 | zero => intro bind n fs p; exact Vw
 | succ g ih =>
  intro bind n fs p
  rw [Zq]
  split
  ·exact Xa5
  ·exact Yi Xa5 (Yi Vw (Qi (Xs0 HR) fun _ _ _ => ih _ _ _ _))
theorem Xmy (W : WP) (L : List UInt8) : ∀ f, Um (Yj W L f) := by
 intro f
 induction f with
 | zero => intro least fs p; exact Vw
 | succ f ih => intro least fs p; rw [Yj]; exact Qi (Xmx ih) fun _ _ _ => We ih _ _ _ _ _ _
section
variable {W W' : WP} {L : List UInt8} (H : WRel W W' L) {R S : RD} (HP : Um R) (HR : Xfi L R S) (HG : Jp L S)
include H
theorem Xlr {q : Nat} {k k' : Int → Nat → RF} (hk : ∀ n q, Q4 (k n q) (k' n q)) (hd : ∀ n q n' fs' q', n < -1000000000000000 ∨ 1000000000000000 < n → k n q = some (n', fs', q') → V6 fs') : Q4 (Qo W L q k) (Qo W' L q k') := by
 unfold Qo
 cases h : W'.dec (Q3 L q) with
 | some v => rw [H.dec _ _ h]; exact hk _ _
 | none =>
  cases h2 : W.dec (Q3 L q) with
  | none => exact Kq
  | some v => exact Xdb fun n' fs' q' e => hd _ _ _ _ _ (H.dec' _ _ h h2) e
theorem Xpz (fs : List FN) (p : Nat) : Q4 (Qe W L fs p) (Qe W' L fs p) := by
 unfold Qe
 refine Yt (fun _ => Zw H _ _ _) (fun _ => Xlr H (fun n q => Gz fun _ => Zw H _ _ _) (fun n q n' fs' q' hn e => ?_))
 have e := (Zc e).2
 refine Xar ?_ _ _ _ e
 unfold Xl Q2
 have : (decide (-80 ≤ n) && decide (n ≤ 80)) = false := by
  rw [Bool.and_eq_false_iff]; simp only [decide_eq_false_iff_not]; omega
 simp [this]
theorem Xp0 (fs : List FN) (p : Nat) : Q4 (Yg W L fs p) (Yg W' L fs p) := by
 unfold Yg
 exact Yt (fun _ => Zw H _ _ _) (fun _ => Yt (fun _ => Xpz H _ _) (fun _ => Zw H _ _ _))
include HP HR HG
theorem Xe7 {c : Nat} (hc : c ≠ 61) (hc1 : c ≠ 33) (hc2 : c ≠ 60) (fs : List FN) {p : Nat} (hp : p ≤ L.length) : Q4 (Zf R L c fs p) (Zf S L c fs p) := by
 unfold Zf
 exact Gy (HR 1 fs p (by decide) (by decide) hp) (fun _ _ _ _ => Gz fun _ => Xrd) (fun _ _ _ h => Xel h hc hc1 hc2) (fun _ _ _ => Ka fun _ => Xa5)
theorem Xs1 (fs : List FN) {p : Nat} (hp : p ≤ L.length) : Q4 (Jg W R L fs p) (Jg W' S L fs p) := by
 unfold Jg
 exact Yt (fun _ => Zw H _ _ _) (fun _ => Gy (HR 1 fs p (by decide) (by decide) hp) (fun _ _ _ _ => Gz fun _ => Zw H _ _ _) (fun _ _ _ h => Xel h (by decide) (by decide) (by decide)) (fun _ _ _ => Ka fun _ => Yf))
theorem Xwa (fs : List FN) {p : Nat} : Q4 (Vm W R L fs p) (Vm W' S L fs p) := by
 unfold Vm
 exact Gz fun e => Xre (Xe7 H HP HR HG (by decide) (by decide) (by decide) fs (Xy (by have := (Xg.1 e).1; omega))) (fun _ _ _ _ => Zw H _ _ _) (fun _ _ _ => Yf)
theorem Xya (fs : List FN) {p : Nat} (hp : p ≤ L.length) : Q4 (ifF W R L fs p) (ifF W' S L fs p) := by
 unfold ifF
 refine Gy (HR 1 fs p (by decide) (by decide) hp) (fun n1 fs1 q1 e1 => Xda ?_) (fun _ _ _ h => Xem h (by simp)) (fun _ _ _ => Kb fun _ => Qi (HP _ _ _) fun _ _ _ => Kb fun _ => Qi (HP _ _ _) fun _ _ _ => Kb fun _ => Yf)
 have w1 := HG _ _ _ _ _ _ hp e1
 have hp1 := Xy (Gm w1.le)
 refine Gy (HR 1 fs1 _ (by decide) (by decide) hp1) (fun n2 fs2 q2 e2 => Xda ?_) (fun _ _ _ h => Xem h (by simp)) (fun _ _ _ => Kb fun _ => Qi (HP _ _ _) fun _ _ _ => Kb fun _ => Yf)
 have w2 := HG _ _ _ _ _ _ hp1 e2
 have hp2 := Xy (Gm w2.le)
 exact Gy (HR 1 fs2 _ (by decide) (by decide) hp2) (fun n3 fs3 q3 e3 => Xda (Zw H _ _ _)) (fun _ _ _ h => Xem h (by simp)) (fun _ _ _ => Kb fun _ => Yf)
theorem Xp1 {w : List UInt8} (fs : List FN) {p : Nat} (hp : p ≤ L.length) : Q4 (X1 W R L w fs p) (X1 W' S L w fs p) := by
 unfold X1
 refine Yt (fun _ => Zw H _ _ _) (fun _ => ?_)
 refine Yt (fun _ => Zw H _ _ _) (fun _ => ?_)
 refine Yt (fun _ => Zw H _ _ _) (fun _ => ?_)
 refine Yt (fun _ => Xwa H HP HR HG _) (fun _ => ?_)
 refine Yt (fun _ => Xya H HP HR HG _ hp) (fun _ => ?_)
 refine Yt (fun _ => Zw H _ _ _) (fun _ => ?_)
 refine Yt (fun _ => Zw H _ _ _) (fun _ => ?_)
 refine Yt (fun _ => Zw H _ _ _) (fun _ => ?_)
 exact Yt (fun _ => Zw H _ _ _) (fun _ => Kq)
end

theorem Xl1 {names : List ByteArray} {kids : List Int} (h : ∃ x, x ∈ names ∧ X7 x = false) : Xl (Vi names kids) = false := by
 obtain ⟨x, hx, hb⟩ := h
 obtain ⟨j, hj, rfl⟩ := List.mem_iff_getElem.1 hx
 have h1 : Zu names = false := by
  rw [Bool.eq_false_iff]
  intro e
  unfold Zu Gg at e
  simp only [Bool.and_eq_true, List.all_eq_true, List.mem_range] at e
  have h2 := e.2 j hj
  unfold Qw at h2
  rw [Bool.and_eq_true] at h2
  have h3 : Xr names j = names[j] := by unfold Xr; rw [List.getD_eq_getElem?_getD, List.getElem?_eq_getElem hj]; rfl
  rw [h3, hb] at h2
  cases h2.1
 unfold Xl Q2 Vi
 simp [h1]
theorem Xtv {W : WP} {R : RD} {L : List UInt8} : ∀ g names kids fs p n fs' q, (∃ x, x ∈ names ∧ X7 x = false) → Zg W R L g names kids fs p = some (n, fs', q) → V6 fs' := by
 intro g
 induction g with
 | zero => intro names kids fs p n fs' q _ h; cases h
 | succ g ih =>
  intro names kids fs p n fs' q hb h
  rw [Zg] at h
  obtain ⟨-, h⟩ := Zc h
  obtain ⟨n1, fs1, q1, -, h⟩ := X2 h
  have hb2 : ∀ y, ∃ x, x ∈ names ++ [y] ∧ X7 x = false := fun y => by obtain ⟨x, hx, hxb⟩ := hb; exact ⟨x, List.mem_append_left _ hx, hxb⟩
  split at h
  ·exact Xar (Xl1 (hb2 _)) _ _ _ h
  ·exact ih _ _ _ _ _ _ _ (hb2 _) (Zc h).2
theorem Xtw {L : List UInt8} {p m : Nat} (h : Yl (Xe L p) = false) : X7 (txt ((L.drop p).take m)) = false := by
 rw [Bool.eq_false_iff]
 intro e
 unfold X7 at e
 simp only [Bool.and_eq_true, decide_eq_true_eq] at e
 have h1 : Yh (txt ((L.drop p).take m)) 0 = Xe L p ∨ (txt ((L.drop p).take m)).size = 0 := by
  cases m with
  | zero => right; unfold txt; simp [ByteArray.size]
  | succ m =>
   left
   unfold Yh txt Xe
   simp [List.getElem?_take, List.getElem?_drop]
 rcases h1 with h1 | h1
 ·rw [h1, h] at e; exact absurd e.1.2 (by simp)
 ·omega
section
variable {W W' : WP} {L : List UInt8} (H : WRel W W' L) {R S : RD} (HP : Um R) (HR : Xfi L R S) (HG : Jp L S)
include H HP HR HG
theorem Xtx : ∀ g names kids fs p, p ≤ L.length → Q4 (Zg W R L g names kids fs p) (Zg W' S L g names kids fs p) := by
 intro g
 induction g with
 | zero => intro names kids fs p _; exact Kq
 | succ g ih =>
  intro names kids fs p hp
  by_cases hn : W'.nam L p = nmJ L p
  ·rw [Zg, Zg, H.nam, hn]
   refine Gz fun e => ?_
   have e1 := (Xg.1 e).1
   have hp1 : skF L (skF L (nmJ L p) + 1) ≤ L.length := Xy (by omega)
   refine Gy (HR 3 fs _ (by decide) (by decide) hp1) (fun n1 fs1 q1 e2 => ?_) (fun n1 fs1 q1 hc => ?_) (fun _ _ _ => Yi Yf (Ka fun _ => Xgv HP _ _ _ _ _))
   ·exact Yt (fun _ => Zw H _ _ _) (fun _ => Gz fun e3 => ih _ _ _ _ (Xy (by have := (Xg.1 e3).1; omega)))
   ·rw [Xy4 hc (by decide) (by decide) (by decide)]
    simp only [Bool.false_eq_true, if_false]
    exact Xel hc (by decide) (by decide) (by decide)
  ·have hl : Yn L p = false := by
    rw [Bool.eq_false_iff]; intro e; exact hn (by rw [H.nam', if_pos e])
   have hq : W'.nam L p = p := by rw [H.nam', hl]; simp
   have hr : p < L.length ∧ nmC (Xe L p) = true := by
    by_cases hr : p < L.length ∧ nmC (Xe L p) = true
    ·exact hr
    ·exact absurd (hq.trans (Qt hr).symm) hn
   have hlb : Yl (Xe L p) = false := by
    unfold Yn at hl
    simpa [hr.1] using hl
   have hd : Ze (Xe L p) = true := by have := hr.2; unfold nmC at this; rw [hlb] at this; simpa using this
   have hd2 : 48 ≤ Xe L p ∧ Xe L p ≤ 57 := by unfold Ze at hd; simpa using hd
   have hsk : skF L p = p := Qt (fun e => by have := e.2; unfold Xbw at this; simp at this; omega)
   have hs : Zg W' S L (g + 1) names kids fs p = none := by
    rw [Zg, hq, hsk]
    unfold Ye
    rw [if_neg (fun e => ?_)]
    have := (Xg.1 e).2
    omega
   rw [hs]
   refine Xdb fun n fs' q e => ?_
   rw [Zg] at e
   obtain ⟨-, e⟩ := Zc e
   obtain ⟨n1, fs1, q1, -, e⟩ := X2 e
   have hb2 : ∃ x, x ∈ names ++ [txt ((L.drop p).take (W.nam L p - p))] ∧ X7 x = false := ⟨_, List.mem_append_right _ (List.mem_singleton.2 rfl), Xtw hlb⟩
   split at e
   ·exact Xar (Xl1 hb2) _ _ _ e
   ·exact Xtv _ _ _ _ _ _ _ _ hb2 (Zc e).2
theorem Xw0 (fs : List FN) {p : Nat} (hp : p ≤ L.length) : Q4 (Q7 W R L fs p) (Q7 W' S L fs p) := by
 unfold Q7
 exact Yt (fun _ => Zw H _ _ _) (fun _ => Xtx H HP HR HG _ _ _ _ _ hp)
theorem Xqx (fs : List FN) {p : Nat} (hp : p ≤ L.length) : Q4 (Xo W R L fs p) (Xo W' S L fs p) := by
 unfold Xo
 refine Yt (fun _ => Xp0 H _ _) (fun _ => ?_)
 refine Yt (fun e => Xe7 H HP HR HG (by decide) (by decide) (by decide) _ (Xy (by have := (Xg.1 e).1; omega))) (fun _ => ?_)
 refine Yt (fun e => Xs1 H HP HR HG _ (Xy (by have := (Xg.1 e).1; omega))) (fun _ => ?_)
 refine Yt (fun e => Xw0 H HP HR HG _ (Xy (by have := (Xg.1 e).1; omega))) (fun _ => ?_)
 refine Yt (fun e => ?_) (fun _ => ?_)
 ·cases h : W'.tex L (p + 1) with
  | some r => rw [H.tex _ _ h]; exact Zw H _ _ _
  | none =>
   cases h2 : W.tex L (p + 1) with
   | none => exact Kq
   | some r =>
    obtain ⟨t, q⟩ := r
    have h3 := H.tex' _ _ _ h h2
    refine Xdb (Xar ?_)
    have h4 : X8 ⟨4, 0, txt t, [], []⟩ = false := by
     have : Qa (txt t) = false := by
      unfold Qa
      have : decide ((txt t).size ≤ 60) = false := by
       rw [decide_eq_false_iff_not]
       unfold txt
       simp [ByteArray.size]
       omega
      rw [this]; rfl
     unfold X8 Ql
     simp [this]
    have h5 : okB [⟨4, 0, txt t, [], []⟩] = false := by
     rw [Bool.eq_false_iff]
     intro ho
     unfold okB at ho
     simp only [Bool.and_eq_true, List.all_eq_true, List.mem_range] at ho
     have := (ho.1.2 0 (by simp)).1
     rw [show Xc [(⟨4, 0, txt t, [], []⟩ : VN)] 0 = ⟨4, 0, txt t, [], []⟩ from rfl, h4] at this
     cases this
    unfold Xl Q2 Q8 Zm
    simp [h5]
 refine Yt (fun e => Xp1 H HP HR HG _ (Xy (Gm hp))) (fun _ => ?_)
 refine Yt (fun e => Xlr H (fun _ _ => Zw H _ _ _) (fun n q n' fs' q' hn e => ?_)) (fun _ => Kq)
 refine Xar ?_ _ _ _ e
 have h4 : X8 ⟨3, n, ByteArray.empty, [], []⟩ = false := by
  unfold X8 Ql
  simp
  omega
 have h5 : okB [⟨3, n, ByteArray.empty, [], []⟩] = false := by
  rw [Bool.eq_false_iff]
  intro ho
  unfold okB at ho
  simp only [Bool.and_eq_true, List.all_eq_true, List.mem_range] at ho
  have := (ho.1.2 0 (by simp)).1
  rw [show Xc [(⟨3, n, ByteArray.empty, [], []⟩ : VN)] 0 = ⟨3, n, ByteArray.empty, [], []⟩ from rfl, h4] at this
  cases this
 unfold Xl Q2 Q8 Zm
 simp [h5]
end

def K0 (m : Nat) : Nat := if m = 6 ∨ m = 5 ∨ m = 2 then m else m - 1
def Ji (S : RD) (L : List UInt8) (W : WP) (least : Nat) : Nat → Nat → Int → List FN → Nat → RF
 | 0, _, _, _, _ => none
 | G + 1, m, n, fs, p => if m < least then some (n, fs, p) else match Xx L p with
  | none => Ji S L W least G (m - 1) n fs p
  | some (k, len) => if Xq k = (m : Int) then Xw (Jj S L W k len n fs p) fun n fs q => Ji S L W least G (K0 m) n fs q
   else Ji S L W least G (m - 1) n fs p
theorem U7 {a : RF} {k k' : Int → List FN → Nat → RF} (h : ∀ n fs q, a = some (n, fs, q) → k n fs q = k' n fs q) : Xw a k = Xw a k' := by
 cases a with
 | none => rfl
 | some r => obtain ⟨n, fs, q⟩ := r; exact h n fs q rfl
theorem Xbc {a : RF} {k k' : Int → List FN → Nat → RF} : Xw (Xw a k) k' = Xw a fun n fs q => Xw (k n fs q) k' := by cases a <;> rfl
section
variable {S : RD} {L : List UInt8} {W : WP}
theorem V5 {least G m : Nat} {n : Int} {fs : List FN} {p : Nat} (h : m < least) (hG : 0 < G) : Ji S L W least G m n fs p = some (n, fs, p) := by
 cases G with
 | zero => omega
 | succ G => rw [Ji, if_pos h]
theorem Wx {least : Nat} (hl : 1 ≤ least) {n : Int} {fs : List FN} {p : Nat} : ∀ (m G : Nat), m < G → (∀ k len, Xx L p = some (k, len) → Xq k < (least : Int) ∨ (m : Int) < Xq k) → Ji S L W least G m n fs p = some (n, fs, p) := by
 intro m
 induction m with
 | zero => intro G hG _; exact V5 (by omega) hG
 | succ m ih =>
  intro G hG hk
  by_cases h : m + 1 < least
  ·exact V5 h (by omega)
  ·obtain ⟨G', rfl⟩ : ∃ G', G = G' + 1 := ⟨G - 1, by omega⟩
   rw [Ji, if_neg h]
   cases hj : Xx L p with
   | none => exact ih _ (by omega) (fun k len e => by rw [hj] at e; cases e)
   | some kl =>
    obtain ⟨k, len⟩ := kl
    have h1 := hk k len hj
    simp only
    rw [if_neg (by omega)]
    exact ih _ (by omega) (fun k' len' e => by rw [hj] at e; cases e; omega)
theorem Xnl {least : Nat} {n : Int} {fs : List FN} {p : Nat} {k : Int} {len l : Nat} (hj : Xx L p = some (k, len)) (hk : Xq k = (l : Int)) (hl : least ≤ l) : ∀ m G, l ≤ m → m < G → ∃ G', G = G' + (m - l) + 1 ∧ Ji S L W least G m n fs p = Xw (Jj S L W k len n fs p) fun n fs q => Ji S L W least G' (K0 l) n fs q := by
 intro m
 induction m with
 | zero =>
  intro G h1 h2
  obtain ⟨G', rfl⟩ : ∃ G', G = G' + 1 := ⟨G - 1, by omega⟩
  have hl0 : l = 0 := by omega
  subst hl0
  refine ⟨G', by omega, ?_⟩
  rw [Ji, if_neg (by omega), hj]
  simp only
  rw [if_pos hk]
 | succ m ih =>
  intro G h1 h2
  obtain ⟨G', rfl⟩ : ∃ G', G = G' + 1 := ⟨G - 1, by omega⟩
  by_cases e : l = m + 1
  ·subst e
   refine ⟨G', by omega, ?_⟩
   rw [Ji, if_neg (by omega), hj]
   simp only
   rw [if_pos hk]
  ·obtain ⟨G2, hG2, h⟩ := ih G' (by omega) (by omega)
   refine ⟨G2, by omega, ?_⟩
   rw [Ji, if_neg (by omega), hj]
   simp only
   rw [if_neg (by rw [hk]; omega)]
   exact h
variable (HG : Jp L S)
include HG
theorem Xg6 {l : Nat} (hl : 1 ≤ l) (h6 : l ≤ 6) : ∀ G g n fs p, p ≤ L.length → 7 * (L.length - p) + l < G → L.length - p < g → Ji S L W l G l n fs p = Js S L W l g n fs p := by
 intro G
 induction G with
 | zero => intro g n fs p _ h; omega
 | succ G ih =>
  intro g n fs p hp hG hg
  obtain ⟨g', rfl⟩ : ∃ g', g = g' + 1 := ⟨g - 1, by omega⟩
  rw [Ji, Js, if_neg (by omega)]
  cases hj : Xx L p with
  | none => exact V5 (by omega) (by omega)
  | some kl =>
   obtain ⟨k, len⟩ := kl
   obtain ⟨j1, j2, -, -⟩ := Ke hj
   simp only
   by_cases e : Xq k = (l : Int)
   ·rw [if_pos e, if_pos e]
    refine U7 fun n1 fs1 q1 h1 => ?_
    have w1 := Vv HG j1 j2 h1
    have := w1.lt; have := w1.le
    unfold K0
    split
    ·exact ih _ _ _ _ w1.le (by omega) (by omega)
    ·exact V5 (by omega) (by omega)
   ·rw [if_neg e, if_neg e]
    exact V5 (by omega) (by omega)
theorem Xnm {l : Nat} (hl : 1 ≤ l) : ∀ G m g n fs p, l ≤ m → m ≤ 6 → p ≤ L.length → 7 * (L.length - p) + m < G → L.length - p < g → Ji S L W l G m n fs p = Xw (Ji S L W (l + 1) G m n fs p) (Js S L W l g) := by
 intro G
 induction G with
 | zero => intro m g n fs p _ _ _ h; omega
 | succ G ih =>
  intro m g n fs p hm h6 hp hG hg
  by_cases e : m = l
  ·subst e
   rw [Xg6 HG hl h6 (G + 1) g n fs p hp hG hg, V5 (least := m + 1) (by omega) (by omega), Xz]
  ·rw [Ji, Ji, if_neg (by omega), if_neg (by omega)]
   cases hj : Xx L p with
   | none => exact ih _ _ _ _ _ (by omega) (by omega) hp (by omega) hg
   | some kl =>
    obtain ⟨k, len⟩ := kl
    obtain ⟨j1, j2, -, -⟩ := Ke hj
    simp only
    by_cases e2 : Xq k = (m : Int)
    ·rw [if_pos e2, if_pos e2, Xbc]
     refine U7 fun n1 fs1 q1 h1 => ?_
     have w1 := Vv HG j1 j2 h1
     have := w1.lt; have := w1.le
     exact ih _ _ _ _ _ (by unfold K0; split <;> omega) (by unfold K0; split <;> omega) w1.le (by unfold K0; split <;> omega) (by omega)
    ·rw [if_neg e2, if_neg e2]
     exact ih _ _ _ _ _ (by omega) (by omega) hp (by omega) hg
theorem Xtm (HW : WGood W L) : ∀ d, d ≤ 5 → ∀ fs p, p ≤ L.length → lvS S L W d fs p = Xw (Xo W S L fs p) fun n fs q => Ji S L W (6 - d) (7 * L.length + 8) 6 n fs q := by
 intro d
 induction d with
 | zero =>
  intro _ fs p hp
  rw [lvS]
  refine U7 fun n1 fs1 q1 h1 => ?_
  have w1 := J9 HG HW hp h1
  exact (Xg6 HG (by decide) (by decide) _ _ _ _ _ w1.le (by omega) (by omega)).symm
 | succ d ih =>
  intro hd fs p hp
  rw [lvS, ih (by omega) fs p hp, Xbc]
  refine U7 fun n1 fs1 q1 h1 => ?_
  have w1 := J9 HG HW hp h1
  rw [Xnm HG (l := 6 - (d + 1)) (by omega) _ 6 (L.length + 1) _ _ _ (by omega) (by decide) w1.le (by omega) (by omega), show 6 - (d + 1) + 1 = 6 - d by omega, show 6 - (d + 1) = 5 - d by omega]
end
theorem J8 {L : List UInt8} {p : Nat} {k : Int} {len : Nat} (h : Xx L p = some (k, len)) : k = 6 ∨ k = 7 ∨ k = 21 ∨ k = 17 ∨ k = 18 ∨ k = 20 ∨ k = 19 ∨ k = 15 ∨ k = 16 ∨ k = 23 := by
 unfold Xx at h
 repeat' split at h
 all_goals first
  | (cases h; done)
  | (simp only [Option.some.injEq, Prod.mk.injEq] at h; obtain ⟨rfl, rfl⟩ := h; decide)
def StF (L : List UInt8) (bind : Int) (m p : Nat) : Prop :=
 (∀ k len, Xx L p = some (k, len) → Xd7 k ≤ bind ∧ Xq k ≤ (m : Int)) ∨ (Xca L p ∧ bind = 4 ∧ m ≤ 3)
theorem Xly {L : List UInt8} {bind : Int} {p : Nat} (h : 6 ≤ bind) : StF L bind 6 p := by
 refine .inl fun k len hj => ?_
 have h1 : Xd7 k ≤ 6 ∧ Xq k ≤ 6 := by
  rcases J8 hj with rfl | rfl | rfl | rfl | rfl | rfl | rfl | rfl | rfl | rfl <;> decide
 exact ⟨by omega, h1.2⟩
theorem Xtn {L : List UInt8} {p0 p : Nat} {k : Int} {len : Nat} (hj0 : Xx L p0 = some (k, len)) (hk : k ≠ 23) (hs : Xrc L (Ja k) p) : StF L (Xq k) (K0 (Xq k).toNat) p := by
 have key : ∀ k' len', Xx L p = some (k', len') → (Xd7 k' ≤ Xq k ∧ Xq k' ≤ (K0 (Xq k).toNat : Int)) ∨ (Xq k' = 4 ∧ Xq k = 4) := by
  intro k' len' hj
  have h1 := hs k' len' hj
  rcases J8 hj0 with rfl | rfl | rfl | rfl | rfl | rfl | rfl | rfl | rfl | rfl <;> rcases J8 hj with rfl | rfl | rfl | rfl | rfl | rfl | rfl | rfl | rfl | rfl <;> first | (exact absurd rfl hk) | (exact .inl (by decide)) | (exact .inr (by decide)) | (exfalso; revert h1; decide)
 cases hj : Xx L p with
 | none => exact .inl fun k' len' e => by rw [hj] at e; cases e
 | some kl =>
  obtain ⟨k', len'⟩ := kl
  rcases key k' len' hj with h | h
  ·exact .inl fun k2 len2 e => by rw [hj] at e; cases e; exact h
  ·refine .inr ⟨⟨k', len', hj, h.1⟩, h.2, ?_⟩
   rw [h.2]; decide
theorem Xb5 {L : List UInt8} {least : Int} {a b : RF} {k k' : Int → List FN → Nat → RF} (h : Q4 a b) (hk : ∀ n fs q, b = some (n, fs, q) → Xf8 L least (k n fs q) (k' n fs q)) (hp : ∀ n fs q, Qm fs (k n fs q)) : Xf8 L least (Xw a k) (Xw b k') := by
 cases b with
 | some r => obtain ⟨n, fs, q⟩ := r; rw [show a = some (n, fs, q) from h, Xz, Xz]; exact hk n fs q rfl
 | none =>
  rw [Je]
  intro n' fs' q' e
  obtain ⟨n1, fs1, q1, h1, h2⟩ := X2 e
  obtain ⟨m, rfl⟩ := hp _ _ _ _ _ _ h2
  exact Wz (h _ _ _ h1)
section
variable {W W' : WP} {L : List UInt8} (H : WRel W W' L) {R S : RD} (HP : Um R) (HR : Xfi L R S) (HG : Jp L S)
include H HP HR HG
theorem Xto {least : Nat} (h1 : 1 ≤ least) (h6 : least ≤ 6) : ∀ g G bind m n fs p, p ≤ L.length → L.length - p < g → 7 * (L.length - p) + m < G → m ≤ 6 → StF L bind m p →
  Xf8 L (least : Int) (Zq R L W g (least : Int) bind n fs p) (Ji S L W' least G m n fs p) := by
 intro g
 induction g with
 | zero => intro G bind m n fs p _ h; omega
 | succ g ih =>
  intro G bind m n fs p hp hg hG hm hst
  rcases hst with hst | ⟨hc, hb, hm3⟩
  ·cases hj : Xx L p with
   | none =>
    rw [Wx h1 m G (by omega) (fun k len e => by rw [hj] at e; cases e), Zq, hj]
    exact .inl ⟨rfl, fun k len e => by rw [hj] at e; cases e⟩
   | some kl =>
    obtain ⟨k, len⟩ := kl
    obtain ⟨j1, j2, j3, j4⟩ := Ke hj
    obtain ⟨s1, s2⟩ := hst k len hj
    by_cases hlow : Xq k < (least : Int)
    ·rw [Wx h1 m G (by omega) (fun k2 len2 e => by rw [hj] at e; cases e; exact .inl hlow), Zq, hj]
     simp only
     rw [if_pos hlow]
     exact .inl ⟨rfl, fun k2 len2 e => by rw [hj] at e; cases e; exact hlow⟩
    ·obtain ⟨l, hl⟩ : ∃ l : Nat, Xq k = (l : Int) := ⟨(Xq k).toNat, by omega⟩
     obtain ⟨G', hG', hS⟩ := Xnl (S := S) (W := W') (n := n) (fs := fs) hj hl (by omega : least ≤ l) m G (by omega) (by omega)
     rw [hS, Zq, hj]
     simp only
     rw [if_neg hlow, if_neg (by omega)]
     have hgo : ∀ n1 fs1 q1, Jj S L W' k len n fs p = some (n1, fs1, q1) → StF L (Xq k) (K0 l) q1 → Xf8 L (least : Int) (Zq R L W g (least : Int) (Xq k) n1 fs1 q1) (Ji S L W' least G' (K0 l) n1 fs1 q1) := fun n1 fs1 q1 e hst1 => by
      have w1 := Vv HG j1 j2 e
      have := w1.lt; have := w1.le
      have hn6 : K0 l ≤ 6 := by unfold K0; split <;> omega
      exact ih G' _ _ _ _ _ w1.le (by omega) (by omega) hn6 hst1
     by_cases h23 : k = 23
     ·subst h23
      refine Xb5 ?_ (fun n1 fs1 q1 e => hgo n1 fs1 q1 e ?_) (fun _ _ _ => We HP _ _ _ _ _ _)
      ·unfold Jj; rw [if_pos rfl, if_pos rfl]; exact Zw H _ _ _
      ·have hl6 : l = 6 := by have : Xq 23 = 6 := by decide
                              omega
       subst hl6
       exact Xly (by decide)
     ·have hlk : l = (Xq k).toNat := by omega
      have hr16 : 1 ≤ Ja k ∧ Ja k ≤ 6 := by
       rcases J8 hj with rfl | rfl | rfl | rfl | rfl | rfl | rfl | rfl | rfl | rfl <;> first | (exact absurd rfl h23) | decide
      have hx := HR (Ja k) fs _ hr16.1 hr16.2 (Xy j2)
      have hePs : Jj S L W' k len n fs p = Xw (S (Ja k) fs (skF L (p + len))) fun b fs q => Xs W' (Yp k [n, b]) fs q := by unfold Jj; rw [if_neg h23]
      have hePp : Jj R L W k len n fs p = Xw (R (Ja k) fs (skF L (p + len))) fun b fs q => Xs W (Yp k [n, b]) fs q := by unfold Jj; rw [if_neg h23]
      cases hs : S (Ja k) fs (skF L (p + len)) with
      | none =>
       rw [hs] at hx hePs
       rw [Je] at hePs
       rw [hePs, Je]
       intro n' fs' q' e
       rw [hePp, Xbc] at e
       obtain ⟨n1, fs1, q1, e1, e2⟩ := X2 e
       obtain ⟨mm, rfl⟩ := Qi Yf (fun _ _ _ => We HP _ _ _ _ _ _) _ _ _ e2
       exact Wz ((show ∀ n fs q, _ = some (n, fs, q) → V6 fs from hx) _ _ _ e1)
      | some r =>
       obtain ⟨b, fs1, q1⟩ := r
       rw [hs] at hx hePs
       rw [Xz] at hePs
       rcases (show _ ∨ _ from hx) with ⟨x1, x2⟩ | ⟨x1, x2, x3⟩
       ·rw [x1, Xz] at hePp
        refine Xb5 ?_ (fun n2 fs2 q2 e => hgo n2 fs2 q2 e ?_) (fun _ _ _ => We HP _ _ _ _ _ _)
        ·rw [hePs, hePp]; exact Zw H _ _ _
        ·have hq : q2 = q1 := by rw [hePs] at e; exact (Vt e).2.2
         rw [hq, hlk]
         exact Xtn hj h23 x2
       ·rw [x1, Je] at hePp
        rw [hePp, Je]
        cases ha : Jj S L W' k len n fs p with
        | none => rw [Je]; intro _ _ _ e; cases e
        | some r2 =>
         obtain ⟨n2, fs2, q2⟩ := r2
         have w2 := Vv HG j1 j2 ha
         have hq : q2 = q1 := by rw [hePs] at ha; exact (Vt ha).2.2
         have hl3 : l ≤ 3 := by
          have : Xq k ≤ 3 := by
           rcases J8 hj with rfl | rfl | rfl | rfl | rfl | rfl | rfl | rfl | rfl | rfl <;> first | (exact absurd rfl h23) | decide | (exfalso; revert x2; decide)
          omega
         rw [Xz, hq]
         have hn3 : K0 l ≤ 3 := by unfold K0; split <;> omega
         rw [Wx h1 (K0 l) G' (by have := w2.lt; omega) (fun k2 len2 e => ?_)]
         ·exact .inr ⟨rfl, by omega, x3⟩
         ·obtain ⟨k3, len3, e3, e4⟩ := x3
          rw [e3] at e
          cases e
          exact .inr (by omega)
  ·obtain ⟨k, len, hj, hk4⟩ := hc
   have hlft : Xd7 k = 5 := by
    rcases J8 hj with rfl | rfl | rfl | rfl | rfl | rfl | rfl | rfl | rfl | rfl <;> first | decide | (exfalso; revert hk4; decide)
   rw [Wx h1 m G (by omega) (fun k2 len2 e => by rw [hj] at e; cases e; exact .inr (by omega)), Zq, hj]
   simp only
   by_cases hlow : Xq k < (least : Int)
   ·rw [if_pos hlow]
    exact .inl ⟨rfl, fun k2 len2 e => by rw [hj] at e; cases e; exact hlow⟩
   ·rw [if_neg hlow, if_pos (by omega)]
    exact .inr ⟨rfl, by omega, k, len, hj, hk4⟩
end
theorem Xtp {W W' : WP} {L : List UInt8} (H : WRel W W' L) (HW' : WGood W' L) : ∀ f, Xfi L (Yj W L f) (Ud W' L f) := by
 intro f
 induction f with
 | zero => intro least fs p _ _ _; intro _ _ _ e; cases e
 | succ f ih =>
  intro least fs p h1 h6 hp
  have HG := Xfg HW' f
  have HP := Xmy W L f
  rw [Yj, Ud, Xtm HG HW' _ (by omega) fs p hp]
  obtain ⟨l, rfl⟩ : ∃ l : Nat, least = (l : Int) := ⟨least.toNat, by omega⟩
  rw [show 6 - (6 - (l : Int).toNat) = l by omega]
  refine Xb5 (Xqx H HP ih HG fs hp) (fun n1 fs1 q1 e => ?_) (fun _ _ _ => We HP _ _ _ _ _ _)
  have w1 := J9 HG HW' hp e
  exact Xto H HP ih HG (by omega) (by omega) _ _ _ _ _ _ _ w1.le (by omega) (by omega) (by decide) (Xly (by decide))
theorem Xk0 {W W' : WP} {L : List UInt8} (H : WRel W W' L) (HW' : WGood W' L) (f : Nat) : Xcx (Yj W L f) L = Xcx (Ud W' L f) L := by
 have h := Xtp H HW' f 1 [] (skF L 0) (by decide) (by decide) (Xy (by omega))
 unfold Xcx
 cases hs : Ud W' L f 1 [] (skF L 0) with
 | some r =>
  obtain ⟨n, fs, q⟩ := r
  rw [hs] at h
  rcases (show _ ∨ _ from h) with ⟨x1, x2⟩ | ⟨x1, x2, x3⟩
  ·rw [x1]
  ·rw [x1]
   have := (Xcb x3).1
   simp only
   rw [if_neg (by omega)]
 | none =>
  rw [hs] at h
  cases hr : Yj W L f 1 [] (skF L 0) with
  | none => rfl
  | some r =>
   obtain ⟨n, fs, q⟩ := r
   have h2 := (show ∀ n fs q, _ = some (n, fs, q) → V6 fs from h) _ _ _ hr []
   rw [List.append_nil] at h2
   simp only
   rw [if_neg (by rw [h2]; simp)]
end Go.Proofs.YtehihemfepbmfaaGreatDoor
