/-
  Plain: a filter's text.
-/
import Derived.Test.YtehihemfepbmfaaGreatDoorFImp1
import Derived.Test.YtehihemfepbmfaaGreatDoorPkP
import Derived.Test.YtehihemfepbmfaaGreatDoorRowB
namespace Go.Proofs.YtehihemfepbmfaaGreatDoor
open Go.RowKit
set_option linter.unusedSimpArgs false
set_option linter.unusedVariables false

/-- How much a kind binds. -/
def levF (k : Int) : Int :=
  if k = 6 then 1 else if k = 7 then 2 else if k = 21 then 3 else if k = 17 ∨ k = 18 ∨ k = 19 ∨ k = 20 then 4 else if k = 15 ∨ k = 16 then 5 else if k = 23 then 6 else 7
/-- The sign of a kind with two kids. -/
def sgnF (k : Int) : List UInt8 :=
  if k = 6 then [32, 124, 32] else if k = 7 then [44, 32] else if k = 21 then [32, 47, 47, 32] else if k = 17 then [32, 61, 61, 32] else if k = 18 then [32, 33, 61, 32]
  else if k = 19 then [32, 60, 32] else if k = 20 then [32, 60, 61, 32] else if k = 15 then [32, 43, 32] else [32, 45, 32]
def lftF (k : Int) : Int := if k = 6 then 2 else if k = 7 then 2 else if k = 21 then 4 else 5
def rgtF (k : Int) : Int := if k = 6 then 1 else if k = 7 then 3 else if k = 21 then 3 else if k = 15 ∨ k = 16 then 6 else 5
def cstT (c : List VN) : List UInt8 := jsonT false 1 0 (treeOf c 1 0)
def sepF (k : Nat) : List UInt8 := if k = 0 then [] else [44, 32]
/-- The first 'k' names of a map with their filters. -/
def rowF (R : Int → Int → List UInt8) (names : List ByteArray) (kids : List Int) : Nat → List UInt8
  | 0 => []
  | k + 1 => rowF R names kids k ++ sepF k ++ (keyAt names k).data.toList ++ [58, 32] ++ R (intAt kids k) 3
def bodyF (R : Int → Int → List UInt8) (x : FN) : List UInt8 :=
  if x.kind = 1 then [46]
  else if x.kind = 2 then 46 :: x.name.data.toList
  else if x.kind = 3 then [46, 91] ++ Lib.itoa x.place ++ [93]
  else if x.kind = 4 then [46, 91, 93]
  else if x.kind = 5 then cstT x.cst
  else if x.kind = 8 then [91] ++ (if x.kids.length = 0 then [] else R (intAt x.kids 0) 1) ++ [93]
  else if x.kind = 9 then [123] ++ rowF R x.names x.kids x.kids.length ++ [125]
  else if x.kind = 10 then [115, 101, 108, 101, 99, 116, 40] ++ R (intAt x.kids 0) 1 ++ [41]
  else if x.kind = 11 then [108, 101, 110, 103, 116, 104]
  else if x.kind = 12 then [107, 101, 121, 115]
  else if x.kind = 13 then [110, 111, 116]
  else if x.kind = 14 then [101, 109, 112, 116, 121]
  else if x.kind = 22 then [105, 102, 32] ++ R (intAt x.kids 0) 1 ++ [32, 116, 104, 101, 110, 32] ++ R (intAt x.kids 1) 1 ++ [32, 101, 108, 115, 101, 32] ++ R (intAt x.kids 2) 1 ++ [32, 101, 110, 100]
  else if x.kind = 23 then R (intAt x.kids 0) 6 ++ [63]
  else R (intAt x.kids 0) (lftF x.kind) ++ sgnF x.kind ++ R (intAt x.kids 1) (rgtF x.kind)
def fTxt (fs : List FN) : Nat → Int → Int → List UInt8
  | 0, _, _ => []
  | f + 1, n, least => if levF (fnAt fs n.toNat).kind < least then [40] ++ bodyF (fTxt fs f) (fnAt fs n.toNat) ++ [41] else bodyF (fTxt fs f) (fnAt fs n.toNat)
def filterV (fs : List FN) : List UInt8 := if okF fs = true then fTxt fs fs.length ((fs.length : Int) - 1) 1 else []

/-! ### How long it is -/
def widK (T : Nat → Option (Nat × Nat)) (k : Int) : Nat := match T k.toNat with
  | some p => k.toNat + 1 - p.1
  | none => 0
theorem fold_wid {T : Nat → Option (Nat × Nat)} (hT : ∀ m p, T m = some p → p.1 ≤ m) : ∀ (l : List Int) (b h : Nat) (q : Nat × Nat), l.foldl (stepKid T) (some (b, h)) = some q → q.1 ≤ b ∧ (l.map (widK T)).sum = b - q.1 := by
  intro l
  induction l with
  | nil => intro b h q e; simp at e; rw [← e]; simp
  | cons k l ih =>
    intro b h q e
    obtain ⟨p, h1, h2, h3, h4⟩ := fold_cons_some e
    have hp := hT _ _ h3
    obtain ⟨g1, g2⟩ := ih _ _ _ h4
    have e1 : widK T k = b - p.1 := by
      have : k.toNat = b - 1 := by omega
      unfold widK
      rw [this, h3]
      simp only
      omega
    rw [List.map_cons, List.sum_cons, g2, e1]
    omega
theorem tr_wid {K : Nat → List Int} {n : Nat} {p : Nat × Nat} (h : tr K n = some p) : p.1 ≤ n ∧ ((K n).map (widK (tr K))).sum = n - p.1 := by
  rw [tr_eq] at h
  cases hf : (K n).reverse.foldl (stepKid (tr K)) (some (n, 0)) with
  | none => simp [hf] at h
  | some q =>
    rw [hf] at h
    simp at h
    have := fold_wid (fun m p hp => tr_le hp) _ _ _ _ hf
    rw [List.map_reverse, List.sum_reverse] at this
    rw [← h]
    exact this

theorem mem_sum (W : Int → Nat) : ∀ (l : List Int) (k : Int), k ∈ l → W k ≤ (l.map W).sum := by
  intro l
  induction l with
  | nil => intro k h; cases h
  | cons a l ih =>
    intro k h
    rw [List.map_cons, List.sum_cons]
    rcases List.mem_cons.1 h with rfl | h
    · omega
    · have := ih k h; omega
theorem sum_get (W : Int → Nat) (l : List Int) (j : Nat) (hj : j < l.length) : W (intAt l j) ≤ (l.map W).sum := by
  rw [intAt_get hj]
  exact mem_sum W l _ (List.getElem_mem hj)

theorem sepF_len (k : Nat) : (sepF k).length ≤ 2 := by unfold sepF; split <;> simp
theorem rowF_mono (R : Int → Int → List UInt8) (names : List ByteArray) (kids : List Int) {j k : Nat} (h : j ≤ k) : (rowF R names kids j).length ≤ (rowF R names kids k).length := by
  induction k with
  | zero => obtain rfl : j = 0 := by omega
            exact Nat.le_refl _
  | succ k ih =>
    by_cases e : j = k + 1
    · subst e; exact Nat.le_refl _
    · have := ih (by omega)
      rw [rowF]; simp only [List.length_append]; omega
theorem rowF_len {R : Int → Int → List UInt8} {names : List ByteArray} {kids : List Int} {W : Int → Nat} (hR : ∀ k ∈ kids, ∀ l, (R k l).length ≤ W k) (hn : ∀ j, j < kids.length → (keyAt names j).size ≤ 60) :
    ∀ k, k ≤ kids.length → (rowF R names kids k).length ≤ 64 * k + ((kids.take k).map W).sum := by
  intro k
  induction k with
  | zero => intro _; simp [rowF]
  | succ k ih =>
    intro hk
    have h1 := ih (by omega)
    have h2 := hn k (by omega)
    have h3 := hR (intAt kids k) (by rw [intAt_get (show k < kids.length by omega)]; exact List.getElem_mem _) 3
    have h4 := sepF_len k
    have h5 : (keyAt names k).data.toList.length = (keyAt names k).size := len_is _
    rw [rowF]
    simp only [List.length_append, List.length_cons, List.length_nil]
    rw [List.take_succ_eq_append_getElem (show k < kids.length by omega), List.map_append, List.sum_append]
    rw [intAt_get (show k < kids.length by omega)] at h3 ⊢
    simp only [List.map_cons, List.map_nil, List.sum_cons, List.sum_nil]
    omega

theorem cstT_len {c : List VN} (h : cstB c = true) : 1 ≤ (cstT c).length ∧ (cstT c).length ≤ 362 := by
  unfold cstB at h
  simp only [Bool.and_eq_true, decide_eq_true_eq] at h
  obtain ⟨⟨⟨h1, h2⟩, h3⟩, h4⟩ := h
  refine ⟨jsonT_pos h2 false 0 0 (i := 0) (by omega), ?_⟩
  unfold cstT
  rw [treeOf]
  have hl := jsonT_leaf false 0 0 (kind := (nodeAt c 0).kind) (n := (nodeAt c 0).n) (s := (nodeAt c 0).s) (keys := (nodeAt c 0).keys) (kids := (nodeAt c 0).kids.map fun k => treeOf c 0 k.toNat)
  rcases node_says h2 (show 0 < c.length by omega) with k | ⟨k, _⟩ | ⟨k, q1, q2⟩ | ⟨k, q1⟩ | k | ⟨k, _⟩
  · rw [hl.1 k]; simp
  · rw [hl.2.1 k]; split <;> simp
  · rw [hl.2.2.1 k]; have := Lib.itoa_length_le (nodeAt c 0).n (by omega) (by omega); omega
  · rw [hl.2.2.2.1 k]; have := (quoT_len (nodeAt c 0).s).2; omega
  · exact absurd k h3
  · exact absurd k h4
theorem sgnF_len (k : Int) : (sgnF k).length ≤ 4 := by
  unfold sgnF
  repeat (split; · simp)
  simp
theorem names_small {l : List ByteArray} (h : namesB l = true) : l.length ≤ 5 ∧ ∀ j, j < l.length → (keyAt l j).size ≤ 60 := by
  unfold namesB nriseB at h
  simp only [Bool.and_eq_true, decide_eq_true_eq, List.all_eq_true, List.mem_range] at h
  refine ⟨h.1, fun j hj => ?_⟩
  have := h.2 j hj
  unfold nriseAt nameB at this
  simp only [Bool.and_eq_true, decide_eq_true_eq] at this
  exact this.1.1.1.2
/-- What a right node says of its kids. -/
theorem fit_kids {x : FN} (h : fnodeB x = true) : (x.kind = 8 → x.kids.length ≤ 1) ∧ (x.kind = 9 → x.kids.length = x.names.length ∧ x.names.length ≤ 5 ∧ ∀ j, j < x.names.length → (keyAt x.names j).size ≤ 60) ∧ (x.kind ≠ 8 → x.kind ≠ 9 → 1 ≤ x.kind ∧ x.kind ≤ 23 ∧ (x.kids.length : Int) = kidsN x.kind) ∧
    (x.kind = 2 → nameB x.name = true) ∧ (x.kind = 3 → -80 ≤ x.place ∧ x.place ≤ 80) ∧ (x.kind = 5 → cstB x.cst = true) ∧ (x.kind ≠ 2 → x.name.size = 0) ∧ (x.kind ≠ 9 → x.names.length = 0) := by
  unfold fnodeB at h
  simp only [Bool.and_eq_true] at h
  obtain ⟨⟨h0, h1⟩, h2⟩ := h
  refine ⟨fun k => ?_, fun k => ?_, fun k8 k9 => ?_, fun k => ?_, fun k => ?_, fun k => ?_, fun k => ?_, fun k => ?_⟩
  · unfold fitF at h2; rw [if_pos k] at h2; simpa using h2
  · unfold fitF at h2; rw [if_neg (by omega), if_pos k] at h2
    unfold ownF at h1; rw [if_neg (by omega), if_neg (by omega), if_neg (by omega), if_pos k] at h1
    exact ⟨by simpa using h2, names_small h1⟩
  · unfold fitF at h2; rw [if_neg k8, if_neg k9] at h2
    simp only [Bool.and_eq_true, decide_eq_true_eq] at h2
    exact ⟨h2.1.1, h2.1.2, h2.2⟩
  · unfold ownF at h1; rw [if_pos k] at h1; exact h1
  · unfold ownF at h1; rw [if_neg (by omega), if_pos k] at h1; simpa using h1
  · unfold ownF at h1; rw [if_neg (by omega), if_neg (by omega), if_pos k] at h1; exact h1
  · unfold zeroF at h0
    simp only [Bool.and_eq_true, Bool.not_eq_true', Bool.and_eq_false_iff, decide_eq_false_iff_not] at h0
    have := h0.1.1.1
    have hh : x.name.toList = [] := by
      rcases this with t | t
      · exact absurd k t
      · exact Classical.not_not.1 t
    exact nil_size.1 hh
  · unfold zeroF at h0
    simp only [Bool.and_eq_true, Bool.not_eq_true', Bool.and_eq_false_iff, decide_eq_false_iff_not] at h0
    have := h0.2
    omega

theorem bodyF_len {R : Int → Int → List UInt8} {x : FN} (hx : fnodeB x = true) {W : Int → Nat} (hR : ∀ k ∈ x.kids, ∀ l, (R k l).length ≤ W k) : (bodyF R x).length ≤ 500 + (x.kids.map W).sum := by
  obtain ⟨f8, f9, fo, f2, f3, f5, _, _⟩ := fit_kids hx
  have hk : ∀ j, j < x.kids.length → ∀ l, (R (intAt x.kids j) l).length ≤ W (intAt x.kids j) := fun j hj l => hR _ (by rw [intAt_get hj]; exact List.getElem_mem _) l
  have two : ∀ l m, 2 ≤ x.kids.length → (R (intAt x.kids 0) l).length + (R (intAt x.kids 1) m).length ≤ (x.kids.map W).sum := by
    intro l m h2
    have a := hk 0 (by omega) l
    have b := hk 1 (by omega) m
    match hh : x.kids, h2 with
    | p :: q :: r, _ =>
      rw [hh] at a b
      simp only [List.map_cons, List.sum_cons]
      simp [intAt] at a b ⊢
      omega
  unfold bodyF
  by_cases g1 : x.kind = 1
  · rw [if_pos g1]
    simp only [List.length_cons, List.length_nil]; omega
  rw [if_neg g1]
  by_cases g2 : x.kind = 2
  · rw [if_pos g2]
    have := (show x.name.size ≤ 60 by have := f2 g2; unfold nameB at this; simp only [Bool.and_eq_true, decide_eq_true_eq] at this; exact this.1.1.2); have := len_is x.name; simp only [List.length_cons]; omega
  rw [if_neg g2]
  by_cases g3 : x.kind = 3
  · rw [if_pos g3]
    have := f3 g3; have := Lib.itoa_length_le x.place (by omega) (by omega); simp only [List.length_append, List.length_cons, List.length_nil]; omega
  rw [if_neg g3]
  by_cases g4 : x.kind = 4
  · rw [if_pos g4]
    simp only [List.length_cons, List.length_nil]; omega
  rw [if_neg g4]
  by_cases g5 : x.kind = 5
  · rw [if_pos g5]
    have := (cstT_len (f5 g5)).2; omega
  rw [if_neg g5]
  by_cases g8 : x.kind = 8
  · rw [if_pos g8]
    split
    · simp only [List.length_append, List.length_cons, List.length_nil]; omega
    · have a := hk 0 (by omega) 1
      have b := sum_get W x.kids 0 (by omega)
      simp only [List.length_append, List.length_cons, List.length_nil]; omega
  rw [if_neg g8]
  by_cases g9 : x.kind = 9
  · rw [if_pos g9]
    obtain ⟨e1, e2, e3⟩ := f9 g9
    have := rowF_len hR (fun j hj => e3 j (by omega)) x.kids.length (Nat.le_refl _)
    rw [List.take_length] at this
    simp only [List.length_append, List.length_cons, List.length_nil]; omega
  rw [if_neg g9]
  by_cases g10 : x.kind = 10
  · rw [if_pos g10]
    have e := (fo (by omega) (by omega)).2.2
    rw [g10] at e; simp [kidsN] at e
    have a := hk 0 (by omega) 1
    have b := sum_get W x.kids 0 (by omega)
    simp only [List.length_append, List.length_cons, List.length_nil]; omega
  rw [if_neg g10]
  by_cases g11 : x.kind = 11
  · rw [if_pos g11]
    simp only [List.length_cons, List.length_nil]; omega
  rw [if_neg g11]
  by_cases g12 : x.kind = 12
  · rw [if_pos g12]
    simp only [List.length_cons, List.length_nil]; omega
  rw [if_neg g12]
  by_cases g13 : x.kind = 13
  · rw [if_pos g13]
    simp only [List.length_cons, List.length_nil]; omega
  rw [if_neg g13]
  by_cases g14 : x.kind = 14
  · rw [if_pos g14]
    simp only [List.length_cons, List.length_nil]; omega
  rw [if_neg g14]
  by_cases g22 : x.kind = 22
  · rw [if_pos g22]
    have e := (fo (by omega) (by omega)).2.2
    rw [g22] at e; simp [kidsN] at e
    have e3 : x.kids.length = 3 := by omega
    have a := hk 0 (by omega) 1
    have b := hk 1 (by omega) 1
    have c := hk 2 (by omega) 1
    match hh : x.kids, e3 with
    | [p, q, r], _ =>
      rw [hh] at a b c
      simp only [List.map_cons, List.sum_cons, List.length_append, List.length_cons, List.length_nil, List.map_nil, List.sum_nil]
      simp [intAt] at a b c ⊢
      omega
  rw [if_neg g22]
  by_cases g23 : x.kind = 23
  · rw [if_pos g23]
    have e := (fo (by omega) (by omega)).2.2
    rw [g23] at e; simp [kidsN] at e
    have a := hk 0 (by omega) 6
    have b := sum_get W x.kids 0 (by omega)
    simp only [List.length_append, List.length_cons, List.length_nil]; omega
  rw [if_neg g23]
  obtain ⟨k1, k2, k3⟩ := fo g8 g9
  have e : x.kids.length = 2 := by
    unfold kidsN at k3
    rw [if_pos (by omega)] at k3
    omega
  have a := two (lftF x.kind) (rgtF x.kind) (by omega)
  have b := sgnF_len x.kind
  simp only [List.length_append]; omega

theorem okF_parts {fs : List FN} (h : okF fs = true) : (1 ≤ fs.length ∧ fs.length ≤ 40) ∧ (∀ i, i < fs.length → fnodeB (fnAt fs i) = true ∧ fkidsIn fs i = true) ∧ (∀ i, i < fs.length → ∃ p, tr (fkids fs) i = some p) := by
  have ht := h
  rw [← okF_eq] at ht
  unfold okF fsizeB at h
  unfold tabF standB at ht
  simp only [Bool.and_eq_true, List.all_eq_true, List.mem_range, decide_eq_true_eq] at h ht
  exact ⟨h.1.1, fun i hi => h.1.2 i hi, fun i hi => Option.isSome_iff_exists.1 (ht.2.1 i hi)⟩
theorem fkids_get {fs : List FN} {k j : Nat} (h : fkidsIn fs k = true) (hj : j < (fnAt fs k).kids.length) : 0 ≤ intAt (fnAt fs k).kids j ∧ intAt (fnAt fs k).kids j < (k : Int) := by
  unfold fkidsIn fkids at h
  simp only [List.all_eq_true, Bool.and_eq_true, decide_eq_true_eq] at h
  rw [intAt_get hj]
  have := h _ (List.getElem_mem hj)
  omega
theorem fTxt_len {fs : List FN} (hok : okF fs = true) : ∀ (f n : Nat) (least : Int) (p : Nat × Nat), n < fs.length → n < f → tr (fkids fs) n = some p → (fTxt fs f n least).length ≤ 600 * (n + 1 - p.1) := by
  obtain ⟨_, h2, h3⟩ := okF_parts hok
  intro f
  induction f with
  | zero => intro n l p _ h; omega
  | succ f ih =>
    intro n least p hn hf hp
    obtain ⟨w1, w2⟩ := tr_wid hp
    obtain ⟨hx, hki⟩ := h2 n hn
    have hb := bodyF_len (R := fTxt fs f) hx (W := fun k => 600 * widK (tr (fkids fs)) k) (fun k hk l => by
      obtain ⟨j, hj, rfl⟩ := List.getElem_of_mem hk
      have hj' : j < (fnAt fs n).kids.length := hj
      have hg := fkids_get hki hj'
      rw [intAt_get hj'] at hg
      obtain ⟨q, hq⟩ : ∃ q : Nat, (fnAt fs n).kids[j] = (q : Int) := ⟨((fnAt fs n).kids[j]).toNat, by omega⟩
      rw [hq] at hg ⊢
      obtain ⟨r, hr⟩ := h3 q (by omega)
      have := ih q l r (by omega) (by omega) hr
      have e : widK (tr (fkids fs)) (q : Int) = q + 1 - r.1 := by unfold widK; rw [Int.toNat_natCast, hr]
      simp only [e]
      exact this)
    have e : ((fnAt fs n).kids.map fun k => 600 * widK (tr (fkids fs)) k).sum = 600 * (n - p.1) := by
      rw [← w2]
      show _ = 600 * ((fnAt fs n).kids.map (widK (tr (fkids fs)))).sum
      generalize (fnAt fs n).kids = l
      induction l with
      | nil => rfl
      | cons a l ihl => simp only [List.map_cons, List.sum_cons, ihl]; omega
    rw [e] at hb
    rw [fTxt, Int.toNat_natCast]
    split
    · simp only [List.length_append, List.length_cons, List.length_nil]; omega
    · omega
theorem fTxt_le {fs : List FN} (hok : okF fs = true) (f n : Nat) (least : Int) (hn : n < fs.length) (hf : n < f) : (fTxt fs f n least).length ≤ 24600 := by
  obtain ⟨h1, _, h3⟩ := okF_parts hok
  obtain ⟨p, hp⟩ := h3 n hn
  have := fTxt_len hok f n least p hn hf hp
  have : n + 1 - p.1 ≤ 41 := by omega
  omega
end Go.Proofs.YtehihemfepbmfaaGreatDoor
