import Derived.Test.YtcidjhnogldgmaaGreatDoorIParts
import Derived.Test.YtcidjhnogldgmaaGreatDoorRd
import Derived.Test.YtcidjhnogldgmaaGreatDoorGupN
namespace Go.Proofs.YtcidjhnogldgmaaGreatDoor
open Go.RowKit
set_option linter.unusedSimpArgs false
set_option linter.unusedVariables false
def fCell (fs : List FN) (C N I : Nat → Value) (j : Nat) : Value :=
  if j % 6 = 0 then .int .i64 (fnAt fs (j / 6)).kind
  else if j % 6 = 1 then .string (fnAt fs (j / 6)).name
  else if j % 6 = 2 then .int .i64 (fnAt fs (j / 6)).place
  else if j % 6 = 3 then C (j / 6)
  else if j % 6 = 4 then N (j / 6)
  else I (j / 6)
def fCells (fs : List FN) (C N I : Nat → Value) : List Value := (List.range (fs.length * 6)).map (fCell fs C N I)
theorem fnAt_snoc_lt {fs : List FN} {x : FN} {i : Nat} (h : i < fs.length) : fnAt (fs ++ [x]) i = fnAt fs i := by
  unfold fnAt; rw [List.getD_eq_getElem?_getD, List.getD_eq_getElem?_getD, List.getElem?_append_left h]
theorem fnAt_snoc_end {fs : List FN} {x : FN} : fnAt (fs ++ [x]) fs.length = x := by
  unfold fnAt; rw [List.getD_eq_getElem?_getD]; simp
theorem fCells_snoc (fs : List FN) (x : FN) (C N I : Nat → Value) (c n i : Value) :
    fCells (fs ++ [x]) (upd C fs.length c) (upd N fs.length n) (upd I fs.length i) = fCells fs C N I ++ [.int .i64 x.kind, .string x.name, .int .i64 x.place, c, n, i] := by
  unfold fCells
  rw [List.length_append, show (fs.length + [x].length) * 6 = fs.length * 6 + 6 by simp; omega, List.range_add, List.map_append]
  congr 1
  · apply List.map_congr_left
    intro j hj
    have hj' : j < fs.length * 6 := List.mem_range.1 hj
    unfold fCell
    rw [fnAt_snoc_lt (show j / 6 < fs.length by omega), upd_other _ _ (show j / 6 ≠ fs.length by omega), upd_other _ _ (show j / 6 ≠ fs.length by omega), upd_other _ _ (show j / 6 ≠ fs.length by omega)]
  · have e0 : ∀ k, k < 6 → (fs.length * 6 + k) % 6 = k := fun k hk => by omega
    have e1 : ∀ k, k < 6 → (fs.length * 6 + k) / 6 = fs.length := fun k hk => by omega
    have r6 : List.range 6 = [0, 1, 2, 3, 4, 5] := rfl
    rw [r6]
    simp only [List.map_cons, List.map_nil, fCell, e0 0 (by omega), e0 1 (by omega), e0 2 (by omega), e0 3 (by omega), e0 4 (by omega), e0 5 (by omega), e1 0 (by omega), e1 1 (by omega), e1 2 (by omega), e1 3 (by omega), e1 4 (by omega), e1 5 (by omega), fnAt_snoc_end, upd_same]
    simp
theorem fCells_get (fs : List FN) (C N I : Nat → Value) {j : Nat} (h : j < fs.length * 6) : (fCells fs C N I)[j]? = some (fCell fs C N I j) := by
  unfold fCells; rw [List.getElem?_map, List.getElem?_range h]; rfl
theorem ownK {w w' : World} {b e s n : Nat} {v : Value} {xs : List Value} (h : w.ownsRow b e s v n xs) (hk : ∀ x, v.ownBlock = some x → w'.heap[x]? = w.heap[x]?) : w'.ownsRow b e s v n xs := by
  refine ⟨h.1, ?_⟩
  rcases h.2 with hn | ⟨g, cap, cur, rfl, hg, hgg, rest⟩
  · exact .inl hn
  · exact .inr ⟨g, cap, cur, rfl, hg, (hk g rfl).trans hgg, rest⟩
theorem ownB {w : World} {b b' e s n : Nat} {v : Value} {xs : List Value} (h : w.ownsRow b e s v n xs) (hb : b' ≤ b) : w.ownsRow b' e s v n xs := by
  refine ⟨h.1, ?_⟩
  rcases h.2 with hn | ⟨g, cap, cur, rfl, hg, hgg, rest⟩
  · exact .inl hn
  · exact .inr ⟨g, cap, cur, rfl, by omega, hgg, rest⟩
def nilV (_ : Nat) : Value := .slice none 0 0
theorem nestK {base : Nat} {w w' : World} {v : Value} {vs : List VN} (h : Nest base w v vs nilV nilV) (hk : ∀ x, v.ownBlock = some x → w'.heap[x]? = w.heap[x]?) : Nest base w' v vs nilV nilV :=
  ⟨ownK h.row hk, fun i hi => ownK (h.rk i hi) (fun x hx => by cases hx), fun i hi => ownK (h.ri i hi) (fun x hx => by cases hx), h.dkk, h.dii⟩
theorem nestB {base base' : Nat} {w : World} {v : Value} {vs : List VN} (h : Nest base w v vs nilV nilV) (hb : base' ≤ base) : Nest base' w v vs nilV nilV :=
  ⟨ownB h.row hb, fun i hi => ownB (h.rk i hi) hb, fun i hi => ownB (h.ri i hi) hb, h.dkk, h.dii⟩
theorem nestNil (base : Nat) (w : World) : Nest base w (.slice none 0 0) [] nilV nilV := Nest.nil _ _ _ _
structure FNest (base : Nat) (w : World) (v : Value) (fs : List FN) (C N I : Nat → Value) : Prop where
  row : w.ownsRow base 125 6 v fs.length (fCells fs C N I)
  rc : ∀ i, i < fs.length → Nest base w (C i) (fnAt fs i).cst nilV nilV
  rn : ∀ i, i < fs.length → w.ownsRow base 9 1 (N i) (fnAt fs i).names.length ((fnAt fs i).names.map .string)
  ri : ∀ i, i < fs.length → w.ownsRow base 2 1 (I i) (fnAt fs i).kids.length ((fnAt fs i).kids.map (.int .i64))
  dc : ∀ i j, i < fs.length → j < fs.length → i ≠ j → ∀ x, (C i).ownBlock = some x → (C j).ownBlock ≠ some x
  dn : ∀ i j, i < fs.length → j < fs.length → i ≠ j → ∀ x, (N i).ownBlock = some x → (N j).ownBlock ≠ some x
  di : ∀ i j, i < fs.length → j < fs.length → i ≠ j → ∀ x, (I i).ownBlock = some x → (I j).ownBlock ≠ some x
theorem FNest.nil (base : Nat) (w : World) (C N I : Nat → Value) : FNest base w (.slice none 0 0) [] C N I :=
  ⟨World.ownsRow_nil _ _ _ _, fun i hi => absurd hi (by simp), fun i hi => absurd hi (by simp), fun i hi => absurd hi (by simp), fun i j hi => absurd hi (by simp), fun i j hi => absurd hi (by simp), fun i j hi => absurd hi (by simp)⟩
def Sub (n : Nat) (C N I : Nat → Value) (x : Nat) : Prop := ∃ i, i < n ∧ ((C i).ownBlock = some x ∨ (N i).ownBlock = some x ∨ (I i).ownBlock = some x)
theorem FNest.keep {base : Nat} {w w' : World} {v : Value} {fs : List FN} {C N I : Nat → Value} (h : FNest base w v fs C N I) (hv : ∀ x, v.ownBlock = some x → w'.heap[x]? = w.heap[x]?) (hs : ∀ x, Sub fs.length C N I x → w'.heap[x]? = w.heap[x]?) : FNest base w' v fs C N I :=
  ⟨ownK h.row hv, fun i hi => nestK (h.rc i hi) fun x hx => hs x ⟨i, hi, .inl hx⟩, fun i hi => ownK (h.rn i hi) fun x hx => hs x ⟨i, hi, .inr (.inl hx)⟩, fun i hi => ownK (h.ri i hi) fun x hx => hs x ⟨i, hi, .inr (.inr hx)⟩, h.dc, h.dn, h.di⟩
theorem FNest.sub {base : Nat} {w : World} {v : Value} {fs : List FN} {C N I : Nat → Value} (h : FNest base w v fs C N I) {x : Nat} (hx : Sub fs.length C N I x) : base ≤ x ∧ x < w.heap.size := by
  obtain ⟨i, hi, hx | hx | hx⟩ := hx
  · exact (h.rc i hi).row.lt x hx
  · exact (h.rn i hi).lt x hx
  · exact (h.ri i hi).lt x hx
theorem upd_lt {F : Nat → Value} {k i : Nat} {v : Value} (h : i < k) : upd F k v i = F i := upd_other _ _ (by omega)
theorem dist_snoc {n : Nat} {F : Nat → Value} {f : Value} (h : ∀ i j, i < n → j < n → i ≠ j → ∀ x, (F i).ownBlock = some x → (F j).ownBlock ≠ some x) (hf : ∀ i, i < n → ∀ y, f.ownBlock = some y → (F i).ownBlock ≠ some y) : ∀ i j, i < n + 1 → j < n + 1 → i ≠ j → ∀ x, (upd F n f i).ownBlock = some x → (upd F n f j).ownBlock ≠ some x := by
  intro i j hi hj e y
  by_cases e1 : i = n
  · subst e1
    rw [upd_same, upd_lt (by omega)]
    exact hf j (by omega) y
  · rw [upd_lt (show i < n by omega)]
    by_cases e2 : j = n
    · subst e2
      rw [upd_same]
      intro h1 h2
      exact hf i (by omega) y h2 h1
    · rw [upd_lt (by omega)]
      exact h i j (by omega) (by omega) e y
theorem FNest.snoc {base : Nat} {w w' : World} {v v' : Value} {fs : List FN} {C N I : Nat → Value} {x : FN} {kc kn ki : Value} (h : FNest base w v fs C N I)
    (hc : Nest base w kc x.cst nilV nilV) (hn : w.ownsRow base 9 1 kn x.names.length (x.names.map .string)) (hi : w.ownsRow base 2 1 ki x.kids.length (x.kids.map (.int .i64)))
    (hfr : ∀ y, kc.ownBlock = some y ∨ kn.ownBlock = some y ∨ ki.ownBlock = some y → ¬ Sub fs.length C N I y)
    (hown : w'.ownsRow base 125 6 v' (fs.length + 1) (fCells fs C N I ++ [.int .i64 x.kind, .string x.name, .int .i64 x.place, kc, kn, ki])) (hg : w.grownBy w' v.ownBlock) :
    FNest base w' v' (fs ++ [x]) (upd C fs.length kc) (upd N fs.length kn) (upd I fs.length ki) := by
  have kp : ∀ {e' s' n' : Nat} {u : Value} {xs : List Value}, w.ownsRow base e' s' u n' xs → e' ≠ 125 → ∀ y, u.ownBlock = some y → w'.heap[y]? = w.heap[y]? := fun hu hne y hy => by
    refine hg.block y (hu.lt y hy).2 (fun e => ?_)
    rcases own_apart hu h.row hne with e2 | e2
    · rw [hy] at e2; cases e2
    · exact e2 (hy.trans e)
  have hlen : (fs ++ [x]).length = fs.length + 1 := by simp
  refine ⟨?_, fun i hi' => ?_, fun i hi' => ?_, fun i hi' => ?_, ?_, ?_, ?_⟩
  · rw [fCells_snoc, hlen]; exact hown
  · by_cases e : i = fs.length
    · subst e; rw [upd_same, fnAt_snoc_end]; exact nestK hc (kp hc.row (by decide))
    · have hl : i < fs.length := by omega
      rw [upd_lt hl, fnAt_snoc_lt hl]; exact nestK (h.rc i hl) (kp (h.rc i hl).row (by decide))
  · by_cases e : i = fs.length
    · subst e; rw [upd_same, fnAt_snoc_end]; exact ownK hn (kp hn (by decide))
    · have hl : i < fs.length := by omega
      rw [upd_lt hl, fnAt_snoc_lt hl]; exact ownK (h.rn i hl) (kp (h.rn i hl) (by decide))
  · by_cases e : i = fs.length
    · subst e; rw [upd_same, fnAt_snoc_end]; exact ownK hi (kp hi (by decide))
    · have hl : i < fs.length := by omega
      rw [upd_lt hl, fnAt_snoc_lt hl]; exact ownK (h.ri i hl) (kp (h.ri i hl) (by decide))
  · rw [hlen]; exact dist_snoc h.dc (fun i hi y hy e => hfr y (.inl hy) ⟨i, hi, .inl e⟩)
  · rw [hlen]; exact dist_snoc h.dn (fun i hi y hy e => hfr y (.inr (.inl hy)) ⟨i, hi, .inr (.inl e)⟩)
  · rw [hlen]; exact dist_snoc h.di (fun i hi y hy e => hfr y (.inr (.inr hy)) ⟨i, hi, .inr (.inr e)⟩)
def FRow (base : Nat) (Z : Nat → Prop) (w : World) (v : Value) (fs : List FN) : Prop := ∃ C N I, FNest base w v fs C N I ∧ ∀ x, Sub fs.length C N I x → ¬ Z x
theorem FRow.nil (base : Nat) (Z : Nat → Prop) (w : World) : FRow base Z w (.slice none 0 0) [] := ⟨nilV, nilV, nilV, FNest.nil _ _ _ _ _, fun x ⟨i, hi, _⟩ => absurd hi (by simp)⟩
theorem FRow.more {base : Nat} {Z Z' : Nat → Prop} {w : World} {v : Value} {fs : List FN} (h : FRow base Z w v fs) (hz : ∀ x, Z' x → Z x ∨ w.heap.size ≤ x ∨ x < base) : FRow base Z' w v fs := by
  obtain ⟨C, N, I, h1, h2⟩ := h
  refine ⟨C, N, I, h1, fun x hx hz' => ?_⟩
  have h3 := h1.sub hx
  rcases hz x hz' with h4 | h4 | h4
  · exact h2 x hx h4
  · omega
  · omega
theorem FRow.keep {base : Nat} {Z : Nat → Prop} {w w' : World} {v : Value} {fs : List FN} (h : FRow base Z w v fs) (hk : ∀ x, base ≤ x → x < w.heap.size → w'.heap[x]? = w.heap[x]?) : FRow base Z w' v fs := by
  obtain ⟨C, N, I, h1, h2⟩ := h
  exact ⟨C, N, I, h1.keep (fun x hx => hk x (h1.row.lt x hx).1 (h1.row.lt x hx).2) (fun x hx => hk x (h1.sub hx).1 (h1.sub hx).2), h2⟩
theorem FRow.below {base : Nat} {Z : Nat → Prop} {w w' : World} {v : Value} {fs : List FN} (h : FRow base Z w v fs) (hb : Below w.heap.size w w') : FRow base Z w' v fs := h.keep fun x _ hx => hb.block x hx
theorem FRow.but {base rb : Nat} {Z : Nat → Prop} {w w' : World} {v : Value} {fs : List FN} (h : FRow base Z w v fs) (hb : But rb w w') (hr : rb < base) : FRow base Z w' v fs := h.keep fun x h1 h2 => hb.block x h2 (by omega)
theorem FRow.slice {base : Nat} {Z : Nat → Prop} {w : World} {v : Value} {fs : List FN} (h : FRow base Z w v fs) : ∃ a c, v = .slice a fs.length c := by
  obtain ⟨C, N, I, h1, _⟩ := h
  rcases h1.row.2 with ⟨rfl, e⟩ | ⟨g, cap, cur, rfl, _⟩
  · exact ⟨none, 0, by rw [e]⟩
  · exact ⟨_, _, rfl⟩
def FTy (w : World) (c : Nat) : Prop := ∃ cs z, w.heap[c]? = some (.cells cs 125 z)
structure ButF (rb base : Nat) (w w' : World) : Prop where
  os : w'.os = w.os
  tape : w'.tape = w.tape
  output : w'.output = w.output
  size : w.heap.size ≤ w'.heap.size
  block : ∀ c, c < w.heap.size → c ≠ rb → (base ≤ c → ¬ FTy w c) → w'.heap[c]? = w.heap[c]?
theorem ButF.refl (rb base : Nat) (w : World) : ButF rb base w w := ⟨rfl, rfl, rfl, Nat.le_refl _, fun _ _ _ _ => rfl⟩
theorem ButF.trans {rb base : Nat} {a b c : World} (h : ButF rb base a b) (k : ButF rb base b c) : ButF rb base a c :=
  ⟨k.os.trans h.os, k.tape.trans h.tape, k.output.trans h.output, Nat.le_trans h.size k.size, fun x hx hn ht =>
    have e := h.block x hx hn ht
    (k.block x (Nat.lt_of_lt_of_le hx h.size) hn (fun hb hf => ht hb (by obtain ⟨cs, z, hf⟩ := hf; exact ⟨cs, z, e.symm.trans hf⟩))).trans e⟩
theorem ButF.of_but {rb base : Nat} {a b : World} (h : But rb a b) : ButF rb base a b := ⟨h.os, h.tape, h.output, h.size, fun x hx hn _ => h.block x hx hn⟩
theorem ButF.of_below {rb base : Nat} {a b : World} (h : Below a.heap.size a b) : ButF rb base a b := .of_but (But.of_below h)
theorem ButF.of_set {rb base : Nat} {a : World} (o : Nat) (u : Value) : ButF rb base a (a.setCell ⟨rb, o, none⟩ u) := .of_but (But.of_set o u)
theorem ButF.of_grown {rb base n : Nat} {a b : World} {v : Value} {xs : List Value} (h : a.ownsRow base 125 6 v n xs) (hg : a.grownBy b v.ownBlock) : ButF rb base a b := by
  refine ⟨hg.os, hg.tape, hg.output, hg.size, fun x hx _ ht => hg.block x hx (fun e => ?_)⟩
  rcases h.2 with ⟨rfl, _⟩ | ⟨g, cap, cur, rfl, hb, hgg, _⟩
  · cases e
  · have : x = g := by simpa [Value.ownBlock] using e
    subst this
    exact ht hb ⟨_, _, hgg⟩
theorem ButF.below {rb base : Nat} {a b : World} (h : ButF rb base a b) (hr : base ≤ a.heap.size) : Below (min rb base) a b := ⟨h.os, h.tape, h.output, h.size, fun x hx => h.block x (by omega) (by omega) (fun hb => by omega)⟩
theorem ButF.own {rb base b0 e s n : Nat} {a b : World} {v : Value} {xs : List Value} (h : ButF rb base a b) (hv : a.ownsRow b0 e s v n xs) (he : e ≠ 125) (hb : rb < b0) : b.ownsRow b0 e s v n xs := ownK hv fun x hx => by
  have hl := hv.lt x hx
  refine h.block x hl.2 (by omega) (fun _ ht => ?_)
  rcases hv.2 with ⟨rfl, _⟩ | ⟨g, cap, cur, rfl, _, hgg, _⟩
  · cases hx
  · have e1 : x = g := by simpa [Value.ownBlock] using hx.symm
    subst e1
    obtain ⟨cs, z, hf⟩ := ht
    rw [hgg] at hf
    simp at hf
    exact he hf.2.1
theorem ButF.low {rb base : Nat} {a b : World} (h : ButF rb base a b) {c : Nat} (hc : c < a.heap.size) (hr : c ≠ rb) (hb : c < base) : b.heap[c]? = a.heap[c]? := h.block c hc hr (fun x => by omega)
theorem FRow.butF {base rb : Nat} {Z : Nat → Prop} {w : World} {v : Value} {fs : List FN} (h : FRow base Z w v fs) (o : Nat) (u : Value) (hr : rb < base) : FRow base Z (w.setCell ⟨rb, o, none⟩ u) v fs := h.but (But.of_set o u) hr
end Go.Proofs.YtcidjhnogldgmaaGreatDoor
