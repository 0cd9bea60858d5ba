/-
  How slices of numbers, of texts and of nodes lie in memory below a block number B, and that this stands as long as nothing below B turns.
-/
import Derived.Test.YtpfnkpkcjefelaaPure
import Derived.WalkKit
import Derived.Deep.RegionLaw
import Derived.Deep.AppendLies
namespace Go.Proofs.Ytpfnkpkcjefelaa
open Go.RowKit
set_option linter.unusedSimpArgs false
set_option linter.unusedVariables false

def intAt (l : List Int) (i : Nat) : Int := l.getD i 0

def IntsAt (B : Nat) (w : World) (v : Value) (l : List Int) : Prop :=
  l.length ≤ 17592186044416 ∧ (∀ i, i < l.length → -9223372036854775808 ≤ intAt l i ∧ intAt l i ≤ 9223372036854775807) ∧
  ∃ a cap, v = .slice a l.length cap ∧ (0 < l.length → ∃ b o, a = some ⟨b, o, none⟩ ∧ b < B ∧ ∀ i, i < l.length → w.cell? ⟨b, o + i, none⟩ = some (.int .i64 (intAt l i)))

def StrsAt (B : Nat) (w : World) (v : Value) (l : List ByteArray) : Prop :=
  l.length ≤ 8796093022208 ∧ (∀ i, i < l.length → (keyAt l i).size ≤ 140737488355328) ∧
  ∃ a cap, v = .slice a l.length cap ∧ (0 < l.length → ∃ b o, a = some ⟨b, o, none⟩ ∧ b < B ∧ ∀ i, i < l.length → w.cell? ⟨b, o + i, none⟩ = some (.string (keyAt l i)))

structure NodeIn (B : Nat) (w : World) (x : VN) (ka ki : Value) : Prop where
  keys : StrsAt B w ka x.keys
  kids : IntsAt B w ki x.kids
  size : x.s.size ≤ 140737488355328
  klo : -9223372036854775808 ≤ x.kind
  khi : x.kind ≤ 9223372036854775807
  nlo : -9223372036854775808 ≤ x.n
  nhi : x.n ≤ 9223372036854775807

structure NodeAt (B : Nat) (w : World) (b o : Nat) (x : VN) (ka ki : Value) : Prop where
  c0 : w.cell? ⟨b, o, none⟩ = some (.int .i64 x.kind)
  c1 : w.cell? ⟨b, o + 1, none⟩ = some (.int .i64 x.n)
  c2 : w.cell? ⟨b, o + 2, none⟩ = some (.string x.s)
  c3 : w.cell? ⟨b, o + 3, none⟩ = some ka
  c4 : w.cell? ⟨b, o + 4, none⟩ = some ki
  inn : NodeIn B w x ka ki

def NodesAt (B : Nat) (w : World) (v : Value) (vs : List VN) : Prop :=
  vs.length ≤ 1759218604416 ∧ ∃ a cap, v = .slice a vs.length cap ∧ (0 < vs.length → ∃ b o, a = some ⟨b, o, none⟩ ∧ b < B ∧ ∀ i, i < vs.length → ∃ ka ki, NodeAt B w b (o + i * 5) (nodeAt vs i) ka ki)

theorem below_cell {B : Nat} {w w' : World} (h : Below B w w') {b o : Nat} (hb : b < B) : w'.cell? ⟨b, o, none⟩ = w.cell? ⟨b, o, none⟩ := h.cell (p := ⟨b, o, none⟩) hb

theorem IntsAt.below {B : Nat} {w w' : World} {v : Value} {l : List Int} (h : IntsAt B w v l) (hb : Below B w w') : IntsAt B w' v l := by
  obtain ⟨h1, h2, a, cap, e, h3⟩ := h
  refine ⟨h1, h2, a, cap, e, fun hl => ?_⟩
  obtain ⟨b, o, ea, hbB, hc⟩ := h3 hl
  exact ⟨b, o, ea, hbB, fun i hi => (below_cell hb hbB).trans (hc i hi)⟩

theorem StrsAt.below {B : Nat} {w w' : World} {v : Value} {l : List ByteArray} (h : StrsAt B w v l) (hb : Below B w w') : StrsAt B w' v l := by
  obtain ⟨h1, h2, a, cap, e, h3⟩ := h
  refine ⟨h1, h2, a, cap, e, fun hl => ?_⟩
  obtain ⟨b, o, ea, hbB, hc⟩ := h3 hl
  exact ⟨b, o, ea, hbB, fun i hi => (below_cell hb hbB).trans (hc i hi)⟩

theorem NodeIn.below {B : Nat} {w w' : World} {x : VN} {ka ki : Value} (h : NodeIn B w x ka ki) (hb : Below B w w') : NodeIn B w' x ka ki :=
  { h with keys := h.keys.below hb, kids := h.kids.below hb }

theorem NodeAt.below {B : Nat} {w w' : World} {b o : Nat} {x : VN} {ka ki : Value} (h : NodeAt B w b o x ka ki) (hb : Below B w w') (hB : b < B) : NodeAt B w' b o x ka ki :=
  ⟨(below_cell hb hB).trans h.c0, (below_cell hb hB).trans h.c1, (below_cell hb hB).trans h.c2, (below_cell hb hB).trans h.c3, (below_cell hb hB).trans h.c4, h.inn.below hb⟩

theorem NodesAt.below {B : Nat} {w w' : World} {v : Value} {vs : List VN} (h : NodesAt B w v vs) (hb : Below B w w') : NodesAt B w' v vs := by
  obtain ⟨h1, a, cap, e, h3⟩ := h
  refine ⟨h1, a, cap, e, fun hl => ?_⟩
  obtain ⟨b, o, ea, hbB, hc⟩ := h3 hl
  refine ⟨b, o, ea, hbB, fun i hi => ?_⟩
  obtain ⟨ka, ki, hn⟩ := hc i hi
  exact ⟨ka, ki, hn.below hb hbB⟩

theorem IntsAt.wide {B B' : Nat} {w : World} {v : Value} {l : List Int} (h : IntsAt B w v l) (hb : B ≤ B') : IntsAt B' w v l := by
  obtain ⟨h1, h2, a, cap, e, h3⟩ := h
  refine ⟨h1, h2, a, cap, e, fun hl => ?_⟩
  obtain ⟨b, o, ea, hbB, hc⟩ := h3 hl
  exact ⟨b, o, ea, by omega, hc⟩

theorem StrsAt.wide {B B' : Nat} {w : World} {v : Value} {l : List ByteArray} (h : StrsAt B w v l) (hb : B ≤ B') : StrsAt B' w v l := by
  obtain ⟨h1, h2, a, cap, e, h3⟩ := h
  refine ⟨h1, h2, a, cap, e, fun hl => ?_⟩
  obtain ⟨b, o, ea, hbB, hc⟩ := h3 hl
  exact ⟨b, o, ea, by omega, hc⟩

theorem NodeIn.wide {B B' : Nat} {w : World} {x : VN} {ka ki : Value} (h : NodeIn B w x ka ki) (hb : B ≤ B') : NodeIn B' w x ka ki :=
  { h with keys := h.keys.wide hb, kids := h.kids.wide hb }

theorem NodeAt.wide {B B' : Nat} {w : World} {b o : Nat} {x : VN} {ka ki : Value} (h : NodeAt B w b o x ka ki) (hb : B ≤ B') : NodeAt B' w b o x ka ki :=
  ⟨h.c0, h.c1, h.c2, h.c3, h.c4, h.inn.wide hb⟩

theorem NodesAt.wide {B B' : Nat} {w : World} {v : Value} {vs : List VN} (h : NodesAt B w v vs) (hb : B ≤ B') : NodesAt B' w v vs := by
  obtain ⟨h1, a, cap, e, h3⟩ := h
  refine ⟨h1, a, cap, e, fun hl => ?_⟩
  obtain ⟨b, o, ea, hbB, hc⟩ := h3 hl
  refine ⟨b, o, ea, by omega, fun i hi => ?_⟩
  obtain ⟨ka, ki, hn⟩ := hc i hi
  exact ⟨ka, ki, hn.wide hb⟩

/-- What is asked of nodes besides their memory. -/
structure Fits (x : VN) : Prop where
  keysN : x.keys.length ≤ 8796093022208
  keysS : ∀ i, i < x.keys.length → (keyAt x.keys i).size ≤ 140737488355328
  kidsN : x.kids.length ≤ 17592186044416
  kidsB : ∀ i, i < x.kids.length → -9223372036854775808 ≤ intAt x.kids i ∧ intAt x.kids i ≤ 9223372036854775807
  size : x.s.size ≤ 140737488355328
  klo : -9223372036854775808 ≤ x.kind
  khi : x.kind ≤ 9223372036854775807
  nlo : -9223372036854775808 ≤ x.n
  nhi : x.n ≤ 9223372036854775807

theorem NodeIn.fits {B : Nat} {w : World} {x : VN} {ka ki : Value} (h : NodeIn B w x ka ki) : Fits x :=
  ⟨h.keys.1, h.keys.2.1, h.kids.1, h.kids.2.1, h.size, h.klo, h.khi, h.nlo, h.nhi⟩

theorem NodesAt.fits {B : Nat} {w : World} {v : Value} {vs : List VN} (h : NodesAt B w v vs) : ∀ i, i < vs.length → Fits (nodeAt vs i) := by
  obtain ⟨h1, a, cap, e, h3⟩ := h
  intro i hi
  obtain ⟨b, o, ea, hbB, hc⟩ := h3 (by omega)
  obtain ⟨ka, ki, hn⟩ := hc i hi
  exact hn.inn.fits

theorem bsame {B : Nat} {w w' : World} (h1 : w'.os = w.os) (h2 : w'.tape = w.tape) (h3 : w'.output = w.output) (h4 : w'.heap = w.heap) : Below B w w' :=
  ⟨h1, h2, h3, by rw [h4]; exact Nat.le_refl _, fun k _ => by rw [h4]⟩

theorem hideIt {p : Prop} (h : p) : Hid p := h

theorem ret_int {k : IntKind} {a b : Int} (h : a = b) : Ending.returned (.int k a) = .returned (.int k b) := by rw [h]
theorem ret_bool {a b : Bool} (h : a = b) : Ending.returned (.bool a) = .returned (.bool b) := by rw [h]

end Go.Proofs.Ytpfnkpkcjefelaa

/-
  The nodes of a part of a value: what the program lays one behind the other is the row of nodes from the part's first on, its kids shifted.
-/
namespace Go.Proofs.Ytpfnkpkcjefelaa
set_option linter.unusedSimpArgs false
set_option linter.unusedVariables false

def shiftN (d : Int) (x : VN) : VN := { x with kids := x.kids.map (· + d) }

/-- Nodes a .. a + n - 1, kids shifted by d. -/
def run (vs : List VN) (d : Int) (a n : Nat) : List VN := (List.range' a n).map fun j => shiftN d (nodeAt vs j)

theorem run_length (vs : List VN) (d : Int) (a n : Nat) : (run vs d a n).length = n := by simp [run]
theorem run_append (vs : List VN) (d : Int) (a m n : Nat) : run vs d a m ++ run vs d (a + m) n = run vs d a (m + n) := by
  unfold run
  rw [← List.map_append]
  congr 1
  have := List.range'_append (s := a) (m := m) (n := n) (step := 1)
  simp

/-- The kids l lie one behind the other from lo to hi. -/
def tiles (T : Nat → Option (Nat × Nat)) : List Int → Nat → Nat → Prop
  | [], lo, hi => lo = hi
  | k :: r, lo, hi => ∃ c h : Nat, k = (c : Int) ∧ T c = some (lo, h) ∧ tiles T r (c + 1) hi

theorem tiles_of {T : Nat → Option (Nat × Nat)} : ∀ (l : List Int) (hi h lo h' : Nat), l.reverse.foldl (stepKid T) (some (hi, h)) = some (lo, h') → tiles T l lo hi := by
  intro l
  induction l with
  | nil => intro hi h lo h' e; simp at e; exact e.1.symm
  | cons k r ih =>
    intro hi h lo h' e
    rw [List.reverse_cons, List.foldl_append] at e
    cases hr : r.reverse.foldl (stepKid T) (some (hi, h)) with
    | none => rw [hr] at e; simp [stepKid] at e
    | some q =>
      obtain ⟨b, g⟩ := q
      rw [hr] at e
      obtain ⟨p, h1, h2, h3, h4⟩ := fold_cons_some e
      simp at h4
      refine ⟨b - 1, p.2, by omega, ?_, ?_⟩
      · rw [h3, ← h4.1]
      · rw [show b - 1 + 1 = b by omega]; exact ih hi h b g hr

theorem tiles_le {T : Nat → Option (Nat × Nat)} (hT : ∀ c p, T c = some p → p.1 ≤ c) : ∀ (l : List Int) (lo hi : Nat), tiles T l lo hi → lo ≤ hi := by
  intro l
  induction l with
  | nil => intro lo hi e; exact Nat.le_of_eq e
  | cons k r ih =>
    rintro lo hi ⟨c, h, _, h2, h3⟩
    have := hT c _ h2
    have := ih _ _ h3
    simp at *
    omega

/-- What the program does with the parts: nodes laid so far, and where each part ends. -/
def layKids (F : Nat → Nat → List VN) (sh : Nat) : List Int → List VN → List Int → List VN × List Int
  | [], acc, ks => (acc, ks)
  | k :: r, acc, ks => layKids F sh r (acc ++ F k.toNat (sh + acc.length)) (ks ++ [((sh + (acc ++ F k.toNat (sh + acc.length)).length : Nat) : Int) - 1])

def lay (vs : List VN) : Nat → Nat → Nat → List VN
  | 0, _, _ => []
  | f + 1, i, sh =>
    let p := layKids (lay vs f) sh (nodeAt vs i).kids [] []
    p.1 ++ [{ nodeAt vs i with kids := p.2 }]

theorem layKids_run {vs : List VN} {F : Nat → Nat → List VN} {T : Nat → Option (Nat × Nat)} (hT : ∀ c p, T c = some p → p.1 ≤ c) {sh a : Nat} : ∀ (l : List Int) (lo hi : Nat) (ks : List Int), a ≤ lo → tiles T l lo hi →
    (∀ (c lo h s : Nat), (c : Int) ∈ l → T c = some (lo, h) → F c s = run vs ((s : Int) - lo) lo (c + 1 - lo)) →
    layKids F sh l (run vs ((sh : Int) - a) a (lo - a)) ks = (run vs ((sh : Int) - a) a (hi - a), ks ++ l.map (· + ((sh : Int) - a))) := by
  intro l
  induction l with
  | nil => intro lo hi ks hlo ht hF; obtain rfl : lo = hi := ht; simp [layKids]
  | cons k r ih =>
    rintro lo hi ks hlo ⟨c, h, rfl, h2, h3⟩ hF
    have hc := hT c _ h2
    simp at hc
    have hF1 := hF c lo h (sh + (lo - a)) (by simp) h2
    rw [layKids, run_length, Int.toNat_natCast, hF1]
    rw [show (((sh + (lo - a) : Nat) : Int) - lo) = (sh : Int) - a by omega]
    have hrun : run vs ((sh : Int) - a) a (lo - a) ++ run vs ((sh : Int) - a) lo (c + 1 - lo) = run vs ((sh : Int) - a) a (c + 1 - a) := by
      have := run_append vs ((sh : Int) - a) a (lo - a) (c + 1 - lo)
      rw [show a + (lo - a) = lo by omega, show lo - a + (c + 1 - lo) = c + 1 - a by omega] at this
      exact this
    rw [hrun, run_length, ih (c + 1) hi _ (by omega) h3 (fun c' lo' h' s hm => hF c' lo' h' s (List.mem_cons_of_mem _ hm))]
    rw [show (((sh + (c + 1 - a) : Nat) : Int) - 1) = (c : Int) + ((sh : Int) - a) by omega]
    simp

theorem lay_run (vs : List VN) : ∀ (f i sh a h : Nat), i < f → tr (kidsOf vs) i = some (a, h) → lay vs f i sh = run vs ((sh : Int) - a) a (i + 1 - a) := by
  intro f
  induction f with
  | zero => intro i sh a h hi; omega
  | succ f ih =>
    intro i sh a h hi e
    have hai := tr_le e
    simp at hai
    rw [tr_eq] at e
    cases hf : (kidsOf vs i).reverse.foldl (stepKid (tr (kidsOf vs))) (some (i, 0)) with
    | none => rw [hf] at e; simp at e
    | some q =>
      obtain ⟨a', h'⟩ := q
      rw [hf] at e
      simp at e
      obtain ⟨rfl, _⟩ := e
      have ht := tiles_of _ _ _ _ _ hf
      have hmem : ∀ (l : List Int) (lo hi : Nat), tiles (tr (kidsOf vs)) l lo hi → ∀ c : Nat, (c : Int) ∈ l → c < hi := by
        intro l
        induction l with
        | nil => intro lo hi _ c hc; cases hc
        | cons k r ihr =>
          rintro lo hi ⟨c', h'', rfl, _, h3⟩ c hc
          have hle := tiles_le (fun m p hp => tr_le hp) _ _ _ h3
          rcases List.mem_cons.1 hc with e | e
          · omega
          · exact ihr _ _ h3 c e
      have hl := layKids_run (vs := vs) (F := lay vs f) (fun m p hp => tr_le hp) (sh := sh) (a := a') (kidsOf vs i) a' i [] (Nat.le_refl _) ht (fun c lo g s hm hc => ih c s lo g (by have := hmem _ _ _ ht c hm; omega) hc)
      rw [show a' - a' = 0 by omega] at hl
      have hz : run vs ((sh : Int) - a') a' 0 = [] := rfl
      rw [hz] at hl
      rw [lay]
      show (layKids (lay vs f) sh (kidsOf vs i) [] []).1 ++ [{ nodeAt vs i with kids := (layKids (lay vs f) sh (kidsOf vs i) [] []).2 }] = _
      rw [hl]
      have := run_append vs ((sh : Int) - a') a' (i - a') 1
      rw [show a' + (i - a') = i by omega, show i - a' + 1 = i + 1 - a' by omega] at this
      rw [← this]
      simp [run, shiftN, kidsOf]
end Go.Proofs.Ytpfnkpkcjefelaa

/-
  Turning and swapping ranges of a row, as functions of places. Plain mathematics.
-/
namespace Go.Proofs.Ytpfnkpkcjefelaa
open Go.RowKit
set_option linter.unusedSimpArgs false
set_option linter.unusedVariables false

/-- n cells from a on and from b on change places. -/
def swp (a b n : Nat) (f : Nat → Int) (p : Nat) : Int :=
  if a ≤ p ∧ p < a + n then f (b + (p - a)) else if b ≤ p ∧ p < b + n then f (a + (p - b)) else f p

/-- The cells from m on come ahead of those from a on. -/
def rot (a m b : Nat) (f : Nat → Int) (p : Nat) : Int :=
  if a ≤ p ∧ p < a + (b - m) then f (m + (p - a)) else if a + (b - m) ≤ p ∧ p < b then f (p - (b - m)) else f p

theorem swp_zero (a b : Nat) (f : Nat → Int) (p : Nat) : swp a b 0 f p = f p := by
  unfold swp; rw [if_neg (by omega), if_neg (by omega)]

theorem swp_succ {a b n : Nat} (h : a + (n + 1) ≤ b ∨ b + (n + 1) ≤ a) (f : Nat → Int) (p : Nat) :
    swp a b (n + 1) f p = if p = b + n then swp a b n f (a + n) else if p = a + n then swp a b n f (b + n) else swp a b n f p := by
  by_cases e1 : p = b + n
  · subst e1
    rw [if_pos rfl]
    unfold swp
    rw [if_neg (by omega), if_pos (by omega), if_neg (by omega), if_neg (by omega)]
    congr 1; omega
  rw [if_neg e1]
  by_cases e2 : p = a + n
  · subst e2
    rw [if_pos rfl]
    unfold swp
    rw [if_pos (by omega), if_neg (by omega), if_neg (by omega)]
    congr 1; omega
  rw [if_neg e2]
  unfold swp
  by_cases c1 : a ≤ p ∧ p < a + n
  · rw [if_pos (by omega), if_pos c1]
  · rw [if_neg (by omega), if_neg c1]
    by_cases c2 : b ≤ p ∧ p < b + n
    · rw [if_pos (by omega), if_pos c2]
    · rw [if_neg (by omega), if_neg c2]

theorem f_same {f : Nat → Int} {x y : Nat} (h : x = y) : f x = f y := by rw [h]

theorem rot_more {s i j : Nat} (h : j < i) (hj : 0 < j) (f : Nat → Int) (p : Nat) : rot (s + j) (s + i) (s + i + j) (swp s (s + i) j f) p = rot s (s + i) (s + i + j) f p := by
  simp only [rot, swp]
  repeat' split
  all_goals first | (exact f_same (by omega)) | (exfalso; omega)

theorem rot_less {s i j : Nat} (h : i < j) (h0 : 0 < i) (f : Nat → Int) (p : Nat) : rot s (s + i) (s + j) (swp s (s + j) i f) p = rot s (s + i) (s + i + j) f p := by
  simp only [rot, swp]
  repeat' split
  all_goals first | (exact f_same (by omega)) | (exfalso; omega)

theorem rot_same {s i : Nat} (f : Nat → Int) (p : Nat) : swp s (s + i) i f p = rot s (s + i) (s + i + i) f p := by
  simp only [rot, swp]
  repeat' split
  all_goals first | (exact f_same (by omega)) | (exfalso; omega)
end Go.Proofs.Ytpfnkpkcjefelaa

/-
  A call of one argument, by its contract, as a step of a statement whose order is open.
-/
namespace Go.Proofs.Ytpfnkpkcjefelaa
open Go.RowKit
set_option linter.unusedSimpArgs false
set_option linter.unusedVariables false

theorem step_call1 {P : Program} {w : World} {ops : Array Oper} {o : Oper} {a : Act} {K : Act → World → Prop} {Q : Exit → Act → World → Prop} {E : Prop} (hgd : o.guard = none) (F : FuncId) (x : Operand) (T : TypeId)
    (ho : o.op = .call { callee := .value (.func F), args := #[x], argTypes := #[T] }) (v : Value) (hx : a.eval x = v) (hcf : ∀ w, (callFunc F #[v]).run P w = .ok (.enter F #[v]) w) {R : Ending → World → Prop} (hc : Calls P F #[v] w R)
    (h : ∀ e w', R e w' → ∃ u, e = .returned u ∧ K (a.put o.dst u) w') :
    if Region.wanted o (yielded ops a.tmps) = true then Oper.wp P o a w K Q else E := by
  have hw : Region.wanted o (yielded ops a.tmps) = true := by simp [Region.wanted, hgd]
  rw [if_pos hw]
  unfold Oper.wp execOp
  have e1 : a.eval (.func F) = .func (.func F) #[] #[] := rfl
  simp [ho, resolve, invoke, hx, e1, Deferred.ofValue, hcf, Result.andThen, Oper.upon_enter]
  refine hc.mono fun e w' hr => ?_
  obtain ⟨u, rfl, hk⟩ := h e w' hr
  exact hk
end Go.Proofs.Ytpfnkpkcjefelaa
