import Derived.Lib.Builder
import Derived.WalkKit
import Derived.Laws.IdiomStrings
import Derived.Deep.RegionLaw
import Derived.Deep.AppendLies
import Derived.OrdersIn
import Derived.RangeFuncCalls
import Derived.Lib.ItoaNum
import Derived.Lib.ParseIntBTie
import Derived.BigQuiet
namespace Go.Proofs.YtehihemfepbmfaaGreatDoor
set_option linter.unusedSectionVars false
open Go.RowKit
set_option linter.unusedSimpArgs false
set_option linter.unusedVariables false
def hexS : List UInt8 := [48, 49, 50, 51, 52, 53, 54, 55, 56, 57, 97, 98, 99, 100, 101, 102]
def Xbe (n : Nat) : UInt8 := hexS.getD n 0

theorem Xa {p : Prop} (h : p) : Hid p := h
theorem Xh (s : ByteArray) : s.data.toList.length = s.size := Array.length_toList
def txt (l : List UInt8) : ByteArray := ⟨l.toArray⟩
theorem Z8 (l : List UInt8) : (txt l).size = l.length := by simp [txt, ByteArray.size]
theorem Xae (l m : List UInt8) : txt l ++ txt m = txt (l ++ m) := by
 apply ByteArray.ext; simp [txt]
theorem Qx (s : ByteArray) : txt s.data.toList = s := by
 apply ByteArray.ext; simp [txt]
theorem Yw (l : List UInt8) : (txt l).data.toList = l := by simp [txt]
theorem Xl8 {a b : ByteArray} (h : a = b) : Ending.returned (.string a) = Ending.returned (.string b) := by rw [h]
theorem Xxb {a b : ByteArray} (h : a = b) : Value.string a = Value.string b := by rw [h]
theorem Xue {s : ByteArray} {k : Nat} (h : k < s.size) (h' : k < s.data.toList.length) : s.data.toList[k] = s[k] := by
 simp [ByteArray.getElem_eq_getElem_data]
theorem getK? {s : ByteArray} {k : Nat} (h : k < s.size) : s.data.toList[k]? = some s[k] := by
 rw [List.getElem?_eq_getElem (by rw [Xh]; exact h), Xue h]
theorem Xde {a b : ByteArray} (h : (a.toList == b.toList) = true) : a = b := by
 have h' := eq_of_beq h
 rw [ByteArray.toList_eq, ByteArray.toList_eq] at h'
 rw [← Qx a, ← Qx b, h']
theorem Xl9 (s : ByteArray) (a b : Nat) : s.extract a b = txt ((s.data.toList.drop a).take (b - a)) := by
 conv => lhs; rw [← Qx s]
 exact ByteArray.extract_mk _ _ _
theorem Xu9 {c d : UInt8} (h : ¬ c = d) : ¬ (c.toNat : Int) = (d.toNat : Int) := fun e => h (UInt8.toNat_inj.1 (by omega))
theorem Xdp {x : Int} (h0 : 0 ≤ x) (h1 : x < 256) : IntKind.u8.wrap x = x := by
 simp [IntKind.wrap, show IntKind.u8.bits = 8 from rfl, show IntKind.u8.signed = false from rfl]; omega
theorem Xcg {x : Int} (h0 : -4611686018427387904 ≤ x) (h1 : x < 4611686018427387904) : IntKind.i64.wrap x = x := by
 have e : IntKind.i64.bits = 64 := rfl
 have e2 : IntKind.i64.signed = true := rfl
 simp [IntKind.wrap, e, e2]; omega
theorem Xy7 (c : UInt8) : IntKind.u8.wrap ((c.toNat : Int) / 16) = (c.toNat : Int) / 16 := by
 have := c.toNat_lt; exact Xdp (by omega) (by omega)
theorem Xy8 (c : UInt8) : ((c.toNat : Int)).tmod 16 = (c.toNat : Int) % 16 := Int.tmod_eq_emod_of_nonneg (by omega)
theorem V8 {P : Program} {t : TypeId} (s : ByteArray) (a b : Nat) (h : P.underlying t = some .string) (h1 : a ≤ b) (h2 : b ≤ s.size) (w : World) :
  (Instr.slice t (.string s) (some (.int .i64 (a : Int))) (some (.int .i64 (b : Int))) none).run P w = .ok (.string (txt ((s.data.toList.drop a).take (b - a)))) w := by
 rw [run_slice_string w t s .i64 .i64 (a : Int) (b : Int) h (by omega) (by omega) (by omega), Xl9]
 simp
theorem Xuf {s : ByteArray} {k : Nat} (h : k < s.size) : (s.data.toList.drop k).take (k + 1 - k) = [s[k]] := by
 have h' : k < s.data.toList.length := by rw [Xh]; exact h
 rw [List.drop_eq_getElem_cons h', Xue h]
 have : k + 1 - k = 1 := by omega
 rw [this]; rfl
theorem Xgc {P : Program} {t : TypeId} {s : ByteArray} {k : Nat} (ht : P.underlying t = some .string) (h : k < s.size) {c : UInt8} (hc : s[k] = c) (w : World) :
  (Instr.slice t (.string s) (some (.int .i64 (k : Int))) (some (.int .i64 ((k : Int) + 1))) none).run P w = .ok (.string (txt [c])) w := by
 have := V8 (P := P) (t := t) s k (k + 1) ht (by omega) (by omega) w
 rw [Xuf h, hc] at this
 exact this

def Up (c : UInt8) : List UInt8 :=
 if c = 34 then [92, 34] else if c = 92 then [92, 92] else if c = 8 then [92, 98] else if c = 9 then [92, 116] else if c = 10 then [92, 110] else if c = 12 then [92, 102] else if c = 13 then [92, 114]
 else if c < 32 ∨ c = 127 then [92, 117, 48, 48, Xbe (c.toNat / 16), Xbe (c.toNat % 16)] else [c]
def quo : List UInt8 → List UInt8
 | [] => []
 | c :: l => Up c ++ quo l
def Gr (s : ByteArray) : List UInt8 := 34 :: (quo s.data.toList ++ [34])
theorem Xt9 (c : UInt8) : 1 ≤ (Up c).length ∧ (Up c).length ≤ 6 := by
 unfold Up
 repeat' split
 all_goals simp
theorem Xxa (l m : List UInt8) : quo (l ++ m) = quo l ++ quo m := by
 induction l with
 | nil => rfl
 | cons c l ih => simp [quo, ih]
theorem Xf9 (l : List UInt8) : (quo l).length ≤ 6 * l.length := by
 induction l with
 | nil => simp [quo]
 | cons c l ih => have := Xt9 c; simp [quo]; omega
theorem Xua (l : List UInt8) (k : Nat) (h : k < l.length) : quo (l.take (k + 1)) = quo (l.take k) ++ Up l[k] := by
 rw [List.take_succ_eq_append_getElem h, Xxa]; simp [quo]
theorem Xjt (l : List UInt8) (k : Nat) : (quo (l.take k)).length ≤ 6 * l.length := by
 have := Xf9 (l.take k); have h2 : (l.take k).length ≤ l.length := by rw [List.length_take]; omega
 omega
theorem U1 (s : ByteArray) : 2 ≤ (Gr s).length ∧ (Gr s).length ≤ 6 * s.size + 2 := by
 have h1 : s.data.toList.length = s.size := Array.length_toList
 have h2 := Xf9 s.data.toList
 unfold Gr
 simp only [List.length_cons, List.length_append, List.length_nil]
 omega
def Xju : List UInt8 := [34, 92, 8, 9, 10, 12, 13]
def quoL : List UInt8 := [34, 92, 98, 116, 110, 102, 114]


structure VN where
 kind : Int
 n : Int
 s : ByteArray
 keys : List ByteArray
 kids : List Int
def VN.zero : VN := ⟨0, 0, ByteArray.empty, [], []⟩
def Qa (s : ByteArray) : Bool := decide (s.size ≤ 60) && s.data.toList.all fun c => decide (c.toNat ≤ 127)
def Xaw (a b : ByteArray) : Bool := Op.bytesLess a.toList b.toList
def Xr (l : List ByteArray) (i : Nat) : ByteArray := l.getD i ByteArray.empty
def Qq (l : List ByteArray) (j : Nat) : Bool := Qa (Xr l j) && (decide (j = 0) || Xaw (Xr l (j - 1)) (Xr l j))
def Kf (l : List ByteArray) : Bool := (List.range l.length).all (Qq l)
def Qz (x : VN) : Bool :=
 !(decide (x.kind ≠ 2) && decide (x.kind ≠ 3) && decide (x.n ≠ 0)) && !(decide (x.kind ≠ 4) && decide (x.s.toList ≠ [])) &&
 !(decide (x.kind ≠ 6) && decide (0 < x.keys.length)) && !(decide (x.kind ≠ 5) && decide (x.kind ≠ 6) && decide (0 < x.kids.length))
def Ql (x : VN) : Bool :=
 if x.kind = 1 ∨ x.kind = 5 then true
 else if x.kind = 2 then decide (x.n = 0) || decide (x.n = 1)
 else if x.kind = 3 then decide (-1000000000000000 ≤ x.n) && decide (x.n ≤ 1000000000000000)
 else if x.kind = 4 then Qa x.s
 else if x.kind = 6 then decide (x.keys.length = x.kids.length) && Kf x.keys
 else false
def X8 (x : VN) : Bool := Qz x && Ql x
theorem Xcq (n : Nat) : ((n : Int) == 0) = !decide (0 < n) := by
 cases n with
 | zero => rfl
 | succ n => simp; omega
def Xt (T : Nat → Option (Nat × Nat)) (st : Option (Nat × Nat)) (k : Int) : Option (Nat × Nat) :=
 match st with
 | none => none
 | some (b, h) => if b ≠ 0 ∧ k = (b : Int) - 1 then (T (b - 1)).map (fun p => (p.1, max h p.2)) else none
def tree (K : Nat → List Int) : Nat → Nat → Option (Nat × Nat)
 | 0, _ => none
 | f + 1, n => ((K n).reverse.foldl (Xt (tree K f)) (some (n, 0))).map fun p => (p.1, p.2 + 1)
theorem Gt (T : Nat → Option (Nat × Nat)) (l : List Int) : l.foldl (Xt T) none = none := by
 induction l with
 | nil => rfl
 | cons k l ih => exact ih
theorem Xop {T : Nat → Option (Nat × Nat)} {b h : Nat} {k : Int} {q : Nat × Nat} (e : Xt T (some (b, h)) k = some q) :
  b ≠ 0 ∧ k = (b : Int) - 1 ∧ ∃ p, T (b - 1) = some p ∧ q = (p.1, max h p.2) := by
 unfold Xt at e
 simp only at e
 split at e
 ·rename_i hc
  cases ht : T (b - 1) with
  | none => simp [ht] at e
  | some p => simp [ht] at e; exact ⟨hc.1, hc.2, p, rfl, e.symm⟩
 ·cases e
theorem Qr {T : Nat → Option (Nat × Nat)} {b h : Nat} {k : Int} {l : List Int} {q : Nat × Nat} (e : (k :: l).foldl (Xt T) (some (b, h)) = some q) :
  ∃ p, b ≠ 0 ∧ k = (b : Int) - 1 ∧ T (b - 1) = some p ∧ l.foldl (Xt T) (some (p.1, max h p.2)) = some q := by
 rw [List.foldl_cons] at e
 cases hs : Xt T (some (b, h)) k with
 | none => rw [hs, Gt] at e; cases e
 | some r =>
  obtain ⟨h1, h2, p, h3, rfl⟩ := Xop hs
  exact ⟨p, h1, h2, h3, by rw [hs] at e; exact e⟩
theorem Xvl {T : Nat → Option (Nat × Nat)} (hT : ∀ m p, T m = some p → p.1 ≤ m) : ∀ (l : List Int) (b h : Nat) (q : Nat × Nat), l.foldl (Xt T) (some (b, h)) = some q → q.1 ≤ b := by
 intro l
 induction l with
 | nil => intro b h q e; simp at e; rw [← e]; exact Nat.le_refl _
 | cons k l ih =>
  intro b h q e
  obtain ⟨p, h1, _, h3, h4⟩ := Qr e
  have := ih _ _ _ h4
  have := hT _ _ h3
  omega
theorem Xfq (K : Nat → List Int) : ∀ (f n : Nat) (p : Nat × Nat), tree K f n = some p → p.1 ≤ n := by
 intro f
 induction f with
 | zero => intro n p e; cases e
 | succ f ih =>
  intro n p e
  rw [tree] at e
  cases hf : (K n).reverse.foldl (Xt (tree K f)) (some (n, 0)) with
  | none => simp [hf] at e
  | some q =>
   simp [hf] at e
   have := Xvl ih _ _ _ _ hf
   rw [← e]
   exact this
theorem Xbs {T T' : Nat → Option (Nat × Nat)} (N : Nat) (hT : ∀ m p, T m = some p → p.1 ≤ m) (he : ∀ m, m < N → T m = T' m) : ∀ (l : List Int) (b h : Nat), b ≤ N → l.foldl (Xt T) (some (b, h)) = l.foldl (Xt T') (some (b, h)) := by
 intro l
 induction l with
 | nil => intro b h _; rfl
 | cons k l ih =>
  intro b h hb
  rw [List.foldl_cons, List.foldl_cons]
  by_cases hc : b ≠ 0 ∧ k = (b : Int) - 1
  ·have e1 : T (b - 1) = T' (b - 1) := he _ (by omega)
   cases ht : T (b - 1) with
   | none =>
    rw [show Xt T (some (b, h)) k = none by simp [Xt, hc, ht], show Xt T' (some (b, h)) k = none by simp [Xt, hc, ← e1, ht], Gt, Gt]
   | some p =>
    rw [show Xt T (some (b, h)) k = some (p.1, max h p.2) by simp only [Xt]; rw [if_pos hc, ht]; rfl, show Xt T' (some (b, h)) k = some (p.1, max h p.2) by simp only [Xt]; rw [if_pos hc, ← e1, ht]; rfl]
    have := hT _ _ ht
    exact ih _ _ (by omega)
  ·rw [show Xt T (some (b, h)) k = none by simp only [Xt]; rw [if_neg hc], show Xt T' (some (b, h)) k = none by simp only [Xt]; rw [if_neg hc], Gt, Gt]
theorem Xoq (K : Nat → List Int) : ∀ (N n f g : Nat), n < N → n < f → n < g → tree K f n = tree K g n := by
 intro N
 induction N with
 | zero => intro n f g h; omega
 | succ N ih =>
  intro n f g hN hf hg
  match f, g with
  | 0, _ => omega
  | _ + 1, 0 => omega
  | f + 1, g + 1 =>
   rw [tree, tree]
   rw [Xbs n (Xfq K f) (fun m hm => ih m f g (by omega) (by omega) (by omega)) _ _ _ (Nat.le_refl _)]
def tr (K : Nat → List Int) (n : Nat) : Option (Nat × Nat) := tree K (n + 1) n
theorem Gj {K : Nat → List Int} {n : Nat} {p : Nat × Nat} (h : tr K n = some p) : p.1 ≤ n := Xfq K _ _ _ h
theorem Ua (K : Nat → List Int) (n : Nat) : tr K n = ((K n).reverse.foldl (Xt (tr K)) (some (n, 0))).map fun p => (p.1, p.2 + 1) := by
 rw [tr, tree]
 rw [Xbs n (Xfq K n) (fun m hm => Xoq K (n + 1) m n (m + 1) (by omega) (by omega) (by omega)) _ _ _ (Nat.le_refl _)]
 rfl
theorem Xor {T : Nat → Option (Nat × Nat)} (hT : ∀ m p, T m = some p → p.1 ≤ m ∧ p.2 ≤ m + 1) : ∀ (l : List Int) (b h : Nat) (q : Nat × Nat) (N : Nat), b ≤ N → h ≤ N → l.foldl (Xt T) (some (b, h)) = some q → q.2 ≤ N := by
 intro l
 induction l with
 | nil => intro b h q N hb hh e; simp at e; rw [← e]; exact hh
 | cons k l ih =>
  intro b h q N hb hh e
  obtain ⟨p, h1, _, h3, h4⟩ := Qr e
  have := hT _ _ h3
  exact ih _ _ _ N (by omega) (by omega) h4
theorem Xfr {K : Nat → List Int} : ∀ (n : Nat) (p : Nat × Nat), tr K n = some p → p.1 ≤ n ∧ p.2 ≤ n + 1 := by
 intro n
 induction n using Nat.strongRecOn with
 | ind n ih =>
  intro p e
  refine ⟨Gj e, ?_⟩
  rw [Ua] at e
  have hx : (K n).reverse.foldl (Xt (tr K)) (some (n, 0)) = (K n).reverse.foldl (Xt fun m => if m < n then tr K m else none) (some (n, 0)) :=
   Xbs n (fun m p hp => Gj hp) (fun m hm => by rw [if_pos hm]) _ _ _ (Nat.le_refl _)
  rw [hx] at e
  cases hf : (K n).reverse.foldl (Xt fun m => if m < n then tr K m else none) (some (n, 0)) with
  | none => simp [hf] at e
  | some q =>
   rw [hf] at e
   simp at e
   have := Xor (T := fun m => if m < n then tr K m else none) (fun m p hp => by
    by_cases hm : m < n
    ·simp only [if_pos hm] at hp; exact ih m hm p hp
    ·simp only [if_neg hm] at hp; cases hp) _ _ _ _ n (Nat.le_refl _) (Nat.zero_le _) hf
   rw [← e]
   simp only
   omega
theorem Xos {T : Nat → Option (Nat × Nat)} (hT : ∀ m p, T m = some p → p.1 ≤ m) : ∀ (l : List Int) (b h : Nat) (q : Nat × Nat), l.foldl (Xt T) (some (b, h)) = some q → ∀ m, q.1 ≤ m → m < b → ∃ c p, T c = some p ∧ c < b ∧ p.1 ≤ m ∧ m ≤ c := by
 intro l
 induction l with
 | nil => intro b h q e m h1 h2; simp at e; rw [← e] at h1; simp only at h1; omega
 | cons k l ih =>
  intro b h q e m h1 h2
  obtain ⟨p, g1, _, g3, g4⟩ := Qr e
  by_cases hm : p.1 ≤ m
  ·exact ⟨b - 1, p, g3, by omega, hm, by omega⟩
  ·obtain ⟨c, p', e1, e2, e3, e4⟩ := ih _ _ _ g4 m h1 (by omega)
   have := hT _ _ g3
   exact ⟨c, p', e1, by omega, e3, e4⟩
theorem Xlg {K : Nat → List Int} : ∀ (n : Nat) (p : Nat × Nat), tr K n = some p → ∀ m, p.1 ≤ m → m ≤ n → ∃ q, tr K m = some q := by
 intro n
 induction n using Nat.strongRecOn with
 | ind n ih =>
  intro p e m h1 h2
  by_cases hm : m = n
  ·exact ⟨p, hm ▸ e⟩
  rw [Ua] at e
  cases hf : (K n).reverse.foldl (Xt (tr K)) (some (n, 0)) with
  | none => simp [hf] at e
  | some q =>
   rw [hf] at e
   simp at e
   rw [← e] at h1
   obtain ⟨c, p', e1, e2, e3, e4⟩ := Xos (fun m p hp => Gj hp) _ _ _ _ hf m h1 (by omega)
   exact ih c e2 p' e1 m e3 e4
theorem Xot {T : Nat → Option (Nat × Nat)} (hT : ∀ m p, T m = some p → p.1 ≤ m) : ∀ (l : List Int) (b h : Nat) (q : Nat × Nat), l.foldl (Xt T) (some (b, h)) = some q → ∀ k ∈ l, 0 ≤ k ∧ k ≤ (b : Int) - 1 := by
 intro l
 induction l with
 | nil => intro b h q e k hk; cases hk
 | cons x l ih =>
  intro b h q e k hk
  obtain ⟨p, g1, g2, g3, g4⟩ := Qr e
  have := hT _ _ g3
  rcases List.mem_cons.1 hk with rfl | hk
  ·omega
  ·have := ih _ _ _ g4 k hk
   omega
theorem Xfs {K : Nat → List Int} {n : Nat} {p : Nat × Nat} (e : tr K n = some p) : ∀ k ∈ K n, 0 ≤ k ∧ k ≤ (n : Int) - 1 := by
 rw [Ua] at e
 cases hf : (K n).reverse.foldl (Xt (tr K)) (some (n, 0)) with
 | none => simp [hf] at e
 | some q => exact fun k hk => Xot (fun m p hp => Gj hp) _ _ _ _ hf k (by simpa using hk)
def Xc (vs : List VN) (i : Nat) : VN := vs.getD i VN.zero
def Yu (vs : List VN) (i : Nat) : List Int := (Xc vs i).kids
def Qs (vs : List VN) (i : Nat) : Bool := (Yu vs i).all fun k => decide (0 ≤ k) && decide (k ≤ (i : Int) - 1)
def Ub (vs : List VN) : Bool := match tr (Yu vs) (vs.length - 1) with
 | some p => decide (p.1 = 0) && decide (p.2 ≤ 8)
 | none => false
def Xax (vs : List VN) : Bool := decide (1 ≤ vs.length) && decide (vs.length ≤ 80)
def okB (vs : List VN) : Bool := Xax vs && ((List.range vs.length).all fun i => X8 (Xc vs i) && Qs vs i) && Ub vs
def Xft (vs : List VN) : Bool := Xax vs && ((List.range vs.length).all fun i => X8 (Xc vs i)) && (((List.range vs.length).all fun i => (tr (Yu vs) i).isSome) && Ub vs)
theorem Xou (vs : List VN) : Xft vs = okB vs := by
 rw [Bool.eq_iff_iff]
 unfold Xft okB
 simp only [Bool.and_eq_true, List.all_eq_true, List.mem_range]
 constructor
 ·rintro ⟨⟨h1, h2⟩, h3, h4⟩
  refine ⟨⟨h1, fun i hi => ⟨h2 i hi, ?_⟩⟩, h4⟩
  obtain ⟨p, hp⟩ := Option.isSome_iff_exists.1 (h3 i hi)
  unfold Qs
  simp only [List.all_eq_true, Bool.and_eq_true, decide_eq_true_eq]
  exact Xfs hp
 ·rintro ⟨⟨h1, h2⟩, h3⟩
  refine ⟨⟨h1, fun i hi => (h2 i hi).1⟩, fun i hi => ?_, h3⟩
  unfold Ub at h3
  cases hr : tr (Yu vs) (vs.length - 1) with
  | none => rw [hr] at h3; cases h3
  | some p =>
   rw [hr] at h3
   simp at h3
   obtain ⟨q, hq⟩ := Xlg _ _ hr i (by omega) (by omega)
   rw [hq]
   rfl

def Xk (l : List Int) (i : Nat) : Int := l.getD i 0
def IntsAt (B : Nat) (w : World) (v : Value) (l : List Int) : Prop :=
 l.length ≤ 17592186044416 ∧ (∀ i, i < l.length → -9223372036854775808 ≤ Xk l i ∧ Xk l i ≤ 9223372036854775807) ∧
 ∃ a cap, v = .slice a l.length cap ∧ (0 < l.length → ∃ b o, a = some ⟨b, o, none⟩ ∧ b < B ∧ ∀ i, i < l.length → w.cell? ⟨b, o + i, none⟩ = some (.int .i64 (Xk l i)))
def StrsAt (B : Nat) (w : World) (v : Value) (l : List ByteArray) : Prop :=
 l.length ≤ 8796093022208 ∧ (∀ i, i < l.length → (Xr l i).size ≤ 140737488355328) ∧
 ∃ a cap, v = .slice a l.length cap ∧ (0 < l.length → ∃ b o, a = some ⟨b, o, none⟩ ∧ b < B ∧ ∀ i, i < l.length → w.cell? ⟨b, o + i, none⟩ = some (.string (Xr l i)))
structure NodeIn (B : Nat) (w : World) (x : VN) (ka ki : Value) : Prop where
 keys : StrsAt B w ka x.keys
 kids : IntsAt B w ki x.kids
 size : x.s.size ≤ 140737488355328
 klo : -9223372036854775808 ≤ x.kind
 khi : x.kind ≤ 9223372036854775807
 nlo : -9223372036854775808 ≤ x.n
 nhi : x.n ≤ 9223372036854775807
structure NodeAt (B : Nat) (w : World) (b o : Nat) (x : VN) (ka ki : Value) : Prop where
 c0 : w.cell? ⟨b, o, none⟩ = some (.int .i64 x.kind)
 c1 : w.cell? ⟨b, o + 1, none⟩ = some (.int .i64 x.n)
 c2 : w.cell? ⟨b, o + 2, none⟩ = some (.string x.s)
 c3 : w.cell? ⟨b, o + 3, none⟩ = some ka
 c4 : w.cell? ⟨b, o + 4, none⟩ = some ki
 inn : NodeIn B w x ka ki
def NodesAt (B : Nat) (w : World) (v : Value) (vs : List VN) : Prop :=
 vs.length ≤ 1759218604416 ∧ ∃ a cap, v = .slice a vs.length cap ∧ (0 < vs.length → ∃ b o, a = some ⟨b, o, none⟩ ∧ b < B ∧ ∀ i, i < vs.length → ∃ ka ki, NodeAt B w b (o + i * 5) (Xc vs i) ka ki)
theorem Xi {B : Nat} {w w' : World} (h : Below B w w') {b o : Nat} (hb : b < B) : w'.cell? ⟨b, o, none⟩ = w.cell? ⟨b, o, none⟩ := h.cell (p := ⟨b, o, none⟩) hb
theorem IntsAt.below {B : Nat} {w w' : World} {v : Value} {l : List Int} (h : IntsAt B w v l) (hb : Below B w w') : IntsAt B w' v l := by
 obtain ⟨h1, h2, a, cap, e, h3⟩ := h
 refine ⟨h1, h2, a, cap, e, fun hl => ?_⟩
 obtain ⟨b, o, ea, hbB, hc⟩ := h3 hl
 exact ⟨b, o, ea, hbB, fun i hi => (Xi hb hbB).trans (hc i hi)⟩
theorem StrsAt.below {B : Nat} {w w' : World} {v : Value} {l : List ByteArray} (h : StrsAt B w v l) (hb : Below B w w') : StrsAt B w' v l := by
 obtain ⟨h1, h2, a, cap, e, h3⟩ := h
 refine ⟨h1, h2, a, cap, e, fun hl => ?_⟩
 obtain ⟨b, o, ea, hbB, hc⟩ := h3 hl
 exact ⟨b, o, ea, hbB, fun i hi => (Xi hb hbB).trans (hc i hi)⟩
theorem NodeIn.below {B : Nat} {w w' : World} {x : VN} {ka ki : Value} (h : NodeIn B w x ka ki) (hb : Below B w w') : NodeIn B w' x ka ki :=
 { h with keys := h.keys.below hb, kids := h.kids.below hb }
theorem NodeAt.below {B : Nat} {w w' : World} {b o : Nat} {x : VN} {ka ki : Value} (h : NodeAt B w b o x ka ki) (hb : Below B w w') (hB : b < B) : NodeAt B w' b o x ka ki :=
 ⟨(Xi hb hB).trans h.c0, (Xi hb hB).trans h.c1, (Xi hb hB).trans h.c2, (Xi hb hB).trans h.c3, (Xi hb hB).trans h.c4, h.inn.below hb⟩
theorem NodesAt.below {B : Nat} {w w' : World} {v : Value} {vs : List VN} (h : NodesAt B w v vs) (hb : Below B w w') : NodesAt B w' v vs := by
 obtain ⟨h1, a, cap, e, h3⟩ := h
 refine ⟨h1, a, cap, e, fun hl => ?_⟩
 obtain ⟨b, o, ea, hbB, hc⟩ := h3 hl
 refine ⟨b, o, ea, hbB, fun i hi => ?_⟩
 obtain ⟨ka, ki, hn⟩ := hc i hi
 exact ⟨ka, ki, hn.below hb hbB⟩
theorem IntsAt.wide {B B' : Nat} {w : World} {v : Value} {l : List Int} (h : IntsAt B w v l) (hb : B ≤ B') : IntsAt B' w v l := by
 obtain ⟨h1, h2, a, cap, e, h3⟩ := h
 refine ⟨h1, h2, a, cap, e, fun hl => ?_⟩
 obtain ⟨b, o, ea, hbB, hc⟩ := h3 hl
 exact ⟨b, o, ea, by omega, hc⟩
theorem StrsAt.wide {B B' : Nat} {w : World} {v : Value} {l : List ByteArray} (h : StrsAt B w v l) (hb : B ≤ B') : StrsAt B' w v l := by
 obtain ⟨h1, h2, a, cap, e, h3⟩ := h
 refine ⟨h1, h2, a, cap, e, fun hl => ?_⟩
 obtain ⟨b, o, ea, hbB, hc⟩ := h3 hl
 exact ⟨b, o, ea, by omega, hc⟩
theorem NodeIn.wide {B B' : Nat} {w : World} {x : VN} {ka ki : Value} (h : NodeIn B w x ka ki) (hb : B ≤ B') : NodeIn B' w x ka ki :=
 { h with keys := h.keys.wide hb, kids := h.kids.wide hb }
theorem NodeAt.wide {B B' : Nat} {w : World} {b o : Nat} {x : VN} {ka ki : Value} (h : NodeAt B w b o x ka ki) (hb : B ≤ B') : NodeAt B' w b o x ka ki :=
 ⟨h.c0, h.c1, h.c2, h.c3, h.c4, h.inn.wide hb⟩
theorem NodesAt.wide {B B' : Nat} {w : World} {v : Value} {vs : List VN} (h : NodesAt B w v vs) (hb : B ≤ B') : NodesAt B' w v vs := by
 obtain ⟨h1, a, cap, e, h3⟩ := h
 refine ⟨h1, a, cap, e, fun hl => ?_⟩
 obtain ⟨b, o, ea, hbB, hc⟩ := h3 hl
 refine ⟨b, o, ea, by omega, fun i hi => ?_⟩
 obtain ⟨ka, ki, hn⟩ := hc i hi
 exact ⟨ka, ki, hn.wide hb⟩
structure Fits (x : VN) : Prop where
 keysN : x.keys.length ≤ 8796093022208
 keysS : ∀ i, i < x.keys.length → (Xr x.keys i).size ≤ 140737488355328
 kidsN : x.kids.length ≤ 17592186044416
 kidsB : ∀ i, i < x.kids.length → -9223372036854775808 ≤ Xk x.kids i ∧ Xk x.kids i ≤ 9223372036854775807
 size : x.s.size ≤ 140737488355328
 klo : -9223372036854775808 ≤ x.kind
 khi : x.kind ≤ 9223372036854775807
 nlo : -9223372036854775808 ≤ x.n
 nhi : x.n ≤ 9223372036854775807
theorem Xb {p : Prop} (h : p) : Hid p := h
theorem Xf {a b : Bool} (h : a = b) : Ending.returned (.bool a) = .returned (.bool b) := by rw [h]

def Xrl (d : Int) (x : VN) : VN := { x with kids := x.kids.map (· + d) }
def run (vs : List VN) (d : Int) (a n : Nat) : List VN := (List.range' a n).map fun j => Xrl d (Xc vs j)
theorem Xch (vs : List VN) (d : Int) (a n : Nat) : (run vs d a n).length = n := by simp [run]
theorem Xfk (vs : List VN) (d : Int) (a m n : Nat) : run vs d a m ++ run vs d (a + m) n = run vs d a (m + n) := by
 unfold run
 rw [← List.map_append]
 congr 1
 have := List.range'_append (s := a) (m := m) (n := n) (step := 1)
 simp
def Xfl (T : Nat → Option (Nat × Nat)) : List Int → Nat → Nat → Prop
 | [], lo, hi => lo = hi
 | k :: r, lo, hi => ∃ c h : Nat, k = (c : Int) ∧ T c = some (lo, h) ∧ Xfl T r (c + 1) hi
theorem Xuh {T : Nat → Option (Nat × Nat)} : ∀ (l : List Int) (hi h lo h' : Nat), l.reverse.foldl (Xt T) (some (hi, h)) = some (lo, h') → Xfl T l lo hi := by
 intro l
 induction l with
 | nil => intro hi h lo h' e; simp at e; exact e.1.symm
 | cons k r ih =>
  intro hi h lo h' e
  rw [List.reverse_cons, List.foldl_append] at e
  cases hr : r.reverse.foldl (Xt T) (some (hi, h)) with
  | none => rw [hr] at e; simp [Xt] at e
  | some q =>
   obtain ⟨b, g⟩ := q
   rw [hr] at e
   obtain ⟨p, h1, h2, h3, h4⟩ := Qr e
   simp at h4
   refine ⟨b - 1, p.2, by omega, ?_, ?_⟩
   ·rw [h3, ← h4.1]
   ·rw [show b - 1 + 1 = b by omega]; exact ih hi h b g hr
theorem Xui {T : Nat → Option (Nat × Nat)} (hT : ∀ c p, T c = some p → p.1 ≤ c) : ∀ (l : List Int) (lo hi : Nat), Xfl T l lo hi → lo ≤ hi := by
 intro l
 induction l with
 | nil => intro lo hi e; exact Nat.le_of_eq e
 | cons k r ih =>
  rintro lo hi ⟨c, h, _, h2, h3⟩
  have := hT c _ h2
  have := ih _ _ h3
  simp at *
  omega
def Ga (F : Nat → Nat → List VN) (sh : Nat) : List Int → List VN → List Int → List VN × List Int
 | [], acc, ks => (acc, ks)
 | k :: r, acc, ks => Ga F sh r (acc ++ F k.toNat (sh + acc.length)) (ks ++ [((sh + (acc ++ F k.toNat (sh + acc.length)).length : Nat) : Int) - 1])
def lay (vs : List VN) : Nat → Nat → Nat → List VN
 | 0, _, _ => []
 | f + 1, i, sh =>
  let p := Ga (lay vs f) sh (Xc vs i).kids [] []
  p.1 ++ [{ Xc vs i with kids := p.2 }]
theorem Xle {vs : List VN} {F : Nat → Nat → List VN} {T : Nat → Option (Nat × Nat)} (hT : ∀ c p, T c = some p → p.1 ≤ c) {sh a : Nat} : ∀ (l : List Int) (lo hi : Nat) (ks : List Int), a ≤ lo → Xfl T l lo hi →
  (∀ (c lo h s : Nat), (c : Int) ∈ l → T c = some (lo, h) → F c s = run vs ((s : Int) - lo) lo (c + 1 - lo)) →
  Ga F sh l (run vs ((sh : Int) - a) a (lo - a)) ks = (run vs ((sh : Int) - a) a (hi - a), ks ++ l.map (· + ((sh : Int) - a))) := by
 intro l
 induction l with
 | nil => intro lo hi ks hlo ht hF; obtain rfl : lo = hi := ht; simp [Ga]
 | cons k r ih =>
  rintro lo hi ks hlo ⟨c, h, rfl, h2, h3⟩ hF
  have hc := hT c _ h2
  simp at hc
  have hF1 := hF c lo h (sh + (lo - a)) (by simp) h2
  rw [Ga, Xch, Int.toNat_natCast, hF1]
  rw [show (((sh + (lo - a) : Nat) : Int) - lo) = (sh : Int) - a by omega]
  have hrun : run vs ((sh : Int) - a) a (lo - a) ++ run vs ((sh : Int) - a) lo (c + 1 - lo) = run vs ((sh : Int) - a) a (c + 1 - a) := by
   have := Xfk vs ((sh : Int) - a) a (lo - a) (c + 1 - lo)
   rw [show a + (lo - a) = lo by omega, show lo - a + (c + 1 - lo) = c + 1 - a by omega] at this
   exact this
  rw [hrun, Xch, ih (c + 1) hi _ (by omega) h3 (fun c' lo' h' s hm => hF c' lo' h' s (List.mem_cons_of_mem _ hm))]
  rw [show (((sh + (c + 1 - a) : Nat) : Int) - 1) = (c : Int) + ((sh : Int) - a) by omega]
  simp
theorem Xxd (vs : List VN) : ∀ (f i sh a h : Nat), i < f → tr (Yu vs) i = some (a, h) → lay vs f i sh = run vs ((sh : Int) - a) a (i + 1 - a) := by
 intro f
 induction f with
 | zero => intro i sh a h hi; omega
 | succ f ih =>
  intro i sh a h hi e
  have hai := Gj e
  simp at hai
  rw [Ua] at e
  cases hf : (Yu vs i).reverse.foldl (Xt (tr (Yu vs))) (some (i, 0)) with
  | none => rw [hf] at e; simp at e
  | some q =>
   obtain ⟨a', h'⟩ := q
   rw [hf] at e
   simp at e
   obtain ⟨rfl, _⟩ := e
   have ht := Xuh _ _ _ _ _ hf
   have hmem : ∀ (l : List Int) (lo hi : Nat), Xfl (tr (Yu vs)) l lo hi → ∀ c : Nat, (c : Int) ∈ l → c < hi := by
    intro l
    induction l with
    | nil => intro lo hi _ c hc; cases hc
    | cons k r ihr =>
     rintro lo hi ⟨c', h'', rfl, _, h3⟩ c hc
     have hle := Xui (fun m p hp => Gj hp) _ _ _ h3
     rcases List.mem_cons.1 hc with e | e
     ·omega
     ·exact ihr _ _ h3 c e
   have hl := Xle (vs := vs) (F := lay vs f) (fun m p hp => Gj hp) (sh := sh) (a := a') (Yu vs i) a' i [] (Nat.le_refl _) ht (fun c lo g s hm hc => ih c s lo g (by have := hmem _ _ _ ht c hm; omega) hc)
   rw [show a' - a' = 0 by omega] at hl
   have hz : run vs ((sh : Int) - a') a' 0 = [] := rfl
   rw [hz] at hl
   rw [lay]
   show (Ga (lay vs f) sh (Yu vs i) [] []).1 ++ [{ Xc vs i with kids := (Ga (lay vs f) sh (Yu vs i) [] []).2 }] = _
   rw [hl]
   have := Xfk vs ((sh : Int) - a') a' (i - a') 1
   rw [show a' + (i - a') = i by omega, show i - a' + 1 = i + 1 - a' by omega] at this
   rw [← this]
   simp [run, Xrl, Yu]


theorem Jh {P : Program} {w : World} {ops : Array Oper} {o : Oper} {a : Act} {K : Act → World → Prop} {Q : Exit → Act → World → Prop} {E : Prop} (hgd : o.guard = none) (F : FuncId) (x y : Operand) (T U : TypeId)
  (ho : o.op = .call { callee := .value (.func F), args := #[x, y], argTypes := #[T, U] }) (v u : Value) (hx : a.eval x = v) (hy : a.eval y = u) (hcf : ∀ w, (callFunc F #[v, u]).run P w = .ok (.enter F #[v, u]) w) {R : Ending → World → Prop} (hc : Calls P F #[v, u] w R)
  (h : ∀ e w', R e w' → ∃ u, e = .returned u ∧ K (a.put o.dst u) w') :
  if Region.wanted o (yielded ops a.tmps) = true then Oper.wp P o a w K Q else E := by
 have hw : Region.wanted o (yielded ops a.tmps) = true := by simp [Region.wanted, hgd]
 rw [if_pos hw]
 unfold Oper.wp execOp
 have e1 : a.eval (.func F) = .func (.func F) #[] #[] := rfl
 simp [ho, resolve, invoke, hx, hy, e1, Deferred.ofValue, hcf, Result.andThen, Oper.upon_enter]
 refine hc.mono fun e w' hr => ?_
 obtain ⟨u, rfl, hk⟩ := h e w' hr
 exact hk
theorem Xdv {P : Program} {w : World} {ops : Array Oper} {o : Oper} {a : Act} {K : Act → World → Prop} {Q : Exit → Act → World → Prop} {E : Prop} (hgd : o.guard = none) (F : FuncId) (x y : Operand) (T U : TypeId)
  (ho : o.op = .call { callee := .value (.func F), args := #[x, y], argTypes := #[T, U] }) (v u : Value) (hx : a.eval x = v) (hy : a.eval y = u) (hcf : ∀ w, (callFunc F #[v, u]).run P w = .ok (.enter F #[v, u]) w) {R : Ending → World → Prop} (hc : Calls P F #[v, u] w R)
  (h : ∀ e w', R e w' → (∃ u, e = .returned u ∧ K (a.put o.dst u) w') ∨ ∃ c, e = .panicked c ∧ Q (.panic c) a w') :
  if Region.wanted o (yielded ops a.tmps) = true then Oper.wp P o a w K Q else E := by
 have hw : Region.wanted o (yielded ops a.tmps) = true := by simp [Region.wanted, hgd]
 rw [if_pos hw]
 unfold Oper.wp execOp
 have e1 : a.eval (.func F) = .func (.func F) #[] #[] := rfl
 simp [ho, resolve, invoke, hx, hy, e1, Deferred.ofValue, hcf, Result.andThen, Oper.upon_enter]
 refine hc.mono fun e w' hr => ?_
 rcases h e w' hr with ⟨u, rfl, hk⟩ | ⟨c, rfl, hk⟩
 ·exact hk
 ·exact hk

theorem Wu {P : Program} {w : World} {ops : Array Oper} {o : Oper} {a : Act} {K : Act → World → Prop} {Q : Exit → Act → World → Prop} {E : Prop} (hgd : o.guard = none) (F : FuncId) (x : Operand) (T : TypeId)
  (ho : o.op = .call { callee := .value (.func F), args := #[x], argTypes := #[T] }) (v : Value) (hx : a.eval x = v) (hcf : ∀ w, (callFunc F #[v]).run P w = .ok (.enter F #[v]) w) {R : Ending → World → Prop} (hc : Calls P F #[v] w R)
  (h : ∀ e w', R e w' → ∃ u, e = .returned u ∧ K (a.put o.dst u) w') :
  if Region.wanted o (yielded ops a.tmps) = true then Oper.wp P o a w K Q else E := by
 have hw : Region.wanted o (yielded ops a.tmps) = true := by simp [Region.wanted, hgd]
 rw [if_pos hw]
 unfold Oper.wp execOp
 have e1 : a.eval (.func F) = .func (.func F) #[] #[] := rfl
 simp [ho, resolve, invoke, hx, e1, Deferred.ofValue, hcf, Result.andThen, Oper.upon_enter]
 refine hc.mono fun e w' hr => ?_
 obtain ⟨u, rfl, hk⟩ := h e w' hr
 exact hk

theorem Xcr {ops : Array Oper} {L : Array Bool} {i : Nat} (h : i ∈ Region.ready .any ops L) :
  i < ops.size ∧ L.getD i true = false ∧ ∀ o, ops[i]? = some o → ∀ e ∈ o.after, Region.binds .any e = true → L.getD e.on false = true := by
 unfold Region.ready at h
 rw [List.mem_filter, List.mem_range] at h
 obtain ⟨h1, h2⟩ := h
 rw [Bool.and_eq_true] at h2
 obtain ⟨h2, h3⟩ := h2
 refine ⟨h1, by simpa using h2, fun o ho e he hb => ?_⟩
 rw [ho] at h3
 simp only [Option.map_some, Option.getD_some, Array.all_eq_true_iff_forall_mem] at h3
 have := h3 e he
 rw [hb] at this
 simpa using this
theorem Xcs {ops : Array Oper} {L : Array Bool} {i : Nat} {o : Oper} (h1 : L.getD i true = false) (ho : ops[i]? = some o) (h : ∀ e ∈ o.after, L.getD e.on false = true) : i ∈ Region.ready .any ops L := by
 unfold Region.ready
 rw [List.mem_filter, List.mem_range]
 refine ⟨(Array.getElem?_eq_some_iff.1 ho).1, ?_⟩
 rw [Bool.and_eq_true, ho]
 refine ⟨by simp [h1], ?_⟩
 simp only [Option.map_some, Option.getD_some, Array.all_eq_true_iff_forall_mem]
 intro e he
 simp [h e he]
def Jw (s0 N : Nat) (val : Nat → Value) (L : Array Bool) (a : Act) : Act :=
 { a with tmps := a.tmps.mapIdx fun t v => if s0 ≤ t ∧ t < s0 + N ∧ L.getD (t - s0) false = true then val (t - s0) else v }
theorem Xr7 {s0 N : Nat} {val : Nat → Value} {L : Array Bool} {a : Act} {i : Nat} (hi : i < N) (hL : i < L.size) :
  (Jw s0 N val L a).put (some (s0 + i)) (val i) = Jw s0 N val (L.setIfInBounds i true) a := by
 unfold Jw Act.put
 simp only [Act.mk.injEq, and_true]
 apply Array.ext_getElem?
 intro t
 rw [Array.getElem?_setIfInBounds]
 by_cases e : s0 + i = t
 ·subst e
  by_cases hb : s0 + i < a.tmps.size
  ·simp [hb, hi, Array.getD, hL]
  ·simp [hb]
 ·rw [if_neg e]
  simp only [Array.getElem?_mapIdx]
  congr 1
  funext v
  by_cases h : s0 ≤ t ∧ t < s0 + N
  ·have : (L.setIfInBounds i true).getD (t - s0) false = L.getD (t - s0) false := by
    simp only [Array.getD_eq_getD_getElem?, Array.getElem?_setIfInBounds]
    rw [if_neg (by omega)]
   simp only [this]
  ·rw [if_neg (by omega), if_neg (by omega)]
theorem Xlm {s0 N : Nat} {val : Nat → Value} {L : Array Bool} {a : Act} {t : Nat} (h1 : s0 ≤ t) (h2 : t < s0 + N) (h3 : t < a.tmps.size) (hl : L.getD (t - s0) false = true) :
  (Jw s0 N val L a).eval (.tmp t) = val (t - s0) := by
 simp only [Jw, Act.eval, Array.getD_eq_getD_getElem?, Array.getElem?_mapIdx]
 rw [Array.getElem?_eq_getElem h3]
 simp only [Option.map_some, Option.getD_some]
 rw [if_pos ⟨h1, h2, by simpa [Array.getD_eq_getD_getElem?] using hl⟩]
theorem Xh8 {s0 N : Nat} {val : Nat → Value} {L : Array Bool} {a : Act} {t : Nat} (h : t < s0) : (Jw s0 N val L a).eval (.tmp t) = a.eval (.tmp t) := by
 simp only [Jw, Act.eval, Array.getD_eq_getD_getElem?, Array.getElem?_mapIdx]
 congr 1
 cases a.tmps[t]? with
 | none => rfl
 | some v => simp only [Option.map_some]; rw [if_neg (by omega)]
theorem Xo4 {s0 N : Nat} {val : Nat → Value} {L : Array Bool} {a : Act} (h : ∀ j, j < N → L.getD j false = false) : Jw s0 N val L a = a := by
 unfold Jw
 cases a with
 | mk tmps defers =>
  simp only [Act.mk.injEq, and_true]
  apply Array.ext_getElem?
  intro t
  rw [Array.getElem?_mapIdx]
  cases tmps[t]? with
  | none => rfl
  | some v =>
   simp only [Option.map_some]
   by_cases g : s0 ≤ t ∧ t < s0 + N
   ·rw [if_neg (fun e => by rw [h _ (by omega)] at e; cases e.2.2)]
   ·rw [if_neg (fun e => g ⟨e.1, e.2.1⟩)]
def left (N : Nat) (L : Array Bool) : Nat := ((List.range N).filter fun i => !L.getD i false).length
theorem Xvt {N i : Nat} {L : Array Bool} (hi : i < N) (hL : i < L.size) (h : L.getD i false = false) : left N (L.setIfInBounds i true) < left N L := by
 unfold left
 have e : (List.range N).filter (fun j => !(L.setIfInBounds i true).getD j false) = ((List.range N).filter fun j => !L.getD j false).filter (fun j => decide (j ≠ i)) := by
  rw [List.filter_filter]
  apply List.filter_congr
  intro j _
  simp only [Array.getD_eq_getD_getElem?, Array.getElem?_setIfInBounds]
  by_cases e : i = j
  ·subst e; simp [hL]
  ·rw [if_neg e]
   have : decide (j ≠ i) = true := by simp; omega
   rw [this, Bool.true_and]
 rw [e]
 apply List.length_filter_lt_length_iff_exists.2
 exact ⟨i, by rw [List.mem_filter]; exact ⟨List.mem_range.2 hi, by simp [h]⟩, by simp⟩
theorem J5 {L : Array Bool} {i : Nat} (h : i < L.size) : L.getD i true = L.getD i false := by simp [Array.getD, h]
theorem least {N : Nat} {L : Array Bool} : ∀ m, m ≤ N → (∀ j, j < m → L.getD j false = true) ∨ ∃ i, i < m ∧ L.getD i false = false ∧ ∀ j, j < i → L.getD j false = true := by
 intro m
 induction m with
 | zero => intro _; left; intro j h; omega
 | succ m ih =>
  intro hm
  rcases ih (by omega) with h | ⟨i, h1, h2, h3⟩
  ·cases hl : L.getD m false with
   | true => left; intro j hj; by_cases e : j = m
             ·subst e; exact hl
             ·exact h j (by omega)
   | false => right; exact ⟨m, by omega, hl, h⟩
  ·right; exact ⟨i, by omega, h2, h3⟩
theorem phase {F : Fence} {n : Nat} {P : Program} {ops : Array Oper} {Q : Exit → Act → World → Prop} {s0 N : Nat} {val : Nat → Value} {a : Act} {W : World} (hsz : ops.size = N + 2)
  (hd : ∀ i, i < N → ∃ o, ops[i]? = some o ∧ o.dst = some (s0 + i) ∧ o.guard = none ∧ (∀ c, o.op ≠ .defer c) ∧ (∀ e ∈ o.after, e.on < i ∧ Region.binds .any e = true) ∧
   ∀ L : Array Bool, (∀ e ∈ o.after, L.getD e.on false = true) → (execOp (Jw s0 N val L a).eval o).run P W = .ok (.value (val i)) W ∧ o.about P W (Jw s0 N val L a).eval = none)
  (hN : ∃ o, ops[N]? = some o ∧ (∀ e ∈ o.after, e.on < N) ∧ ∀ j, j < N → ∃ e ∈ o.after, e.on = j ∧ Region.binds .any e = true)
  (hN1 : ∃ o, ops[N + 1]? = some o ∧ ∃ e ∈ o.after, e.on = N ∧ Region.binds .any e = true)
  (tail : ∀ fuel (L : Array Bool), L.size = N + 2 → (∀ j, j < N → L.getD j false = true) → L.getD N true = false → L.getD (N + 1) true = false → wpOpIn F n P ops Q N (wpAnyIn F n P .any ops Q (fuel + 1) (L.setIfInBounds N true)) (Jw s0 N val L a) W) :
  ∀ fuel (L : Array Bool), L.size = N + 2 → L.getD N true = false → L.getD (N + 1) true = false → left N L + 2 ≤ fuel → wpAnyIn F n P .any ops Q fuel L (Jw s0 N val L a) W := by
 intro fuel
 induction fuel with
 | zero => intro L _ _ _ h; omega
 | succ fuel ih =>
  intro L hL h0 h1 hf
  rw [wpAnyIn]
  constructor
  ·intro hr
   exfalso
   rcases least (L := L) (N := N) N (Nat.le_refl _) with hall | ⟨i, hi, hl, hlt⟩
   ·obtain ⟨o, ho, ha, _⟩ := hN
    have := Xcs (L := L) h0 ho (fun e he => hall _ (ha e he))
    rw [hr] at this
    cases this
   ·obtain ⟨o, ho, _, _, _, ha, _⟩ := hd i hi
    have := Xcs (L := L) (by rw [J5 (by omega)]; exact hl) ho (fun e he => hlt _ (ha e he).1)
    rw [hr] at this
    cases this
  ·intro i hi
   obtain ⟨hsi, hli, hdeps⟩ := Xcr hi
   by_cases hiN : i < N
   ·obtain ⟨o, ho, hdst, hg, hdf, ha, hrun⟩ := hd i hiN
    have hall : ∀ e ∈ o.after, L.getD e.on false = true := fun e he => hdeps o ho e he (ha e he).2
    obtain ⟨hx, hab⟩ := hrun L hall
    unfold wpOpIn
    rw [ho]
    simp only
    rw [show Region.wanted o (yielded ops (Jw s0 N val L a).tmps) = true by unfold Region.wanted; rw [hg]]
    simp only [if_true]
    unfold Oper.wpIn
    rw [Oper.semAt_eq _ _ _ hdf, hx, Oper.uponIn_value, hdst, Xr7 hiN (by omega)]
    refine ⟨fun f hf => (by rw [hab] at hf; cases hf), ?_⟩
    have hl : L.getD i false = false := by rw [← J5 (by omega)]; exact hli
    have hlt := Xvt hiN (by omega : i < L.size) hl
    refine ih (L.setIfInBounds i true) (by simpa using hL) ?_ ?_ (by omega)
    ·simp only [Array.getD_eq_getD_getElem?, Array.getElem?_setIfInBounds]
     rw [if_neg (by omega)]
     simpa [Array.getD_eq_getD_getElem?] using h0
    ·simp only [Array.getD_eq_getD_getElem?, Array.getElem?_setIfInBounds]
     rw [if_neg (by omega)]
     simpa [Array.getD_eq_getD_getElem?] using h1
   ·by_cases hiE : i = N
    ·subst hiE
     obtain ⟨o, ho, ha, hall⟩ := hN
     obtain ⟨m, rfl⟩ : ∃ m, fuel = m + 1 := ⟨fuel - 1, by omega⟩
     refine tail m L hL (fun j hj => ?_) h0 h1
     obtain ⟨e, he, rfl, hb⟩ := hall j hj
     exact hdeps o ho e he hb
    ·exfalso
     obtain rfl : i = N + 1 := by omega
     obtain ⟨o, ho, e, he, he2, hb⟩ := hN1
     have := hdeps o ho e he hb
     rw [he2, ← J5 (by omega), h0] at this
     cases this
theorem Xka {F : Fence} {n : Nat} {P : Program} {ops : Array Oper} {Q : Exit → Act → World → Prop} {s0 N : Nat} {val : Nat → Value} {vN : Value} {a : Act} {W W' : World} (hsz : ops.size = N + 2) (hta : s0 + N < a.tmps.size)
  (hd : ∀ i, i < N → ∃ o, ops[i]? = some o ∧ o.dst = some (s0 + i) ∧ o.guard = none ∧ (∀ c, o.op ≠ .defer c) ∧ (∀ e ∈ o.after, e.on < i ∧ Region.binds .any e = true) ∧
   ∀ ρ : Operand → Value, (∀ e ∈ o.after, ρ (.tmp (s0 + e.on)) = val e.on) → (∀ t, t < s0 → ρ (.tmp t) = a.eval (.tmp t)) → (∀ v, ρ (.const v) = v) → (execOp ρ o).run P W = .ok (.value (val i)) W ∧ o.about P W ρ = none)
  (hN : ∃ o, ops[N]? = some o ∧ o.dst = some (s0 + N) ∧ o.guard = none ∧ (∀ c, o.op ≠ .defer c) ∧ (∀ e ∈ o.after, e.on < N) ∧ (∀ j, j < N → ∃ e ∈ o.after, e.on = j ∧ Region.binds .any e = true) ∧
   ∀ ρ : Operand → Value, (∀ i, i < N → ρ (.tmp (s0 + i)) = val i) → (∀ t, t < s0 → ρ (.tmp t) = a.eval (.tmp t)) → (execOp ρ o).run P W = .ok (.value vN) W ∧ o.about P W ρ = none)
  (hN1 : ∃ o, ops[N + 1]? = some o ∧ o.dst = none ∧ o.guard = none ∧ (∀ c, o.op ≠ .defer c) ∧ (∀ e ∈ o.after, e.on ≤ N) ∧ (∃ e ∈ o.after, e.on = N ∧ Region.binds .any e = true) ∧
   ∀ ρ : Operand → Value, (∀ i, i < N → ρ (.tmp (s0 + i)) = val i) → ρ (.tmp (s0 + N)) = vN → (∀ t, t < s0 → ρ (.tmp t) = a.eval (.tmp t)) → (execOp ρ o).run P W = .ok .skip W' ∧ o.about P W ρ = none)
  (hQ : ∀ a', Q .normal a' W') : wpAnyIn F n P .any ops Q ops.size (Array.replicate ops.size false) a W := by
 have key := phase (F := F) (n := n) (P := P) (ops := ops) (Q := Q) (s0 := s0) (N := N) (val := val) (a := a) (W := W) hsz ?hd' ?hN' ?hN1' ?tail ops.size (Array.replicate ops.size false) (by simp [hsz]) (by simp [Array.getD, hsz]) (by simp [Array.getD, hsz]) ?cnt
 ·rw [Xo4 (fun j hj => by simp [Array.getD])] at key
  exact key
 case hd' =>
  intro i hi
  obtain ⟨o, h1, h2, h3, h4, h5, h6⟩ := hd i hi
  refine ⟨o, h1, h2, h3, h4, h5, fun L hL => h6 _ (fun e he => ?_) (fun t ht => Xh8 ht) (fun v => rfl)⟩
  have := (h5 e he).1
  rw [Xlm (by omega) (by omega) (by omega) (by rw [show s0 + e.on - s0 = e.on by omega]; exact hL e he), show s0 + e.on - s0 = e.on by omega]
 case hN' =>
  obtain ⟨o, h1, _, _, _, h5, h6, _⟩ := hN
  exact ⟨o, h1, h5, h6⟩
 case hN1' =>
  obtain ⟨o, h1, _, _, _, _, h6, _⟩ := hN1
  exact ⟨o, h1, h6⟩
 case cnt =>
  unfold left
  have := List.length_filter_le (fun i => !(Array.replicate ops.size false).getD i false) (List.range N)
  rw [List.length_range] at this
  omega
 case tail =>
  intro fuel L hL hall h0 h1
  have hev : ∀ i, i < N → (Jw s0 N val L a).eval (.tmp (s0 + i)) = val i := fun i hi => by
   rw [Xlm (by omega) (by omega) (by omega) (by rw [show s0 + i - s0 = i by omega]; exact hall i hi), show s0 + i - s0 = i by omega]
  have hlo : ∀ t, t < s0 → (Jw s0 N val L a).eval (.tmp t) = a.eval (.tmp t) := fun t ht => Xh8 ht
  obtain ⟨o, g1, g2, g3, g4, g5, g6, g7⟩ := hN
  obtain ⟨r1, r2⟩ := g7 _ hev hlo
  unfold wpOpIn
  rw [g1]
  simp only
  rw [show Region.wanted o (yielded ops (Jw s0 N val L a).tmps) = true by unfold Region.wanted; rw [g3]]
  simp only [if_true]
  unfold Oper.wpIn
  rw [Oper.semAt_eq _ _ _ g4, r1, Oper.uponIn_value, g2]
  refine ⟨fun f hf => (by rw [r2] at hf; cases hf), ?_⟩
  have hfs : (Jw s0 N val L a).tmps.size = a.tmps.size := by simp [Jw]
  have hev' : ∀ i, i < N → ((Jw s0 N val L a).put (some (s0 + N)) vN).eval (.tmp (s0 + i)) = val i := fun i hi => by
   rw [← hev i hi]
   simp only [Act.put, Act.eval, Array.getD_eq_getD_getElem?, Array.getElem?_setIfInBounds]
   rw [if_neg (by omega)]
  have hevN : ((Jw s0 N val L a).put (some (s0 + N)) vN).eval (.tmp (s0 + N)) = vN := by
   simp only [Act.put, Act.eval, Array.getD_eq_getD_getElem?, Array.getElem?_setIfInBounds]
   rw [if_pos trivial, if_pos (by omega)]
   rfl
  have hlo' : ∀ t, t < s0 → ((Jw s0 N val L a).put (some (s0 + N)) vN).eval (.tmp t) = a.eval (.tmp t) := fun t ht => by
   rw [← hlo t ht]
   simp only [Act.put, Act.eval, Array.getD_eq_getD_getElem?, Array.getElem?_setIfInBounds]
   rw [if_neg (by omega)]
  generalize (Jw s0 N val L a).put (some (s0 + N)) vN = a2 at *
  obtain ⟨o', k1, k2, k3, k4, k5, k6, k7⟩ := hN1
  obtain ⟨q1, q2⟩ := k7 _ hev' hevN hlo'
  have hL2 : ∀ j, j ≤ N → (L.setIfInBounds N true).getD j false = true := fun j hj => by
   simp only [Array.getD_eq_getD_getElem?, Array.getElem?_setIfInBounds]
   by_cases e : N = j
   ·rw [if_pos e, if_pos (by omega)]; rfl
   ·rw [if_neg e]
    have := hall j (by omega)
    rw [Array.getD_eq_getD_getElem?] at this
    exact this
  have hL1 : (L.setIfInBounds N true).getD (N + 1) true = false := by
   simp only [Array.getD_eq_getD_getElem?, Array.getElem?_setIfInBounds]
   rw [if_neg (by omega)]
   rw [Array.getD_eq_getD_getElem?] at h1
   exact h1
  have hs2 : (L.setIfInBounds N true).size = N + 2 := by simpa using hL
  generalize L.setIfInBounds N true = L2 at *
  rw [wpAnyIn]
  refine ⟨fun hr => ?_, fun i hi => ?_⟩
  ·exfalso
   have := Xcs (L := L2) hL1 k1 (fun e he => hL2 _ (k5 e he))
   rw [hr] at this
   cases this
  ·obtain ⟨m1, m2, _⟩ := Xcr hi
   obtain rfl : i = N + 1 := by
    by_cases e : i ≤ N
    ·have := hL2 i e
     rw [← J5 (by omega), m2] at this
     cases this
    ·omega
   unfold wpOpIn
   rw [k1]
   simp only
   rw [show Region.wanted o' (yielded ops a2.tmps) = true by unfold Region.wanted; rw [k3]]
   simp only [if_true]
   unfold Oper.wpIn
   rw [Oper.semAt_eq _ _ _ k4, q1, Oper.uponIn_skip]
   refine ⟨fun f hf => (by rw [q2] at hf; cases hf), ?_⟩
   refine wpAnyIn_done ?_ (hQ _) _
   apply List.eq_nil_iff_forall_not_mem.2
   intro i hi
   obtain ⟨m1, m2, _⟩ := Xcr hi
   have : (L2.setIfInBounds (N + 1) true).getD i true = true := by
    simp only [Array.getD_eq_getD_getElem?, Array.getElem?_setIfInBounds]
    by_cases e : N + 1 = i
    ·rw [if_pos e, if_pos (by omega)]; rfl
    ·rw [if_neg e]
     have h3 := hL2 i (by omega)
     rw [← J5 (by omega), Array.getD_eq_getD_getElem?] at h3
     exact h3
   rw [this] at m2
   cases m2

def Xe (L : List UInt8) (p : Nat) : Nat := (L.getD p 0).toNat
theorem Jl (L : List UInt8) (p : Nat) : Xe L p < 256 := (L.getD p 0).toNat_lt
def Wq (L : List UInt8) (p n : Nat) : ByteArray := txt ((L.drop p).take n)

def Xd (L : List UInt8) (p c : Nat) : Bool := decide (p < L.length) && decide (Xe L p = c)
theorem Xg {L : List UInt8} {p c : Nat} : Xd L p c = true ↔ p < L.length ∧ Xe L p = c := by unfold Xd; simp
theorem X4 {L : List UInt8} {p c : Nat} : Xd L p c = false ↔ ¬ (p < L.length ∧ Xe L p = c) := by unfold Xd; simp
def Uv (P : Nat → Bool) (L : List UInt8) : Nat → Nat → Nat
 | 0, p => p
 | f + 1, p => if P (Xe L p) = true then Uv P L f (p + 1) else p
def Kj (P : Nat → Bool) (L : List UInt8) (p : Nat) : Nat := Uv P L (L.length - p) p
theorem Jz {P : Nat → Bool} {L : List UInt8} {p : Nat} (h : p < L.length) (hb : P (Xe L p) = true) : Kj P L p = Kj P L (p + 1) := by
 unfold Kj
 rw [show L.length - p = L.length - (p + 1) + 1 by omega, Uv, if_pos hb]
theorem Qt {P : Nat → Bool} {L : List UInt8} {p : Nat} (h : ¬ (p < L.length ∧ P (Xe L p) = true)) : Kj P L p = p := by
 unfold Kj
 by_cases hp : p < L.length
 ·rw [show L.length - p = L.length - (p + 1) + 1 by omega, Uv, if_neg (fun e => h ⟨hp, e⟩)]
 ·rw [show L.length - p = 0 by omega, Uv]
theorem Xa1 (P : Nat → Bool) (L : List UInt8) : ∀ f p, p ≤ Uv P L f p ∧ Uv P L f p ≤ p + f ∧ (∀ j, p ≤ j → j < Uv P L f p → P (Xe L j) = true) ∧ (Uv P L f p < p + f → P (Xe L (Uv P L f p)) = false) := by
 intro f
 induction f with
 | zero => intro p; exact ⟨Nat.le_refl _, Nat.le_refl _, fun j h1 h2 => by rw [Uv] at h2; omega, fun h => by rw [Uv] at h; omega⟩
 | succ f ih =>
  intro p
  rw [Uv]
  by_cases h : P (Xe L p) = true
  ·rw [if_pos h]
   obtain ⟨a1, a2, a3, a4⟩ := ih (p + 1)
   refine ⟨by omega, by omega, fun j h1 h2 => ?_, fun h2 => a4 (by omega)⟩
   by_cases e : j = p
   ·rw [e]; exact h
   ·exact a3 j (by omega) h2
  ·rw [if_neg h]
   exact ⟨Nat.le_refl _, by omega, fun j h1 h2 => by omega, fun _ => by simpa using h⟩
theorem Zb (P : Nat → Bool) (L : List UInt8) (p : Nat) : p ≤ Kj P L p := (Xa1 P L _ p).1
theorem Uw {P : Nat → Bool} {L : List UInt8} {p : Nat} (h : p ≤ L.length) : Kj P L p ≤ L.length := by have := (Xa1 P L (L.length - p) p).2.1; unfold Kj; omega
theorem Xls {P : Nat → Bool} {L : List UInt8} {p j : Nat} (h1 : p ≤ j) (h2 : j < Kj P L p) : P (Xe L j) = true := (Xa1 P L _ p).2.2.1 j h1 h2
theorem Xs2 {P : Nat → Bool} {L : List UInt8} {p : Nat} (h : Kj P L p < L.length) : P (Xe L (Kj P L p)) = false := by
 refine (Xa1 P L (L.length - p) p).2.2.2 ?_
 have := Zb P L p
 unfold Kj at h this
 omega
theorem Xp2 (P : Nat → Bool) (L : List UInt8) (p : Nat) : Kj P L (Kj P L p) = Kj P L p := by
 refine Qt (fun h => ?_)
 have := Xs2 h.1
 rw [h.2] at this
 cases this
theorem Xa2 {P : Nat → Bool} {L : List UInt8} {p : Nat} (h : L.length ≤ p) : Kj P L p = p := Qt (fun e => by omega)
def Zi (c : Nat) : Bool := decide (48 ≤ c ∧ c ≤ 57)
abbrev dgJ (L : List UInt8) (p : Nat) : Nat := Kj Zi L p
def X0 (L : List UInt8) (p : Nat) : Nat → Nat
 | 0 => 0
 | k + 1 => 10 * X0 L p k + (Xe L (p + k) - 48)
theorem Xp3 (L : List UInt8) (p : Nat) : ∀ {k m : Nat}, k ≤ m → X0 L p k ≤ X0 L p m := by
 intro k m h
 induction h with
 | refl => exact Nat.le_refl _
 | step _ ih => rw [X0]; omega
def X9 (L : List UInt8) (p : Nat) : Nat := if Xd L p 45 = true then p + 1 else p
def Xba (L : List UInt8) (p : Nat) : Option (Int × Nat) :=
 if dgJ L (X9 L p) = X9 L p ∨ (X9 L p + 1 < dgJ L (X9 L p) ∧ Xe L (X9 L p) = 48) ∨ 1000000000000000 < X0 L (X9 L p) (dgJ L (X9 L p) - X9 L p) then none
 else some (if Xd L p 45 = true then -((X0 L (X9 L p) (dgJ L (X9 L p) - X9 L p) : Nat) : Int) else ((X0 L (X9 L p) (dgJ L (X9 L p) - X9 L p) : Nat) : Int), dgJ L (X9 L p))
def Qf (L : List UInt8) (p : Nat) (w : List UInt8) : Bool := decide ((L.drop p).take w.length = w)
def Xhv : List UInt8 := [110, 117, 108, 108]
def Xhw : List UInt8 := [116, 114, 117, 101]
def Xe8 : List UInt8 := [102, 97, 108, 115, 101]
theorem Xp4 {L : List UInt8} {p : Nat} {w : List UInt8} (h : Qf L p w = true) (hw : w ≠ []) : p + w.length ≤ L.length := by
 unfold Qf at h
 simp only [decide_eq_true_eq] at h
 have := congrArg List.length h
 rw [List.length_take, List.length_drop] at this
 have : 0 < w.length := by cases w; exact absurd rfl hw; simp
 omega
def Ue (c : Nat) : Option Nat :=
 if c = 34 then some 34 else if c = 92 then some 92 else if c = 47 then some 47 else if c = 98 then some 8 else if c = 102 then some 12 else if c = 110 then some 10 else if c = 114 then some 13 else if c = 116 then some 9 else none
def Kc (c : Nat) : Option Nat := if 48 ≤ c ∧ c ≤ 57 then some (c - 48) else if 97 ≤ c ∧ c ≤ 102 then some (c - 87) else if 65 ≤ c ∧ c ≤ 70 then some (c - 55) else none
theorem Xlt {c d : Nat} (h : Kc c = some d) : d < 16 := by
 unfold Kc at h
 split at h
 ·simp at h; omega
 ·split at h
  ·simp at h; omega
  ·split at h
   ·simp at h; omega
   ·cases h
def Qc (L : List UInt8) (p : Nat) : Nat → Option Nat
 | 0 => some 0
 | k + 1 => match Qc L p k with
  | none => none
  | some v => match Kc (Xe L (p + k)) with
   | none => none
   | some d => some (16 * v + d)
theorem Xwb (L : List UInt8) (p : Nat) : ∀ {k v : Nat}, Qc L p k = some v → v < 16 ^ k := by
 intro k
 induction k with
 | zero => intro v h; simp [Qc] at h; omega
 | succ k ih =>
  intro v h
  rw [Qc] at h
  cases e : Qc L p k with
  | none => simp [e] at h
  | some u =>
   simp only [e] at h
   cases e2 : Kc (Xe L (p + k)) with
   | none => simp [e2] at h
   | some d =>
    simp only [e2, Option.some.injEq] at h
    have := ih e
    have := Xlt e2
    rw [Nat.pow_succ]
    omega
def Kg (L : List UInt8) (p : Nat) : Option (Nat × Nat) :=
 if L.length < p + 4 then none else match Qc L p 4 with
  | none => none
  | some v => if 127 < v then none else some (v, p + 4)
theorem Xgw {L : List UInt8} {p k v d : Nat} (h : Qc L p k = some v) (hd : Kc (Xe L (p + k)) = some d) : Qc L p (k + 1) = some (16 * v + d) := by rw [Qc, h]; simp only [hd]
theorem Xc3 {L : List UInt8} {p k : Nat} (h : Qc L p k = none) : ∀ m, k ≤ m → Qc L p m = none := by
 intro m hm
 induction hm with
 | refl => exact h
 | step _ ih => rw [Qc, ih]
theorem Xgx {L : List UInt8} {p k v m : Nat} (h : Qc L p k = some v) (hd : Kc (Xe L (p + k)) = none) (hm : k < m) : Qc L p m = none := Xc3 (k := k + 1) (by rw [Qc, h]; simp only [hd]) m (by omega)
theorem Xdt {L : List UInt8} {p : Nat} (h : L.length < p + 4) : Kg L p = none := by unfold Kg; rw [if_pos h]
theorem Xec {L : List UInt8} {p : Nat} (h : Qc L p 4 = none) : Kg L p = none := by unfold Kg; rw [h]; split <;> rfl
theorem Xgy {L : List UInt8} {p v : Nat} (h : Qc L p 4 = some v) (hv : 127 < v) : Kg L p = none := by
 unfold Kg
 split
 ·rfl
 ·rw [h]; simp only [if_pos hv]
theorem Xc4 {L : List UInt8} {p v : Nat} (hp : p + 4 ≤ L.length) (h : Qc L p 4 = some v) (hv : v ≤ 127) : Kg L p = some (v, p + 4) := by
 unfold Kg
 rw [if_neg (by omega), h]
 simp only [if_neg (by omega : ¬ 127 < v)]
def Zt (L : List UInt8) (p : Nat) : Option (Nat × Nat) :=
 if L.length ≤ p then none else match Ue (Xe L p) with
  | some b => some (b, p + 1)
  | none => if Xe L p = 117 then Kg L (p + 1) else none
theorem Wf {L : List UInt8} {p b q : Nat} (h : Zt L p = some (b, q)) : p < q ∧ q ≤ L.length ∧ b ≤ 127 := by
 unfold Zt at h
 split at h
 ·cases h
 ·rename_i hp
  cases e : Ue (Xe L p) with
  | some b' =>
   simp only [e, Option.some.injEq, Prod.mk.injEq] at h
   obtain ⟨rfl, rfl⟩ := h
   refine ⟨by omega, by omega, ?_⟩
   unfold Ue at e
   repeat (split at e; · simp at e; omega)
   cases e
  | none =>
   simp only [e] at h
   split at h
   ·unfold Kg at h
    split at h
    ·cases h
    ·rename_i h4
     cases e2 : Qc L (p + 1) 4 with
     | none => simp [e2] at h
     | some v =>
      simp only [e2] at h
      split at h
      ·cases h
      ·rename_i hv
       simp only [Option.some.injEq, Prod.mk.injEq] at h
       obtain ⟨rfl, rfl⟩ := h
       exact ⟨by omega, by omega, by omega⟩
   ·cases h
def V3 (L : List UInt8) : Nat → Nat → Option (List UInt8 × Nat)
 | 0, _ => none
 | f + 1, p => if Xe L p = 34 then some ([], p + 1)
  else if Xe L p = 92 then match Zt L (p + 1) with
   | none => none
   | some (b, q) => match V3 L f q with
    | none => none
    | some (l, z) => some (UInt8.ofNat b :: l, z)
  else if Xe L p < 32 ∨ 127 < Xe L p then none
  else match V3 L f (p + 1) with
   | none => none
   | some (l, z) => some (UInt8.ofNat (Xe L p) :: l, z)
def txJ (L : List UInt8) (p : Nat) : Option (List UInt8 × Nat) := V3 L (L.length - p) p
theorem Qu {L : List UInt8} {p : Nat} (h : L.length ≤ p) : Xe L p = 0 := by
 unfold Xe
 rw [List.getD_eq_getElem?_getD, List.getElem?_eq_none h]; rfl
theorem Uf {L : List UInt8} {p : Nat} (h : L.length ≤ p) (f : Nat) : V3 L f p = none := by
 cases f with
 | zero => rfl
 | succ f => rw [V3, Qu h]; rfl
theorem Xmz (L : List UInt8) : ∀ m p f g, L.length - p ≤ m → L.length - p ≤ f → L.length - p ≤ g → V3 L f p = V3 L g p := by
 intro m
 induction m with
 | zero => intro p f g h _ _; rw [Uf (by omega), Uf (by omega)]
 | succ m ih =>
  intro p f g h hf hg
  by_cases hp : L.length ≤ p
  ·rw [Uf hp, Uf hp]
  ·obtain ⟨f, rfl⟩ : ∃ f', f = f' + 1 := ⟨f - 1, by omega⟩
   obtain ⟨g, rfl⟩ : ∃ g', g = g' + 1 := ⟨g - 1, by omega⟩
   have key : ∀ q, p < q → V3 L f q = V3 L g q := fun q hq => ih q f g (by omega) (by omega) (by omega)
   rw [V3, V3, key (p + 1) (by omega)]
   cases e : Zt L (p + 1) with
   | none => rfl
   | some x =>
    obtain ⟨b, q⟩ := x
    have := Wf e
    dsimp only
    rw [key q (by omega)]
theorem Gf {L : List UInt8} {p : Nat} (h : p < L.length) : txJ L p = if Xe L p = 34 then some ([], p + 1)
  else if Xe L p = 92 then match Zt L (p + 1) with
   | none => none
   | some (b, q) => match txJ L q with
    | none => none
    | some (l, z) => some (UInt8.ofNat b :: l, z)
  else if Xe L p < 32 ∨ 127 < Xe L p then none
  else match txJ L (p + 1) with
   | none => none
   | some (l, z) => some (UInt8.ofNat (Xe L p) :: l, z) := by
 have e1 : V3 L (L.length - (p + 1)) (p + 1) = txJ L (p + 1) := rfl
 conv => lhs; unfold txJ
 rw [show L.length - p = L.length - (p + 1) + 1 by omega, V3, e1]
 cases e : Zt L (p + 1) with
 | none => rfl
 | some x =>
  obtain ⟨b, q⟩ := x
  have := Wf e
  dsimp only
  rw [Xmz L L.length q (L.length - (p + 1)) (L.length - q) (by omega) (by omega) (by omega)]
  rfl
theorem Xbz {L : List UInt8} {p : Nat} (h : L.length ≤ p) : txJ L p = none := Uf h _
theorem Xin {L : List UInt8} : ∀ m p l q, L.length - p ≤ m → txJ L p = some (l, q) → p < q ∧ q ≤ L.length ∧ l.length < q - p ∧ ∀ c ∈ l, c.toNat ≤ 127 := by
 intro m
 induction m with
 | zero => intro p l q h e; rw [Xbz (by omega)] at e; cases e
 | succ m ih =>
  intro p l q h e
  by_cases hp : L.length ≤ p
  ·rw [Xbz hp] at e; cases e
  ·rw [Gf (by omega)] at e
   split at e
   ·simp only [Option.some.injEq, Prod.mk.injEq] at e
    obtain ⟨rfl, rfl⟩ := e
    exact ⟨by omega, by omega, by simp, fun c hc => absurd hc (by simp)⟩
   ·split at e
    ·cases e1 : Zt L (p + 1) with
     | none => simp [e1] at e
     | some x =>
      obtain ⟨b, z⟩ := x
      simp only [e1] at e
      obtain ⟨a1, a2, a3⟩ := Wf e1
      cases e2 : txJ L z with
      | none => simp [e2] at e
      | some y =>
       obtain ⟨l2, z2⟩ := y
       simp only [e2, Option.some.injEq, Prod.mk.injEq] at e
       obtain ⟨rfl, rfl⟩ := e
       obtain ⟨b1, b2, b3, b4⟩ := ih z l2 z2 (by omega) e2
       refine ⟨by omega, b2, by simp; omega, fun c hc => ?_⟩
       rcases List.mem_cons.1 hc with rfl | hc
       ·rw [UInt8.toNat_ofNat']; omega
       ·exact b4 c hc
    ·split at e
     ·cases e
     ·rename_i hr
      cases e2 : txJ L (p + 1) with
      | none => simp [e2] at e
      | some y =>
       obtain ⟨l2, z2⟩ := y
       simp only [e2, Option.some.injEq, Prod.mk.injEq] at e
       obtain ⟨rfl, rfl⟩ := e
       obtain ⟨b1, b2, b3, b4⟩ := ih (p + 1) l2 z2 (by omega) e2
       refine ⟨by omega, b2, by simp; omega, fun c hc => ?_⟩
       rcases List.mem_cons.1 hc with rfl | hc
       ·rw [UInt8.toNat_ofNat']; omega
       ·exact b4 c hc

def Uk (d : List UInt8) : Prop := ∀ j, j < d.length → Zi (Xe d j) = true
instance (d : List UInt8) : Decidable (Uk d) := by unfold Uk; infer_instance
def Uy (neg : Bool) (d : List UInt8) : Option Int :=
 if d.length < 1 ∨ 16 < d.length ∨ (Xe d 0 = 48 ∧ (1 < d.length ∨ neg = true)) ∨ ¬ Uk d ∨ 1000000000000000 < X0 d 0 d.length then none
 else some (if neg = true then -((X0 d 0 d.length : Nat) : Int) else ((X0 d 0 d.length : Nat) : Int))
def Uz (l : List UInt8) : Bool := decide (1 < l.length ∧ Xe l 0 = 45)
def Qy (l : List UInt8) : Option Int := if Uz l = true then Uy true (l.drop 1) else Uy false l
theorem Xjb {l : List UInt8} (h : Uz l = true) : Qy l = Uy true (l.drop 1) := by unfold Qy; rw [if_pos h]
theorem Xei {l : List UInt8} (h : Uz l = false) : Qy l = Uy false l := by unfold Qy; rw [if_neg (by rw [h]; simp)]
theorem Xbp {neg : Bool} {d : List UInt8} (h : d.length < 1 ∨ 16 < d.length ∨ (Xe d 0 = 48 ∧ (1 < d.length ∨ neg = true)) ∨ ¬ Uk d ∨ 1000000000000000 < X0 d 0 d.length) : Uy neg d = none := by unfold Uy; rw [if_pos h]
theorem Xb6 {neg : Bool} {d : List UInt8} (h : ¬ (d.length < 1 ∨ 16 < d.length ∨ (Xe d 0 = 48 ∧ (1 < d.length ∨ neg = true)) ∨ ¬ Uk d ∨ 1000000000000000 < X0 d 0 d.length)) : Uy neg d = some (if neg = true then -((X0 d 0 d.length : Nat) : Int) else ((X0 d 0 d.length : Nat) : Int)) := by unfold Uy; rw [if_neg h]
theorem Vq {L : List UInt8} {q m j : Nat} (h : j < m) : Xe ((L.drop q).take m) j = Xe L (q + j) := by
 unfold Xe
 rw [List.getD_eq_getElem?_getD, List.getD_eq_getElem?_getD, List.getElem?_take, if_pos h, List.getElem?_drop]
theorem Xty {L : List UInt8} {q m : Nat} : ∀ {k : Nat}, k ≤ m → X0 ((L.drop q).take m) 0 k = X0 L q k := by
 intro k
 induction k with
 | zero => intro _; rfl
 | succ k ih => intro h; rw [X0, X0, ih (by omega), Nat.zero_add, Vq (by omega)]
theorem Xej {L : List UInt8} {q : Nat} : ∀ {k : Nat}, 48 < Xe L q → 10 ^ k ≤ X0 L q (k + 1) := by
 intro k h
 induction k with
 | zero => rw [X0, X0]; simp; omega
 | succ k ih => rw [X0, Nat.pow_succ]; omega
theorem Xjc {L : List UInt8} {q : Nat} : ∀ {k : Nat}, (∀ j, j < k → Zi (Xe L (q + j)) = true) → X0 L q k < 10 ^ k := by
 intro k
 induction k with
 | zero => intro _; simp [X0]
 | succ k ih =>
  intro h
  have h1 := ih (fun j hj => h j (by omega))
  have h2 := h k (by omega)
  unfold Zi at h2
  simp only [decide_eq_true_eq] at h2
  rw [X0, Nat.pow_succ]
  omega
theorem Xl2 {L : List UInt8} {q m : Nat} (h : q + m ≤ L.length) : ((L.drop q).take m).length = m := by
 rw [List.length_take, List.length_drop]; omega
theorem Xqy {L : List UInt8} {q m : Nat} (h0 : 48 < Xe L q) (hm : 16 < m) : 1000000000000000 < X0 L q m := by
 have h1 := Xej (k := 16) h0
 have h2 := Xp3 L q (show 16 + 1 ≤ m by omega)
 have : (1000000000000000 : Nat) < 10 ^ 16 := by decide
 omega
theorem Xl3 {L : List UInt8} {q z : Nat} {neg : Bool} (hz : dgJ L q = z) (hq : q ≤ L.length) (hn : neg = true → ¬ (z = q + 1 ∧ Xe L q = 48)) :
  Uy neg ((L.drop q).take (z - q)) = if z = q ∨ (q + 1 < z ∧ Xe L q = 48) ∨ 1000000000000000 < X0 L q (z - q) then none else some (if neg = true then -((X0 L q (z - q) : Nat) : Int) else ((X0 L q (z - q) : Nat) : Int)) := by
 have hge : q ≤ z := by rw [← hz]; exact Zb _ _ _
 have hle : z ≤ L.length := by rw [← hz]; exact Uw hq
 have hin : ∀ j, j < z - q → Zi (Xe L (q + j)) = true := fun j hj => Xls (p := q) (by omega) (by show q + j < dgJ L q; rw [hz]; omega)
 have hl := Xl2 (L := L) (q := q) (m := z - q) (by omega)
 by_cases h0 : z = q
 ·rw [if_pos (.inl h0), Xbp (.inl (by omega))]
 have hb0 : Xe ((L.drop q).take (z - q)) 0 = Xe L q := Vq (by omega)
 have hdg : Uk ((L.drop q).take (z - q)) := fun j hj => by rw [hl] at hj; rw [Vq hj]; exact hin j hj
 have hval : X0 ((L.drop q).take (z - q)) 0 ((L.drop q).take (z - q)).length = X0 L q (z - q) := by rw [hl]; exact Xty (Nat.le_refl _)
 have h48 := hin 0 (by omega)
 unfold Zi at h48
 simp only [decide_eq_true_eq, Nat.add_zero] at h48
 by_cases hbad : (q + 1 < z ∧ Xe L q = 48) ∨ 1000000000000000 < X0 L q (z - q)
 ·rw [if_pos (.inr hbad)]
  refine Xbp ?_
  rw [hval, hl, hb0]
  rcases hbad with h | h
  ·exact .inr (.inr (.inl ⟨h.2, .inl (by omega)⟩))
  ·exact .inr (.inr (.inr (.inr h)))
 ·rw [if_neg (fun h => by rcases h with h | h; exact h0 h; exact hbad h)]
  rw [Xb6, hval]
  rw [hval, hl, hb0]
  rintro (h | h | ⟨h, h1⟩ | h | h)
  ·omega
  ·by_cases h1 : Xe L q = 48
   ·exact hbad (.inl ⟨by omega, h1⟩)
   ·exact hbad (.inr (Xqy (by omega) h))
  ·rcases h1 with h1 | h1
   ·exact hbad (.inl ⟨by omega, h⟩)
   ·by_cases h2 : z = q + 1
    ·exact hn h1 ⟨h2, h⟩
    ·exact hbad (.inl ⟨by omega, h⟩)
  ·exact h hdg
  ·exact hbad (.inr h)
def Q3 (L : List UInt8) (p : Nat) : List UInt8 := (L.drop p).take (dgJ L (X9 L p) - p)
theorem U0 (L : List UInt8) (p : Nat) : p ≤ X9 L p := by unfold X9; split <;> omega
theorem Xb7 {L : List UInt8} {p : Nat} (h : p ≤ L.length) : X9 L p ≤ L.length := by
 unfold X9
 split
 ·rename_i e; have := (Xg.1 e).1; omega
 ·exact h
theorem Xtz {L : List UInt8} {p : Nat} (hp : p ≤ L.length) : (Q3 L p = [45, 48] → Xba L p = some (0, dgJ L (X9 L p))) ∧ (Q3 L p ≠ [45, 48] → Xba L p = match Qy (Q3 L p) with | none => none | some v => some (v, dgJ L (X9 L p))) := by
 obtain ⟨q, hq⟩ : ∃ q, X9 L p = q := ⟨_, rfl⟩
 obtain ⟨z, hz⟩ : ∃ z, dgJ L q = z := ⟨_, rfl⟩
 have hge : q ≤ z := by rw [← hz]; exact Zb _ _ _
 have hql : q ≤ L.length := by rw [← hq]; exact Xb7 hp
 have hle : z ≤ L.length := by rw [← hz]; exact Uw hql
 have hw : Q3 L p = (L.drop p).take (z - p) := by unfold Q3; rw [hq, hz]
 have hpq := U0 L p
 have hlen := Xl2 (L := L) (q := p) (m := z - p) (by omega)
 have hnum : Xba L p = if z = q ∨ (q + 1 < z ∧ Xe L q = 48) ∨ 1000000000000000 < X0 L q (z - q) then none else some (if Xd L p 45 = true then -((X0 L q (z - q) : Nat) : Int) else ((X0 L q (z - q) : Nat) : Int), z) := by unfold Xba; rw [hq, hz]
 have hin : ∀ j, j < z - q → Zi (Xe L (q + j)) = true := fun j hj => Xls (p := q) (by omega) (by show q + j < dgJ L q; rw [hz]; omega)
 rw [hw, hq, hz]
 by_cases hn : Xd L p 45 = true
 ·have hq1 : q = p + 1 := by rw [← hq]; unfold X9; rw [if_pos hn]
  have h45 := (Xg.1 hn).2
  refine ⟨fun h => ?_, fun h => ?_⟩
  ·have hl2 : z - p = 2 := by rw [h] at hlen; simpa using hlen.symm
   have h48 : Xe L q = 48 := by
    have := Vq (L := L) (q := p) (m := z - p) (j := 1) (by omega)
    rw [h] at this
    rw [hq1, ← this]; rfl
   have hv : X0 L q (z - q) = 0 := by rw [show z - q = 1 by omega, X0, X0, Nat.add_zero, h48]
   rw [hnum, hv, if_neg (by omega)]
   simp
  ·by_cases hzq : z = q
   ·rw [hnum, if_pos (.inl hzq)]
    have hng : Uz ((L.drop p).take (z - p)) = false := by unfold Uz; rw [hlen]; simp; omega
    rw [Xei hng, Xbp]
    refine .inr (.inr (.inr (.inl (fun hd => ?_))))
    have := hd 0 (by omega)
    rw [Vq (by omega), Nat.add_zero, h45] at this
    cases this
   ·have hng : Uz ((L.drop p).take (z - p)) = true := by
     unfold Uz; rw [hlen, Vq (by omega), Nat.add_zero, h45]; simp; omega
    have hdr : ((L.drop p).take (z - p)).drop 1 = (L.drop q).take (z - q) := by
     rw [List.drop_take, List.drop_drop, hq1, show z - p - 1 = z - (p + 1) by omega]
    rw [Xjb hng, hdr, Xl3 hz hql, hnum]
    ·split
     ·rfl
     ·rfl
    ·rintro - ⟨h1, h2⟩
     refine h ?_
     have e2 : z - p = 2 := by omega
     rw [e2]
     have hp0 : p < L.length := by omega
     have hp1 : p + 1 < L.length := by omega
     rw [List.drop_eq_getElem_cons hp0, List.drop_eq_getElem_cons hp1]
     have b0 : L[p] = 45 := by
      have := h45; unfold Xe at this; rw [List.getD_eq_getElem?_getD, List.getElem?_eq_getElem hp0] at this
      exact UInt8.toNat_inj.1 this
     have b1 : L[p + 1] = 48 := by
      have := h2; rw [hq1] at this; unfold Xe at this; rw [List.getD_eq_getElem?_getD, List.getElem?_eq_getElem hp1] at this
      exact UInt8.toNat_inj.1 this
     rw [b0, b1]; rfl
 ·have hq1 : q = p := by rw [← hq]; unfold X9; rw [if_neg hn]
  subst hq1
  have hnd : ∀ h : 0 < z - q, Xe ((L.drop q).take (z - q)) 0 ≠ 45 := fun h e => by
   rw [Vq h, Nat.add_zero] at e
   have := hin 0 h
   rw [Nat.add_zero, e] at this
   cases this
  have hng : Uz ((L.drop q).take (z - q)) = false := by
   unfold Uz
   rw [hlen]
   simp only [decide_eq_false_iff_not]
   rintro ⟨h1, h2⟩
   exact hnd (by omega) h2
  refine ⟨fun h => ?_, fun h => ?_⟩
  ·exfalso
   have hl2 : z - q = 2 := by rw [h] at hlen; simpa using hlen.symm
   refine hnd (by omega) ?_
   rw [h]; rfl
  ·rw [Xei hng, Xl3 hz hql (fun h => by cases h), hnum]
   split
   ·rfl
   ·rfl

def Sit (L : List UInt8) (p : Nat) (B : List UInt8) : Prop := p ≤ L.length ∧ ∃ post, L.drop p = B ++ post
theorem Sit.left {L : List UInt8} {p : Nat} {A B : List UInt8} (h : Sit L p (A ++ B)) : Sit L p A := by
 obtain ⟨h0, post, h⟩ := h
 exact ⟨h0, B ++ post, by rw [h, List.append_assoc]⟩
theorem Sit.len {L : List UInt8} {p : Nat} {B : List UInt8} (h : Sit L p B) : p + B.length ≤ L.length := by
 obtain ⟨h0, post, h⟩ := h
 have := congrArg List.length h
 rw [List.length_drop, List.length_append] at this
 omega
theorem Sit.right {L : List UInt8} {p : Nat} {A B : List UInt8} (h : Sit L p (A ++ B)) : Sit L (p + A.length) B := by
 have hl := h.left.len
 obtain ⟨h0, post, h⟩ := h
 refine ⟨hl, post, ?_⟩
 rw [← List.drop_drop, h, List.append_assoc, List.drop_left]
theorem Sit.byte {L : List UInt8} {p : Nat} {B : List UInt8} (h : Sit L p B) {j : Nat} {x : UInt8} (hj : B[j]? = some x) : Xe L (p + j) = x.toNat := by
 obtain ⟨h0, post, h⟩ := h
 have hlt : j < B.length := by
  rcases Nat.lt_or_ge j B.length with h' | h'
  ·exact h'
  ·rw [List.getElem?_eq_none h'] at hj; cases hj
 have : L[p + j]? = some x := by
  rw [← List.getElem?_drop, h, List.getElem?_append_left hlt, hj]
 unfold Xe
 rw [List.getD_eq_getElem?_getD, this]
 rfl

theorem Xfy {P : Nat → Bool} {L : List UInt8} : ∀ {m q : Nat}, (∀ j, j < m → P (Xe L (q + j)) = true) → q + m ≤ L.length → ¬ (q + m < L.length ∧ P (Xe L (q + m)) = true) → Kj P L q = q + m := by
 intro m
 induction m with
 | zero => intro q _ _ h; rw [Nat.add_zero] at *; exact Qt h
 | succ m ih =>
  intro q h1 h2 h3
  rw [Jz (by omega) (by have := h1 0 (by omega); rwa [Nat.add_zero] at this), ih (q := q + 1) (fun j hj => by have := h1 (j + 1) (by omega); rwa [show q + (j + 1) = q + 1 + j by omega] at this) (by omega) (by rwa [show q + 1 + m = q + (m + 1) by omega])]
  omega
theorem Xab {d : Nat} (h : d < 10) : (UInt8.ofNat (48 + d)).toNat = 48 + d := by rw [UInt8.toNat_ofNat']; omega
theorem Sit.one {L : List UInt8} {q : Nat} {x : UInt8} {B : List UInt8} (h : Sit L q (x :: B)) : q < L.length ∧ Xe L q = x.toNat := by
 have := h.len
 rw [List.length_cons] at this
 exact ⟨by omega, h.byte (j := 0) rfl⟩
theorem Sit.next {L : List UInt8} {q : Nat} {x : UInt8} {B : List UInt8} (h : Sit L q (x :: B)) : Sit L (q + 1) B := Sit.right (A := [x]) h
theorem Xdk {L : List UInt8} : ∀ (m u q : Nat), u ≤ m → Sit L q (Lib.decDigits u) → X0 L q (Lib.decDigits u).length = u ∧ (∀ j, j < (Lib.decDigits u).length → Zi (Xe L (q + j)) = true) ∧ (1 ≤ u → Xe L q ≠ 48) ∧ 1 ≤ (Lib.decDigits u).length ∧ (1 < (Lib.decDigits u).length → 1 ≤ u) := by
 intro m
 induction m with
 | zero =>
  intro u q hu hs
  obtain rfl : u = 0 := by omega
  rw [Lib.decDigits, dif_pos (by omega)] at hs ⊢
  have hb := hs.one.2
  refine ⟨?_, fun j hj => ?_, fun h => by omega, by simp, fun h => by simp at h⟩
  ·simp only [List.length_cons, List.length_nil, Nat.zero_add, X0]; rw [Nat.add_zero, hb]; rfl
  ·obtain rfl : j = 0 := by simpa using hj
   rw [Nat.add_zero, hb]; rfl
 | succ m ih =>
  intro u q hu hs
  by_cases h10 : u < 10
  ·rw [Lib.decDigits, dif_pos h10] at hs ⊢
   have hb := hs.one.2
   rw [Xab h10] at hb
   refine ⟨?_, fun j hj => ?_, fun h => by omega, by simp, fun h => by simp at h⟩
   ·simp only [List.length_cons, List.length_nil, Nat.zero_add, X0]; rw [Nat.add_zero, hb]; omega
   ·obtain rfl : j = 0 := by simpa using hj
    rw [Nat.add_zero, hb]; unfold Zi; simp; omega
  ·rw [Lib.decDigits, dif_neg h10] at hs ⊢
   obtain ⟨a1, a2, a3, a4, a5⟩ := ih (u / 10) q (by omega) hs.left
   have hb := hs.right.one.2
   rw [Xab (by omega)] at hb
   refine ⟨?_, fun j hj => ?_, fun h => a3 (by omega), by simp, fun h => by omega⟩
   ·rw [List.length_append, List.length_cons, List.length_nil, Nat.zero_add, X0, a1, hb]; omega
   ·rw [List.length_append, List.length_cons, List.length_nil] at hj
    by_cases e : j = (Lib.decDigits (u / 10)).length
    ·rw [e, hb]; unfold Zi; simp; omega
    ·exact a2 j (by omega)
def Xzf (L : List UInt8) (q : Nat) : Prop := ¬ (q < L.length ∧ Zi (Xe L q) = true)
theorem Xif {L : List UInt8} {p : Nat} {n : Int} (h1 : -1000000000000000 ≤ n) (h2 : n ≤ 1000000000000000) (h : Sit L p (Lib.itoa n)) (hs : Xzf L (p + (Lib.itoa n).length)) : Xba L p = some (n, p + (Lib.itoa n).length) := by
 unfold Lib.itoa at h hs ⊢
 by_cases hn : n < 0
 ·rw [if_pos hn] at h hs ⊢
  obtain ⟨b0, b1⟩ := h.one
  obtain ⟨a1, a2, a3, a4, a5⟩ := Xdk (L := L) n.natAbs n.natAbs (p + 1) (Nat.le_refl _) h.next
  have hl := h.next.len
  rw [List.length_cons] at hs ⊢
  have hat : Xd L p 45 = true := Xg.2 ⟨b0, b1⟩
  have hna : X9 L p = p + 1 := by unfold X9; rw [if_pos hat]
  have hdg : dgJ L (p + 1) = p + 1 + (Lib.decDigits n.natAbs).length := Xfy a2 hl (by rw [show p + 1 + (Lib.decDigits n.natAbs).length = p + ((Lib.decDigits n.natAbs).length + 1) by omega]; exact hs)
  unfold Xba
  rw [hna, hdg, show p + 1 + (Lib.decDigits n.natAbs).length - (p + 1) = (Lib.decDigits n.natAbs).length by omega, a1, if_neg, if_pos hat]
  ·refine congrArg some (Prod.ext ?_ ?_)
   ·show -((n.natAbs : Nat) : Int) = n; omega
   ·show p + 1 + _ = _; omega
  ·rintro (e | ⟨e1, e2⟩ | e)
   ·omega
   ·exact a3 (by omega) e2
   ·omega
 ·rw [if_neg hn] at h hs ⊢
  obtain ⟨a1, a2, a3, a4, a5⟩ := Xdk (L := L) n.toNat n.toNat p (Nat.le_refl _) h
  have hl := h.len
  have hat : ¬ Xd L p 45 = true := fun e => by
   have e2 := (Xg.1 e).2
   have := a2 0 (by omega)
   rw [Nat.add_zero, e2] at this
   cases this
  have hna : X9 L p = p := by unfold X9; rw [if_neg hat]
  have hdg : dgJ L p = p + (Lib.decDigits n.toNat).length := Xfy a2 hl hs
  unfold Xba
  rw [hna, hdg, show p + (Lib.decDigits n.toNat).length - p = (Lib.decDigits n.toNat).length by omega, a1, if_neg, if_neg hat]
  ·refine congrArg some (Prod.ext ?_ rfl)
   show ((n.toNat : Nat) : Int) = n; omega
  ·rintro (e | ⟨e1, e2⟩ | e)
   ·omega
   ·exact a3 (a5 (by omega)) e2
   ·omega
theorem Xbx {L : List UInt8} {p : Nat} {n : Int} (h : Sit L p (Lib.itoa n)) : p < L.length ∧ (Xe L p = 45 ∨ Zi (Xe L p) = true) := by
 unfold Lib.itoa at h
 by_cases hn : n < 0
 ·rw [if_pos hn] at h
  exact ⟨h.one.1, .inl h.one.2⟩
 ·rw [if_neg hn] at h
  obtain ⟨a1, a2, a3, a4, a5⟩ := Xdk (L := L) n.toNat n.toNat p (Nat.le_refl _) h
  have hl := h.len
  exact ⟨by omega, .inr (by have := a2 0 (by omega); rwa [Nat.add_zero] at this)⟩
theorem Xmn : ∀ d : Fin 16, Kc (Xbe d.val).toNat = some d.val := by decide +kernel
theorem Xgl {d : Nat} (h : d < 16) : Kc (Xbe d).toNat = some d := Xmn ⟨d, h⟩
theorem Xpj (c : UInt8) (hc : c.toNat ≤ 127) : (∃ x : UInt8, Up c = [92, x] ∧ Ue x.toNat = some c.toNat) ∨ (∃ a b : UInt8, Up c = [92, 117, 48, 48, a, b] ∧ ∃ u v, Kc a.toNat = some u ∧ Kc b.toNat = some v ∧ 16 * u + v = c.toNat) ∨ (Up c = [c] ∧ c ≠ 34 ∧ c ≠ 92 ∧ 32 ≤ c.toNat) := by
 unfold Up
 split
 ·rename_i e; subst e; exact .inl ⟨34, rfl, rfl⟩
 split
 ·rename_i e; subst e; exact .inl ⟨92, rfl, rfl⟩
 split
 ·rename_i e; subst e; exact .inl ⟨98, rfl, rfl⟩
 split
 ·rename_i e; subst e; exact .inl ⟨116, rfl, rfl⟩
 split
 ·rename_i e; subst e; exact .inl ⟨110, rfl, rfl⟩
 split
 ·rename_i e; subst e; exact .inl ⟨102, rfl, rfl⟩
 split
 ·rename_i e; subst e; exact .inl ⟨114, rfl, rfl⟩
 split
 ·exact .inr (.inl ⟨_, _, rfl, c.toNat / 16, c.toNat % 16, Xgl (by omega), Xgl (by omega), by omega⟩)
 ·rename_i h34 h92 _ _ _ _ _ h
  refine .inr (.inr ⟨rfl, h34, h92, ?_⟩)
  have : ¬ c < 32 := fun e => h (.inl e)
  rw [UInt8.lt_iff_toNat_lt] at this
  have e32 : (32 : UInt8).toNat = 32 := rfl
  omega
theorem Xxz {L : List UInt8} {p : Nat} {x : UInt8} {b : Nat} (h : p < L.length) (hx : Xe L p = x.toNat) (hb : Ue x.toNat = some b) : Zt L p = some (b, p + 1) := by
 unfold Zt; rw [if_neg (by omega), hx]; simp only [hb]
theorem Xv2 {L : List UInt8} {p : Nat} {a b : UInt8} {u v : Nat} (h : Sit L p [117, 48, 48, a, b]) (ha : Kc a.toNat = some u) (hb : Kc b.toNat = some v) (hv : 16 * u + v ≤ 127) : Zt L p = some (16 * u + v, p + 5) := by
 have hl := h.len
 simp only [List.length_cons, List.length_nil] at hl
 have b0 := h.byte (j := 0) rfl
 have b1 := h.byte (j := 1) rfl
 have b2 := h.byte (j := 2) rfl
 have b3 := h.byte (j := 3) rfl
 have b4 := h.byte (j := 4) rfl
 rw [Nat.add_zero] at b0
 have e0 : Ue (Xe L p) = none := by rw [b0]; rfl
 unfold Zt
 rw [if_neg (by omega)]
 simp only [e0]
 rw [if_pos (show Xe L p = 117 from b0)]
 have h1 : Qc L (p + 1) 1 = some 0 := by rw [Qc, Qc]; simp only [Nat.add_zero, b1]; rfl
 have h2 : Qc L (p + 1) 2 = some 0 := by rw [Qc, h1, show p + 1 + 1 = p + 2 by omega, b2]; rfl
 have h3 : Qc L (p + 1) 3 = some u := by rw [Qc, h2, show p + 1 + 2 = p + 3 by omega, b3]; simp only [ha]; simp
 have h4 : Qc L (p + 1) 4 = some (16 * u + v) := by rw [Qc, h3, show p + 1 + 3 = p + 4 by omega, b4]; simp only [hb]
 rw [Xc4 (by omega) h4 hv]
theorem Xx0 {L : List UInt8} : ∀ (l : List UInt8) (q : Nat), (∀ c ∈ l, c.toNat ≤ 127) → Sit L q (quo l ++ [34]) → txJ L q = some (l, q + (quo l).length + 1) := by
 intro l
 induction l with
 | nil =>
  intro q _ h
  obtain ⟨h1, h2⟩ := Sit.one (B := []) h
  rw [Gf h1, if_pos (by rw [h2]; rfl)]
  rfl
 | cons c l ih =>
  intro q hc h
  have hc0 := hc c (by simp)
  have hcl : ∀ d ∈ l, d.toNat ≤ 127 := fun d hd => hc d (by simp [hd])
  have hof : UInt8.ofNat c.toNat = c := by simp
  rw [quo, List.append_assoc] at h
  have hr := ih _ hcl h.right
  rw [quo, List.length_append]
  rcases Xpj c hc0 with ⟨x, e, ex⟩ | ⟨a, b, e, u, v, eu, ev, euv⟩ | ⟨e, n34, n92, n32⟩
  ·rw [e] at h hr ⊢
   have hl := h.left
   obtain ⟨h1, h2⟩ := hl.one
   obtain ⟨h3, h4⟩ := hl.next.one
   have hesc := Xxz h3 h4 ex
   rw [Gf h1, if_neg (by rw [h2]; decide), if_pos (by rw [h2]; rfl), hesc]
   simp only [List.length_cons, List.length_nil] at hr ⊢
   rw [show q + 1 + 1 = q + (0 + 1 + 1) by omega, hr, hof]
   refine congrArg some (Prod.ext rfl ?_)
   show q + (0 + 1 + 1) + (quo l).length + 1 = q + (0 + 1 + 1 + (quo l).length) + 1; omega
  ·rw [e] at h hr ⊢
   have hl := h.left
   obtain ⟨h1, h2⟩ := hl.one
   have hesc := Xv2 hl.next eu ev (by omega)
   rw [Gf h1, if_neg (by rw [h2]; decide), if_pos (by rw [h2]; rfl), hesc]
   simp only [List.length_cons, List.length_nil] at hr ⊢
   rw [show q + 1 + 5 = q + (0 + 1 + 1 + 1 + 1 + 1 + 1) by omega, hr, euv, hof]
   refine congrArg some (Prod.ext rfl ?_)
   show q + (0 + 1 + 1 + 1 + 1 + 1 + 1) + (quo l).length + 1 = q + (0 + 1 + 1 + 1 + 1 + 1 + 1 + (quo l).length) + 1; omega
  ·rw [e] at h hr ⊢
   obtain ⟨h1, h2⟩ := h.left.one
   have m34 : ¬ Xe L q = 34 := fun e2 => n34 (UInt8.toNat_inj.1 (by rw [← h2, e2]; rfl))
   have m92 : ¬ Xe L q = 92 := fun e2 => n92 (UInt8.toNat_inj.1 (by rw [← h2, e2]; rfl))
   rw [Gf h1, if_neg m34, if_neg m92, if_neg (by omega)]
   simp only [List.length_cons, List.length_nil] at hr ⊢
   rw [show q + 1 = q + (0 + 1) by omega, hr, h2, hof]
   refine congrArg some (Prod.ext rfl ?_)
   show q + (0 + 1) + (quo l).length + 1 = q + (0 + 1 + (quo l).length) + 1; omega
theorem Xpk {s : ByteArray} (h : Qa s = true) : ∀ c ∈ s.data.toList, c.toNat ≤ 127 := by
 unfold Qa at h
 simp only [Bool.and_eq_true, List.all_eq_true, decide_eq_true_eq] at h
 exact h.2
theorem Xsp {L : List UInt8} {p : Nat} {s : ByteArray} (hs : Qa s = true) (h : Sit L p (Gr s)) : Xd L p 34 = true ∧ txJ L (p + 1) = some (s.data.toList, p + (Gr s).length) := by
 unfold Gr at h ⊢
 obtain ⟨h1, h2⟩ := h.one
 refine ⟨Xg.2 ⟨h1, h2⟩, ?_⟩
 rw [Xx0 _ _ (Xpk hs) h.next]
 refine congrArg some (Prod.ext rfl ?_)
 simp only [List.length_cons, List.length_append, List.length_nil]
 omega

theorem Xlh : ∀ (l : List UInt8) (acc a : Nat) (d : UInt8), Lib.parseUint10 acc l = .ok a → 48 ≤ d.toNat → d.toNat ≤ 57 → a < 1000000000000000 → Lib.parseUint10 acc (l ++ [d]) = .ok (a * 10 + (d.toNat - 48)) := by
 intro l
 induction l with
 | nil =>
  intro acc a d h h1 h2 h3
  simp only [Lib.parseUint10, Lib.NumEnd.ok.injEq] at h
  subst h
  rw [List.nil_append, Lib.parseUint10, if_pos ⟨h1, h2⟩, if_neg (by omega), if_neg (by omega), Lib.parseUint10]
 | cons c l ih =>
  intro acc a d h h1 h2 h3
  rw [List.cons_append, Lib.parseUint10]
  rw [Lib.parseUint10] at h
  split at h
  ·rename_i hc
   rw [if_pos hc]
   split at h
   ·cases h
   ·rename_i h4
    rw [if_neg h4]
    split at h
    ·cases h
    ·rename_i h5
     rw [if_neg h5]
     exact ih _ _ _ h h1 h2 h3
  ·cases h
theorem Xox : ∀ m u, u ≤ m → u ≤ 1000000000000000 → Lib.parseUint10 0 (Lib.decDigits u) = .ok u := by
 intro m
 induction m with
 | zero =>
  intro u h _
  obtain rfl : u = 0 := by omega
  rw [Lib.decDigits, dif_pos (by omega)]; rfl
 | succ m ih =>
  intro u h h15
  by_cases h10 : u < 10
  ·rw [Lib.decDigits, dif_pos h10]
   have := Xab h10
   have h2 := Xlh [] 0 0 (UInt8.ofNat (48 + u)) rfl (by omega) (by omega) (by omega)
   rw [List.nil_append, this] at h2
   rw [h2]
   congr 1
   omega
  ·rw [Lib.decDigits, dif_neg h10]
   have h1 := ih (u / 10) (by omega) (by omega)
   have := Xab (show u % 10 < 10 by omega)
   rw [Xlh _ _ _ _ h1 (by omega) (by omega) (by omega), this]
   congr 1
   omega
theorem Xli : ∀ m u, u ≤ m → ∀ c ∈ Lib.decDigits u, 48 ≤ c.toNat ∧ c.toNat ≤ 57 := by
 intro m
 induction m with
 | zero =>
  intro u h c hc
  obtain rfl : u = 0 := by omega
  rw [Lib.decDigits, dif_pos (by omega)] at hc
  have : c = UInt8.ofNat (48 + 0) := by simpa using hc
  subst this; decide
 | succ m ih =>
  intro u h c hc
  by_cases h10 : u < 10
  ·rw [Lib.decDigits, dif_pos h10, List.mem_singleton] at hc
   have := Xab h10
   rw [hc, this]; omega
  ·rw [Lib.decDigits, dif_neg h10, List.mem_append, List.mem_singleton] at hc
   rcases hc with hc | hc
   ·exact ih _ (by omega) c hc
   ·have := Xab (show u % 10 < 10 by omega)
    rw [hc, this]; omega
theorem Xoy (u : Nat) : Lib.decDigits u ≠ [] := by
 rw [Lib.decDigits]; split <;> simp
theorem Xgd {n : Int} (h1 : -1000000000000000 ≤ n) (h2 : n ≤ 1000000000000000) : Lib.parseIntB 64 (Lib.itoa n) = .ok n := by
 rw [Lib.parseIntB_64]
 unfold Lib.itoa
 have hm : ∀ u : Nat, u ≤ 1000000000000000 → Lib.parseMag (Lib.decDigits u) = .ok u := fun u hu => by
  unfold Lib.parseMag
  rw [if_neg (Xoy u), Xox u u (Nat.le_refl _) hu]
 split
 ·rw [Lib.atoiAll_minus, hm _ (by omega)]
  simp only [Lib.signed]
  rw [if_neg (by omega)]
  congr 1; omega
 ·have hm2 := hm n.toNat (by omega)
  have hall := Xli _ n.toNat (Nat.le_refl _)
  cases e : Lib.decDigits n.toNat with
  | nil => exact absurd e (Xoy _)
  | cons c r =>
   rw [e] at hm2 hall
   have := hall c (by simp)
   rw [Lib.atoiAll_plain c r (by omega) (by omega), hm2]
   simp only [Lib.signless]
   rw [if_neg (by omega)]
   congr 1; omega

theorem Xne (w : World) : w = w.drewN 0 := by cases w; rfl
theorem Gq {P : Program} {l : List Oper} {md : Region.Mode} {w : World} {Q : Exit → Act → World → Prop} {listed : Array Bool} {a : Act} (k : Nat) {fuel : Nat} (hk : l.length = k + fuel) (hs : Region.noSelect l.toArray = true) (hB : Region.lexFrom md l.toArray fuel k listed = true)
  (h : wpQuiet P l.toArray (fun w' => ∃ n, w' = w.drewN n) (fun a' => ∀ w', (∃ n, w' = w.drewN n) → Q .normal a' w') (l.drop k) a) : wpAny P md l.toArray Q fuel listed a w := by
 have hl : (l.drop k).length = fuel := by rw [List.length_drop]; omega
 refine wpAny_of_quiet (C := fun w' => ∃ n, w' = w.drewN n) (Q := fun a' => ∀ w', (∃ n, w' = w.drewN n) → Q .normal a' w') (fun _ w' hw' h => h w' hw') _ _ _ _ ⟨0, Xne w⟩ ?_
 have := wpAnyQ_lex (C := fun w' => ∃ n, w' = w.drewN n) (md := md) hs (l.drop k) k listed a (fun j => by rw [List.getElem?_drop]; simp) (by rw [hl]; exact hB) h
 rw [hl] at this
 exact this

def Gb (c : UInt8) : Int :=
 if 48 ≤ c ∧ c ≤ 57 then (c.toNat : Int) - 48 else if 97 ≤ c ∧ c ≤ 102 then (c.toNat : Int) - 87 else if 65 ≤ c ∧ c ≤ 70 then (c.toNat : Int) - 55 else -1
theorem u8n {c d : UInt8} : c ≤ d ↔ c.toNat ≤ d.toNat := UInt8.le_iff_toNat_le
theorem Xv0 (c : UInt8) : Gb c < 16 := by
 unfold Gb
 simp only [u8n]
 split
 ·rename_i h; have : c.toNat ≤ 57 := h.2; omega
 ·split
  ·rename_i h; have : c.toNat ≤ 102 := h.2; omega
  ·split
   ·rename_i h; have : c.toNat ≤ 70 := h.2; omega
   ·omega
theorem Xv1 (c : UInt8) : -1 ≤ Gb c := by
 unfold Gb
 simp only [u8n]
 split
 ·rename_i h; have : 48 ≤ c.toNat := h.1; omega
 ·split
  ·rename_i h; have : 97 ≤ c.toNat := h.1; omega
  ·split
   ·rename_i h; have : 65 ≤ c.toNat := h.1; omega
   ·omega
end Go.Proofs.YtehihemfepbmfaaGreatDoor
