/-
  A range over a function that moves some memory of its own between the rounds, and may give up: what holds behind it.
-/
import Derived.RangeFuncWrites
import Derived.RangeFuncLeaves
import Derived.WalkKit
import Derived.Laws.IdiomStrings
import Derived.Test.YtokhindolimchaaFlat
namespace Go.Proofs.Ytokhindolimchaa
open Go Go.RowKit
set_option linter.unusedVariables false

variable {F : Fence} {n : Nat} {P : Program}

theorem rangeFunc_moves {α : Type} {g : Operand} {ps : Array Tmp} {assign body : Code} {Q : Exit → Act → World → Prop} {a : Act} {w : World}
    (hro : F.round = none) (h1 : 1 ≤ n) {gf : Nat} {lb : Array Value} (hg : a.eval g = .func (.func gf) #[] lb) (hFg : F.fn gf) (eg : ∀ args w, (callFunc gf args).run P w = .ok (.enter gf args) w)
    {encs : α → Array Value} {Kp Mv : World → World → Prop} {S Sp : List α → World → Prop} {N : Nat} {ch : List PanicEntry}
    (hseq : ∀ (l : Nat) (J : List α → World → Prop) (W : World), Below w.heap.size w W → (∀ s X Y, J s X → Mv X Y → J s Y) →
      (∀ pre x W1, J pre W1 → pre.length < N → YieldAt F (n - 1 - 1) P l (encs x) W1 fun e W' => e = .returned (.bool true) ∧ J (pre ++ [x]) W' ∧ Kp W1 W') →
      J [] W → CallsIn F (n - 1) P gf (#[.func (.yield l) #[] #[]] ++ lb) W fun e W' => ((∃ v, e = .returned v) ∧ ∃ xs, S xs W' ∧ J xs W') ∨ (e = .panicked ch ∧ ∃ pre, Sp pre W' ∧ J pre W'))
    (hMv : ∀ X Y, Mv X Y → KeepsFrom w.heap.size X Y) (hS : OwnFrom w.heap.size S)
    (hKt : ∀ {A B C : World}, Kp A B → Kp B C → Kp A C) (hKb : ∀ (W : World) (l : Nat) (o o' : Obj), w.heap.size ≤ l → W.heap[l]? = some o → o.isCells = false → o.isWalk = false → Kp W (W.putObj l o')) (hps : ∀ x, (encs x).size = ps.size)
    (I : List α → World → Prop) (hI : OwnFrom w.heap.size I) (hIm : ∀ s X Y, I s X → Mv X Y → I s Y) (h0 : I [] w) (a₁ : α → Act)
    (hassign : ∀ (l : Nat) (x : α) (W : World) (K : Act → World → Prop), K (a₁ x) W →
      assign.wpIn (F.inRound l) (n - 1 - 1) P (Exit.then K (fun _ _ _ => False)) { tmps := (ps.zip (encs x)).foldl (fun t (p, v) => t.setIfInBounds p v) a.tmps, defers := [] } W)
    (hbody : ∀ (l : Nat) (pre : List α) (x : α) (W : World), I pre W → pre.length < N → body.wpIn (F.inRound l) (n - 1 - 1) P (ownPostG w.heap.size Kp I (fun _ _ _ => False) (pre ++ [x]) W) (a₁ x) W)
    (hdone : ∀ (D : Nat) (xs : List α) (W : World), w.heap.size ≤ D → S xs W → I xs W → W.heap[D]? = some (.deferred (some [])) → Q .normal { a with defers := { target := .collected D, args := #[] } :: a.defers } W)
    (hpan : ∀ (D : Nat) (pre : List α) (W : World), w.heap.size ≤ D → Sp pre W → I pre W → W.heap[D]? = some (.deferred (some [])) → Q (.panic ch) { a with defers := { target := .collected D, args := #[] } :: a.defers } W) :
    (Code.rangeFunc g ps assign body).wpIn F n P Q a w := by
  refine wpIn_rangeFunc ?_
  intro fn hfn
  rw [hro]
  obtain ⟨rec, hrec⟩ : ∃ rec : LoopState → Option Code → Loop, rec = fun st pe => { state := st, pending := pe, fn, tmps := a.tmps, params := ps, assign, body, defers := w.heap.size } := ⟨_, rfl⟩
  obtain ⟨W1, hW1⟩ : ∃ W1, (w.alloc (.deferred (some []))).alloc (.loop (rec .ready none)) = W1 := ⟨_, rfl⟩
  have hL1 : W1.heap[w.heap.size + 1]? = some (.loop (rec .ready none)) := by
    rw [← hW1]; have := World.alloc_heap_new (w.alloc (.deferred (some []))) (.loop (rec .ready none)); rwa [World.size_alloc] at this
  have hK1 : W1.heap[w.heap.size]? = some (.deferred (some [])) := by
    rw [← hW1]; exact (Below.heap_alloc _ _ _ (by simp)).trans (World.alloc_heap_new w _)
  have hI1 : I [] W1 := by rw [← hW1]; exact hI.alloc _ (hI.alloc _ h0)
  have hb1 : Below w.heap.size w W1 := by
    rw [← hW1]; exact ((Below.refl _ w).alloc (Nat.le_refl _) _).alloc (by simp) _
  refine ⟨w.heap.size + 1, [{ target := .collected w.heap.size, args := #[] }], W1, { target := .fn (.func gf) lb, args := #[.func (.yield (w.heap.size + 1)) #[] #[]] }, W1, gf,
    #[.func (.yield (w.heap.size + 1)) #[] #[]] ++ lb, W1, ?_, ?_, ?_, ?_, fun _ => h1, ?_⟩
  · rw [← hW1, hrec]; exact run_enterLoop_outer _ _ _ _ _
  · simp only [resolve, hg]
    simp [go_sem]
  · intro f' hf'; simp [Target.leads] at hf'; subst hf'; exact hFg
  · simp [invoke, go_sem, eg]
  · refine (hseq (w.heap.size + 1)
      (fun pre W => I pre W ∧ W.heap[w.heap.size + 1]? = some (.loop (rec .ready none)) ∧ W.heap[w.heap.size]? = some (.deferred (some [])))
      W1 hb1
      (fun s A B hs hm => ⟨hIm s A B hs.1 hm, (hMv A B hm).same _ _ (by omega) hs.2.1 rfl, (hMv A B hm).same _ _ (Nat.le_refl _) hs.2.2 rfl⟩)
      ?_ ⟨hI1, hL1, hK1⟩).mono ?_
    · rintro pre x W ⟨hi, hl, hk⟩ hlen
      have hlt : w.heap.size + 1 < W.heap.size := (Array.getElem?_eq_some_iff.1 hl).1
      have hy := run_yield (P := P) (args := encs x) hl (by rw [hrec]; exact hps x)
      rw [hrec] at hy
      refine ⟨fn, _, assign, body, hy, roundIn_of_wpIn hfn (hassign _ x W _ ⟨_, run_beginRound hl (by rw [hrec]), ?_⟩)⟩
      have hl2 : (W.putObj (w.heap.size + 1) (.loop { rec .ready none with state := .busy })).heap[w.heap.size + 1]? = some (.loop { rec .ready none with state := .busy }) := World.putObj_heap_same hlt
      have hk2 : (W.putObj (w.heap.size + 1) (.loop { rec .ready none with state := .busy })).heap[w.heap.size]? = some (.deferred (some [])) := (World.putObj_heap_other (by omega)).trans hk
      have hw2 : Kp W (W.putObj (w.heap.size + 1) (.loop { rec .ready none with state := .busy })) := hKb _ _ _ _ (by omega) hl rfl rfl
      refine wpIn_mono (hbody _ pre x _ (hI.putObj _ hi (by omega) hl rfl) hlen) ?_
      have fin : ∀ (W3 : World), KeepsFrom w.heap.size (W.putObj (w.heap.size + 1) (.loop { rec .ready none with state := .busy })) W3 →
          (Instr.endRound (w.heap.size + 1) none).run P W3 = .ok (.bool true) (W3.putObj (w.heap.size + 1) (.loop (rec .ready none))) ∧
          W3.heap[w.heap.size + 1]? = some (.loop { rec .ready none with state := .busy }) ∧
          (W3.putObj (w.heap.size + 1) (.loop (rec .ready none))).heap[w.heap.size + 1]? = some (.loop (rec .ready none)) ∧
          (W3.putObj (w.heap.size + 1) (.loop (rec .ready none))).heap[w.heap.size]? = some (.deferred (some [])) := fun W3 hk3 => by
        have hl3 := hk3.same _ _ (by omega) hl2 rfl
        have := run_endRound (P := P) none hl3
        rw [hrec] at this ⊢
        exact ⟨this, by rw [hrec] at hl3; exact hl3, World.putObj_heap_same (Array.getElem?_eq_some_iff.1 hl3).1, (World.putObj_heap_other (by omega)).trans (hk3.same _ _ (Nat.le_refl _) hk2 rfl)⟩
      rintro e a3 W3 hp
      cases e with
      | normal =>
        obtain ⟨hk3, hkp3, hi3⟩ := hp
        obtain ⟨hr, hl3, hl4, hk4⟩ := fin W3 hk3
        exact ⟨_, _, hr, rfl, ⟨hI.putObj _ hi3 (by omega) hl3 rfl, hl4, hk4⟩, hKt (hKt hw2 hkp3) (hKb _ _ _ _ (by omega) hl3 rfl rfl)⟩
      | ret => exact hp.2.elim
      | exit id => exact hp.2.elim
      | goto t => exact hp.2.elim
      | panic ch => exact hp.elim
      | outgrown => exact hp.elim
    · rintro e W2 (⟨⟨v, rfl⟩, xs, hs, hi, hl, hk⟩ | ⟨rfl, pre, hs, hi, hl, hk⟩)
      · exact ⟨none, _, by have := run_endLoop (P := P) hl (by rw [hrec]; simp); rw [hrec] at this; exact this, hdone _ xs _ (Nat.le_refl _) (hS.putObj _ hs (by omega) hl rfl) (hI.putObj _ hi (by omega) hl rfl) ((World.putObj_heap_other (by omega)).trans hk)⟩
      · exact hpan _ pre _ (Nat.le_refl _) hs hi hk
end Go.Proofs.Ytokhindolimchaa

/-
  Texts as rows of bytes (no program).
-/
namespace Go.Proofs.Ytokhindolimchaa
open Go.RowKit
set_option linter.unusedSimpArgs false
set_option linter.unusedVariables false

theorem hideB {p : Prop} (h : p) : Hid p := h
theorem len_is (s : ByteArray) : s.data.toList.length = s.size := Array.length_toList
/-- A text of these bytes. -/
def txt (l : List UInt8) : ByteArray := ⟨l.toArray⟩
theorem txt_size (l : List UInt8) : (txt l).size = l.length := by simp [txt, ByteArray.size]
theorem txt_app (l m : List UInt8) : txt l ++ txt m = txt (l ++ m) := by
  apply ByteArray.ext; simp [txt]
theorem txt_bytes (s : ByteArray) : txt s.data.toList = s := by
  apply ByteArray.ext; simp [txt]
theorem bytes_txt (l : List UInt8) : (txt l).data.toList = l := by simp [txt]
theorem txt_inj {l m : List UInt8} (h : txt l = txt m) : l = m := by rw [← bytes_txt l, h, bytes_txt]
theorem ret_str {a b : ByteArray} (h : a = b) : Ending.returned (.string a) = Ending.returned (.string b) := by rw [h]
theorem ret_txt {a b : List UInt8} (h : a = b) : Ending.returned (.string (txt a)) = Ending.returned (.string (txt b)) := by rw [h]
theorem str_txt {a b : ByteArray} (h : a = b) : Value.string a = Value.string b := by rw [h]
theorem app_txt (l : List UInt8) (s : ByteArray) : txt l ++ s = txt (l ++ s.data.toList) := by
  conv => lhs; rw [← txt_bytes s]
  exact txt_app _ _
theorem getK {s : ByteArray} {k : Nat} (h : k < s.size) (h' : k < s.data.toList.length) : s.data.toList[k] = s[k] := by
  simp [ByteArray.getElem_eq_getElem_data]
theorem getK? {s : ByteArray} {k : Nat} (h : k < s.size) : s.data.toList[k]? = some s[k] := by
  rw [List.getElem?_eq_getElem (by rw [len_is]; exact h), getK h]
theorem str_eq {a b : ByteArray} (h : (a.toList == b.toList) = true) : a = b := by
  have h' := eq_of_beq h
  rw [ByteArray.toList_eq, ByteArray.toList_eq] at h'
  rw [← txt_bytes a, ← txt_bytes b, h']
theorem str_ne {a b : ByteArray} (h : (a.toList == b.toList) = false) : ¬ a = b := fun e => by rw [e] at h; simp at h
theorem cut_txt (s : ByteArray) (a b : Nat) : s.extract a b = txt ((s.data.toList.drop a).take (b - a)) := by
  conv => lhs; rw [← txt_bytes s]
  exact ByteArray.extract_mk _ _ _
theorem u8_ne {c d : UInt8} (h : ¬ c = d) : ¬ (c.toNat : Int) = (d.toNat : Int) := fun e => h (UInt8.toNat_inj.1 (by omega))
theorem u8_le {c d : UInt8} (h : c ≤ d) : (c.toNat : Int) ≤ (d.toNat : Int) := by have := UInt8.le_iff_toNat_le.1 h; omega
theorem u8_not_le {c d : UInt8} (h : ¬ c ≤ d) : (d.toNat : Int) < (c.toNat : Int) := by
  have : ¬ c.toNat ≤ d.toNat := fun h' => h (UInt8.le_iff_toNat_le.2 h'); omega
theorem u8_wrap {x : Int} (h0 : 0 ≤ x) (h1 : x < 256) : IntKind.u8.wrap x = x := by
  simp [IntKind.wrap, show IntKind.u8.bits = 8 from rfl, show IntKind.u8.signed = false from rfl]; omega
theorem i64_wrap {x : Int} (h0 : -4611686018427387904 ≤ x) (h1 : x < 4611686018427387904) : IntKind.i64.wrap x = x := by
  have e : IntKind.i64.bits = 64 := rfl
  have e2 : IntKind.i64.signed = true := rfl
  simp [IntKind.wrap, e, e2]; omega
theorem u8_quo (c : UInt8) : IntKind.u8.wrap ((c.toNat : Int) / 16) = (c.toNat : Int) / 16 := by
  have := c.toNat_lt; exact u8_wrap (by omega) (by omega)
theorem u8_rem (c : UInt8) : ((c.toNat : Int)).tmod 16 = (c.toNat : Int) % 16 := Int.tmod_eq_emod_of_nonneg (by omega)
theorem run_cut {P : Program} {t : TypeId} (s : ByteArray) (a b : Nat) (h : P.underlying t = some .string) (h1 : a ≤ b) (h2 : b ≤ s.size) (w : World) :
    (Instr.slice t (.string s) (some (.int .i64 (a : Int))) (some (.int .i64 (b : Int))) none).run P w = .ok (.string (txt ((s.data.toList.drop a).take (b - a)))) w := by
  rw [run_slice_string w t s .i64 .i64 (a : Int) (b : Int) h (by omega) (by omega) (by omega), cut_txt]
  simp
theorem take_one {s : ByteArray} {k : Nat} (h : k < s.size) : (s.data.toList.drop k).take (k + 1 - k) = [s[k]] := by
  have h' : k < s.data.toList.length := by rw [len_is]; exact h
  rw [List.drop_eq_getElem_cons h', getK h]
  have : k + 1 - k = 1 := by omega
  rw [this]; rfl
theorem run_one {P : Program} {t : TypeId} {s : ByteArray} {k : Nat} (ht : P.underlying t = some .string) (h : k < s.size) {c : UInt8} (hc : s[k] = c) (w : World) :
    (Instr.slice t (.string s) (some (.int .i64 (k : Int))) (some (.int .i64 ((k : Int) + 1))) none).run P w = .ok (.string (txt [c])) w := by
  have := run_cut (P := P) (t := t) s k (k + 1) ht (by omega) (by omega) w
  rw [take_one h, hc] at this
  exact this
end Go.Proofs.Ytokhindolimchaa

/-
  Steps of paths: what makes a path right, and how a slice of steps lies in memory.
-/
namespace Go.Proofs.Ytokhindolimchaa
open Go.RowKit
set_option linter.unusedSimpArgs false
set_option linter.unusedVariables false

/-- A step of a path. -/
structure PS where
  named : Bool
  key : ByteArray
  pl : Int

def PS.zero : PS := ⟨false, ByteArray.empty, 0⟩
def stepAt (ps : List PS) (i : Nat) : PS := ps.getD i PS.zero
def stepB (x : PS) : Bool := (x.named && (textB x.key && decide (x.pl = 0))) || (!x.named && (decide (x.key.toList = []) && (decide (0 ≤ x.pl) && decide (x.pl ≤ 80))))
def pathB (ps : List PS) : Bool := decide (ps.length ≤ 10) && (List.range ps.length).all fun i => stepB (stepAt ps i)

theorem pathB_false {ps : List PS} {k : Nat} (hk : k < ps.length) (h : stepB (stepAt ps k) = false) : pathB ps = false := by
  unfold pathB
  rw [show ((List.range ps.length).all fun i => stepB (stepAt ps i)) = false from ?_, Bool.and_false]
  rw [List.all_eq_false]
  exact ⟨k, List.mem_range.2 hk, by simp [h]⟩

theorem pathB_all {ps : List PS} (h : ∀ k, k < ps.length → stepB (stepAt ps k) = true) : pathB ps = decide (ps.length ≤ 10) := by
  unfold pathB
  rw [show ((List.range ps.length).all fun i => stepB (stepAt ps i)) = true from ?_, Bool.and_true]
  rw [List.all_eq_true]
  exact fun k hk => h k (List.mem_range.1 hk)

/-- A slice of at most M steps, the texts of at most S bytes, below the block B. -/
def StepsIn (M S B : Nat) (w : World) (v : Value) (ps : List PS) : Prop :=
  ps.length ≤ M ∧ (∀ i, i < ps.length → (stepAt ps i).key.size ≤ S ∧ -9223372036854775808 ≤ (stepAt ps i).pl ∧ (stepAt ps i).pl ≤ 9223372036854775807) ∧
  ∃ a cap, v = .slice a ps.length cap ∧ (0 < ps.length → ∃ b o, a = some ⟨b, o, none⟩ ∧ b < B ∧ ∀ i, i < ps.length →
    w.cell? ⟨b, o + i * 3, none⟩ = some (.bool (stepAt ps i).named) ∧ w.cell? ⟨b, o + i * 3 + 1, none⟩ = some (.string (stepAt ps i).key) ∧ w.cell? ⟨b, o + i * 3 + 2, none⟩ = some (.int .i64 (stepAt ps i).pl))

theorem StepsIn.below {M S B : Nat} {w w' : World} {v : Value} {ps : List PS} (h : StepsIn M S B w v ps) (hb : Below B w w') : StepsIn M S B w' v ps := by
  obtain ⟨h1, h2, a, cap, e, h3⟩ := h
  refine ⟨h1, h2, a, cap, e, fun hl => ?_⟩
  obtain ⟨b, o, ea, hbB, hc⟩ := h3 hl
  exact ⟨b, o, ea, hbB, fun i hi => ⟨(below_cell hb hbB).trans (hc i hi).1, (below_cell hb hbB).trans (hc i hi).2.1, (below_cell hb hbB).trans (hc i hi).2.2⟩⟩

theorem StepsIn.wide {M S B B' : Nat} {w : World} {v : Value} {ps : List PS} (h : StepsIn M S B w v ps) (hb : B ≤ B') : StepsIn M S B' w v ps := by
  obtain ⟨h1, h2, a, cap, e, h3⟩ := h
  refine ⟨h1, h2, a, cap, e, fun hl => ?_⟩
  obtain ⟨b, o, ea, hbB, hc⟩ := h3 hl
  exact ⟨b, o, ea, by omega, hc⟩

theorem StepsIn.fit {M S B M' S' : Nat} {w : World} {v : Value} {ps : List PS} (h : StepsIn M S B w v ps) (h1 : ps.length ≤ M') (h2 : ∀ i, i < ps.length → (stepAt ps i).key.size ≤ S') : StepsIn M' S' B w v ps :=
  ⟨h1, fun i hi => ⟨h2 i hi, (h.2.1 i hi).2⟩, h.2.2⟩
end Go.Proofs.Ytokhindolimchaa

/-
  Turning and swapping ranges of a row, as functions of places. Plain mathematics.
-/
namespace Go.Proofs.Ytokhindolimchaa
open Go.RowKit
set_option linter.unusedSimpArgs false
set_option linter.unusedVariables false

/-- n cells from a on and from b on change places. -/
def swp (a b n : Nat) (f : Nat → Int) (p : Nat) : Int :=
  if a ≤ p ∧ p < a + n then f (b + (p - a)) else if b ≤ p ∧ p < b + n then f (a + (p - b)) else f p

/-- The cells from m on come ahead of those from a on. -/
def rot (a m b : Nat) (f : Nat → Int) (p : Nat) : Int :=
  if a ≤ p ∧ p < a + (b - m) then f (m + (p - a)) else if a + (b - m) ≤ p ∧ p < b then f (p - (b - m)) else f p

theorem swp_zero (a b : Nat) (f : Nat → Int) (p : Nat) : swp a b 0 f p = f p := by
  unfold swp; rw [if_neg (by omega), if_neg (by omega)]

theorem swp_succ {a b n : Nat} (h : a + (n + 1) ≤ b ∨ b + (n + 1) ≤ a) (f : Nat → Int) (p : Nat) :
    swp a b (n + 1) f p = if p = b + n then swp a b n f (a + n) else if p = a + n then swp a b n f (b + n) else swp a b n f p := by
  by_cases e1 : p = b + n
  · subst e1
    rw [if_pos rfl]
    unfold swp
    rw [if_neg (by omega), if_pos (by omega), if_neg (by omega), if_neg (by omega)]
    congr 1; omega
  rw [if_neg e1]
  by_cases e2 : p = a + n
  · subst e2
    rw [if_pos rfl]
    unfold swp
    rw [if_pos (by omega), if_neg (by omega), if_neg (by omega)]
    congr 1; omega
  rw [if_neg e2]
  unfold swp
  by_cases c1 : a ≤ p ∧ p < a + n
  · rw [if_pos (by omega), if_pos c1]
  · rw [if_neg (by omega), if_neg c1]
    by_cases c2 : b ≤ p ∧ p < b + n
    · rw [if_pos (by omega), if_pos c2]
    · rw [if_neg (by omega), if_neg c2]

theorem f_same {f : Nat → Int} {x y : Nat} (h : x = y) : f x = f y := by rw [h]

theorem rot_more {s i j : Nat} (h : j < i) (hj : 0 < j) (f : Nat → Int) (p : Nat) : rot (s + j) (s + i) (s + i + j) (swp s (s + i) j f) p = rot s (s + i) (s + i + j) f p := by
  simp only [rot, swp]
  repeat' split
  all_goals first | (exact f_same (by omega)) | (exfalso; omega)

theorem rot_less {s i j : Nat} (h : i < j) (h0 : 0 < i) (f : Nat → Int) (p : Nat) : rot s (s + i) (s + j) (swp s (s + j) i f) p = rot s (s + i) (s + i + j) f p := by
  simp only [rot, swp]
  repeat' split
  all_goals first | (exact f_same (by omega)) | (exfalso; omega)

theorem rot_same {s i : Nat} (f : Nat → Int) (p : Nat) : swp s (s + i) i f p = rot s (s + i) (s + i + i) f p := by
  simp only [rot, swp]
  repeat' split
  all_goals first | (exact f_same (by omega)) | (exfalso; omega)
end Go.Proofs.Ytokhindolimchaa
