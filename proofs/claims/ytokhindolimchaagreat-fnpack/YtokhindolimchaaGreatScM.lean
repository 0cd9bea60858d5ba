/-
  Trees whose rows lie in blocks of a given kind; what a reader's call leaves.
-/
import Derived.Test.YtokhindolimchaaGreatGupV
import Derived.Test.YtokhindolimchaaGreatSit
import Derived.Test.YtokhindolimchaaGreatGotP
import Derived.Test.YtokhindolimchaaGreatRdF
import Derived.Test.YtokhindolimchaaGreatMapP
import Derived.Test.YtokhindolimchaaGreatSpF
namespace Go.Proofs.YtokhindolimchaaGreat
open Go.RowKit
set_option linter.unusedSimpArgs false
set_option linter.unusedVariables false

def StrsP (P : Nat → Prop) (w : World) (v : Value) (l : List ByteArray) : Prop :=
  l.length ≤ 8796093022208 ∧ (∀ i, i < l.length → (keyAt l i).size ≤ 140737488355328) ∧
  ∃ a cap, v = .slice a l.length cap ∧ (0 < l.length → ∃ b o, a = some ⟨b, o, none⟩ ∧ P b ∧ ∀ i, i < l.length → w.cell? ⟨b, o + i, none⟩ = some (.string (keyAt l i)))
def TItemsP (P : Nat → Prop) (w : World) (it : Value) (n : Nat) (Q : Nat → Value → Prop) : Prop :=
  n ≤ 100000 ∧ ∃ a cap, it = .slice a n cap ∧ (0 < n → ∃ b, a = some ⟨b, 0, none⟩ ∧ P b ∧ ∀ j, j < n → ∃ t x, w.cell? ⟨b, j, none⟩ = some (.iface t x) ∧ Q j (.iface t x))
/-- As TreeAt, the rows in blocks that meet 'P'. -/
def TreeP (P : Nat → Prop) (w : World) : Nat → VT → Value → Prop
  | 0, _, _ => False
  | f + 1, .mk kind n s keys kids, v =>
    (kind = 1 ∧ n = 0 ∧ s = ByteArray.empty ∧ keys = [] ∧ kids = [] ∧ v = .iface 88 (.agg #[])) ∨
    (kind = 2 ∧ s = ByteArray.empty ∧ keys = [] ∧ kids = [] ∧ v = .iface 90 (.agg #[.int .i64 n])) ∨
    (kind = 3 ∧ s = ByteArray.empty ∧ keys = [] ∧ kids = [] ∧ v = .iface 92 (.agg #[.int .i64 n])) ∨
    (kind = 4 ∧ n = 0 ∧ keys = [] ∧ kids = [] ∧ v = .iface 95 (.agg #[.string s])) ∨
    (kind = 5 ∧ n = 0 ∧ s = ByteArray.empty ∧ keys = [] ∧ ∃ it, v = .iface 113 (.agg #[it]) ∧ TItemsP P w it kids.length (fun j u => TreeP P w f (kidT kids j) u)) ∨
    (kind = 6 ∧ n = 0 ∧ s = ByteArray.empty ∧ ∃ ks it, v = .iface 116 (.agg #[ks, it]) ∧ StrsP P w ks keys ∧ TItemsP P w it kids.length (fun j u => TreeP P w f (kidT kids j) u))
theorem cellB {w w' : World} {b o : Nat} (h : w'.heap[b]? = w.heap[b]?) : w'.cell? ⟨b, o, none⟩ = w.cell? ⟨b, o, none⟩ := World.cell?_of_block (w := w) (a := ⟨b, o, none⟩) h
theorem StrsP.keep {P P' : Nat → Prop} {w w' : World} {v : Value} {l : List ByteArray} (hk : ∀ b, P b → w'.heap[b]? = w.heap[b]?) (hP : ∀ b, P b → P' b) (h : StrsP P w v l) : StrsP P' w' v l := by
  obtain ⟨h1, h2, a, cap, e, h3⟩ := h
  refine ⟨h1, h2, a, cap, e, fun hp => ?_⟩
  obtain ⟨b, o, e2, hb, hc⟩ := h3 hp
  exact ⟨b, o, e2, hP b hb, fun i hi => (cellB (hk b hb)).trans (hc i hi)⟩
theorem StrsP.at {P : Nat → Prop} {w : World} {v : Value} {l : List ByteArray} {B : Nat} (h : StrsP P w v l) (hB : ∀ b, P b → b < B) : StrsAt B w v l := by
  obtain ⟨h1, h2, a, cap, e, h3⟩ := h
  refine ⟨h1, h2, a, cap, e, fun hp => ?_⟩
  obtain ⟨b, o, e2, hb, hc⟩ := h3 hp
  exact ⟨b, o, e2, hB b hb, hc⟩
theorem TreeP.keep {P P' : Nat → Prop} {w w' : World} (hk : ∀ b, P b → w'.heap[b]? = w.heap[b]?) (hP : ∀ b, P b → P' b) : ∀ {f : Nat} {t : VT} {v : Value}, TreeP P w f t v → TreeP P' w' f t v := by
  intro f
  induction f with
  | zero => intro t v h; exact h.elim
  | succ f ih =>
    intro t v h
    obtain ⟨kind, n, s, keys, kids⟩ := t
    have hit : ∀ it, TItemsP P w it kids.length (fun j u => TreeP P w f (kidT kids j) u) → TItemsP P' w' it kids.length (fun j u => TreeP P' w' f (kidT kids j) u) := by
      rintro it ⟨h0, a, cap, e, hx⟩
      refine ⟨h0, a, cap, e, fun hn => ?_⟩
      obtain ⟨b, ea, h2, h3⟩ := hx hn
      refine ⟨b, ea, hP b h2, fun j hj => ?_⟩
      obtain ⟨t, x, hcc, hv⟩ := h3 j hj
      exact ⟨t, x, (cellB (hk b h2)).trans hcc, ih hv⟩
    rcases h with h | h | h | h | ⟨h1, h2, h3, h4, it, e, hi⟩ | ⟨h1, h2, h3, ks, it, e, hs, hi⟩
    · exact Or.inl h
    · exact Or.inr (Or.inl h)
    · exact Or.inr (Or.inr (Or.inl h))
    · exact Or.inr (Or.inr (Or.inr (Or.inl h)))
    · exact Or.inr (Or.inr (Or.inr (Or.inr (Or.inl ⟨h1, h2, h3, h4, it, e, hit it hi⟩))))
    · exact Or.inr (Or.inr (Or.inr (Or.inr (Or.inr ⟨h1, h2, h3, ks, it, e, hs.keep hk hP, hit it hi⟩))))
theorem TreeP.at {P : Nat → Prop} {w : World} {B : Nat} (hB : ∀ b, P b → b < B) : ∀ {f : Nat} {t : VT} {v : Value}, TreeP P w f t v → TreeAt B w f t v := by
  intro f
  induction f with
  | zero => intro t v h; exact h.elim
  | succ f ih =>
    intro t v h
    obtain ⟨kind, n, s, keys, kids⟩ := t
    have hit : ∀ it, TItemsP P w it kids.length (fun j u => TreeP P w f (kidT kids j) u) → TItems B w it kids.length (fun j u => TreeAt B w f (kidT kids j) u) := by
      rintro it ⟨h0, a, cap, e, hx⟩
      refine ⟨h0, a, cap, e, fun hn => ?_⟩
      obtain ⟨b, ea, h2, h3⟩ := hx hn
      refine ⟨b, ea, hB b h2, fun j hj => ?_⟩
      obtain ⟨t, x, hcc, hv⟩ := h3 j hj
      exact ⟨t, x, hcc, ih hv⟩
    rcases h with h | h | h | h | ⟨h1, h2, h3, h4, it, e, hi⟩ | ⟨h1, h2, h3, ks, it, e, hs, hi⟩
    · exact Or.inl h
    · exact Or.inr (Or.inl h)
    · exact Or.inr (Or.inr (Or.inl h))
    · exact Or.inr (Or.inr (Or.inr (Or.inl h)))
    · exact Or.inr (Or.inr (Or.inr (Or.inr (Or.inl ⟨h1, h2, h3, h4, it, e, hit it hi⟩))))
    · exact Or.inr (Or.inr (Or.inr (Or.inr (Or.inr ⟨h1, h2, h3, ks, it, e, hs.at hB, hit it hi⟩))))
theorem TreeP.iface {P : Nat → Prop} {w : World} {f : Nat} {t : VT} {v : Value} (h : TreeP P w f t v) : ∃ ty x, v = .iface ty x := by
  cases f with
  | zero => exact h.elim
  | succ f =>
    obtain ⟨kind, n, s, keys, kids⟩ := t
    rcases h with ⟨_, _, _, _, _, e⟩ | ⟨_, _, _, _, e⟩ | ⟨_, _, _, _, e⟩ | ⟨_, _, _, _, e⟩ | ⟨_, _, _, _, _, e, _⟩ | ⟨_, _, _, _, _, e, _⟩ <;> exact ⟨_, _, e⟩
/-- What is new since a world. -/
def NewB (w w' : World) (b : Nat) : Prop := w.heap.size ≤ b ∧ b < w'.heap.size
/-- What a reading answers: a tree in new memory, the reader further on; or it gives up. -/
def ReadOr (r : Option (VT × Nat)) (f rb : Nat) (s : ByteArray) (p : Nat) (w : World) (e : Ending) (w' : World) : Prop :=
  (∃ t q x, r = some (t, q) ∧ e = .returned x ∧ TreeP (NewB w w') w' f t x ∧ BrAt w' rb s q ∧ But rb w w' ∧ p < q) ∨ (r = none ∧ e = gup ∧ But rb w w')
/-- A function that reads so. -/
def GAll (G : FuncId) (L : List UInt8) (R : Nat → Option (VT × Nat)) (f rb : Nat) (s : ByteArray) : Prop :=
  ∀ p w, BrAt w rb s p → s.size < p + f → Calls Tryz.prog G #[.pointer (some ⟨rb, 0, none⟩)] w (ReadOr (R p) f rb s p w)
theorem leafP {P : Nat → Prop} {w : World} (f : Nat) : TreeP P w (f + 1) nullT (.iface 88 (.agg #[])) ∧ (∀ n, TreeP P w (f + 1) (boolT n) (.iface 90 (.agg #[.int .i64 n]))) ∧ (∀ n, TreeP P w (f + 1) (numT n) (.iface 92 (.agg #[.int .i64 n]))) ∧ ∀ s, TreeP P w (f + 1) (wordT s) (.iface 95 (.agg #[.string s])) :=
  ⟨.inl ⟨rfl, rfl, rfl, rfl, rfl, rfl⟩, fun n => .inr (.inl ⟨rfl, rfl, rfl, rfl, rfl⟩), fun n => .inr (.inr (.inl ⟨rfl, rfl, rfl, rfl, rfl⟩)), fun s => .inr (.inr (.inr (.inl ⟨rfl, rfl, rfl, rfl, rfl⟩)))⟩
theorem But.size_le {rb : Nat} {a b : World} (h : But rb a b) : a.heap.size ≤ b.heap.size := h.size

theorem getB {s : ByteArray} {p : Nat} (h : p < s.size) : byAt s.data.toList p = s[p].toNat := by
  unfold byAt
  rw [List.getD_eq_getElem?_getD, getK? h]
  rfl
/-- A reader behind so many bytes more. -/
theorem BrAt.skip {w : World} {rb p n : Nat} {s : ByteArray} (h : BrAt w rb s p) (hp : p + n ≤ s.size) : BrAt (w.setCell ⟨rb, 1, none⟩ (.int .i64 ((p + n : Nat) : Int))) rb s (p + n) :=
  ⟨by simpa using h.lt, by rw [World.cell?_setCell_other (h := by simp)]; exact h.src, World.cell?_setCell_same _ _ _ h.place, by rw [World.frozen?_setCell]; exact h.free, hp⟩

set_option maxRecDepth 100000 in
set_option maxHeartbeats 1600000 in
theorem take_yes {rb p n : Nat} {s : ByteArray} {w : World} (h : BrAt w rb s p) (hp : p + n ≤ s.size) (hs : s.size ≤ 1048576) :
    Calls Tryz.prog 57 #[.pointer (some ⟨rb, 0, none⟩), .int .i64 n] w fun e w' => e = .returned (.string (cutT s.data.toList p n)) ∧ BrAt w' rb s (p + n) ∧ But rb w w' := by
  have H := hideB h
  have h1 := h.src
  have h2 := h.place
  have h3 := h.free
  have h4 := h.lt
  clear h
  have hgt : ¬ ((s.size : Int) - (p : Int) < (n : Int)) := by omega
  have hgt2 : decide ((s.size : Int) - (p : Int) < (n : Int)) = false := by simpa using hgt
  go_enter Tryz.func57, Tryz.ntmps57
  go_wp2_with fail
  go_quiet (fail)
  have HD1 := hideB (below_drewB (w := w) nq)
  have HR1 := hideB (H.out.below HD1.out)
  have k1 := HR1.out.src
  have k2 := HR1.out.place
  have k3 := HR1.out.free
  generalize w.drewN nq = W1 at HR1 HD1 k1 k2 k3 ⊢
  clear nq h1 h2 h3
  have HR2 := hideB (HR1.out.skip hp)
  have e1 : ((p + n : Nat) : Int) = (p : Int) + (n : Int) := by omega
  rw [e1] at HR2
  go_wp2_with fail
  have l1 := HR2.out.src
  have l2 := HR2.out.place
  have HB2 := hideB ((But.of_below (rb := rb) HD1.out).trans (But.of_set 1 (.int .i64 ((p : Int) + (n : Int)))))
  rw [e1] at l2
  generalize W1.setCell ⟨rb, 1, none⟩ (.int .i64 ((p : Int) + (n : Int))) = W2 at HR2 l1 l2 HB2 ⊢
  clear k1 k2 k3
  have hcut : ∀ w, (Instr.slice 9 (.string s) (some (.int .i64 (p : Int))) (some (.int .i64 ((p : Int) + (n : Int)))) none).run Tryz.prog w = .ok (.string (cutT s.data.toList p n)) w := fun w => by
    have := run_cut (P := Tryz.prog) (t := 9) s p (p + n) Tryz.underlying9 (by omega) hp w
    rw [e1, Nat.add_sub_cancel_left] at this
    exact this
  go_quiet (fail)
  have HD3 := hideB (below_drewB (w := W2) nq)
  have HR3 := hideB (HR2.out.below HD3.out)
  generalize W2.drewN nq = W3 at HR3 HD3 ⊢
  go_wp2_with fail
  go_ret
  exact ⟨rfl, HR3.out, HB2.out.trans (But.of_below HD3.out)⟩

set_option maxRecDepth 100000 in
set_option maxHeartbeats 1600000 in
theorem take_no {rb p n : Nat} {s : ByteArray} {w : World} (h : BrAt w rb s p) (hp : s.size < p + n) (hs : s.size ≤ 1048576) (hn : n ≤ 1000000000000000) :
    Calls Tryz.prog 57 #[.pointer (some ⟨rb, 0, none⟩), .int .i64 n] w fun e w' => e = gup ∧ But rb w w' := by
  have H := hideB h
  have h1 := h.src
  have h2 := h.place
  have h3 := h.free
  have h4 := h.lt
  have h5 := h.le
  clear h
  have hgt : ((s.size : Int) - (p : Int) < (n : Int)) := by omega
  have hgt2 : decide ((s.size : Int) - (p : Int) < (n : Int)) = true := by simpa using hgt
  go_enter Tryz.func57, Tryz.ntmps57
  go_wp2_with fail
  go_quiet (fail)
  have HD1 := hideB (below_drewB (w := w) nq)
  go_wp2_with fail
  exact ⟨rfl, rfl, But.of_below HD1.out⟩
theorem within_yes (n : Nat) (w : World) (h : n ≤ 1000000000000000) : Calls Tryz.prog 91 #[.int .u64 n] w fun e w' => e = .returned (.int .i64 n) ∧ w' = w := by
  have h1 : ¬ (1000000000000000 : Int) < (n : Int) := by omega
  go_enter Tryz.func91, Tryz.ntmps91
  go_wp2_with fail
  go_ret
  exact ⟨rfl, rfl⟩
theorem within_no (n : Nat) (w : World) (h : 1000000000000000 < n) : Calls Tryz.prog 91 #[.int .u64 n] w fun e w' => e = gup ∧ w' = w := by
  have h1 : (1000000000000000 : Int) < (n : Int) := by omega
  go_enter Tryz.func91, Tryz.ntmps91
  go_wp2_with fail
  exact ⟨rfl, rfl, rfl⟩
end Go.Proofs.YtokhindolimchaaGreat

/-
  The program's readFront, over whatever reads a value.
-/
namespace Go.Proofs.YtokhindolimchaaGreat
open Go.RowKit
set_option linter.unusedSimpArgs false
set_option linter.unusedVariables false

/-- What is read of a text, and how much of it. -/
def frontV (L : List UInt8) (r : Option (VT × Nat)) : Option (List VN × Nat) := if 4000 < L.length then none else okOf (L.length + 1) r
def nsOf (r : Option (List VN × Nat)) : List VN := match r with
  | none => []
  | some (ns, _) => ns
def usedOf (r : Option (List VN × Nat)) : Nat := match r with
  | none => 0
  | some (_, q) => q

set_option maxRecDepth 100000 in
set_option maxHeartbeats 3200000 in
theorem readFront_any (G : FuncId) (R : Nat → Option (VT × Nat)) (rb : Nat) (s : ByteArray) (hG : s.size ≤ 4000 → GAll G s.data.toList R (s.size + 1) rb s) (hok : s.size ≤ 4000 → RdOk (s.size + 1) s.data.toList R) (hcf : ∀ w, (callFunc G #[.pointer (some ⟨rb, 0, none⟩)]).run Tryz.prog w = .ok (.enter G #[.pointer (some ⟨rb, 0, none⟩)]) w) (w : World) (h : BrAt w rb s 0) (hs : s.size ≤ 9223372036854775807) :
    Calls Tryz.prog 27 #[.pointer (some ⟨rb, 0, none⟩), .func (.func G) #[.pointer (some ⟨rb, 0, none⟩)] #[]] w fun e w' => ∃ r base KV IV, e = .returned (.tuple #[r, .int .i64 (usedOf (frontV s.data.toList (R 0))), .bool (frontV s.data.toList (R 0)).isSome]) ∧ w.heap.size ≤ base ∧ base ≤ w'.heap.size ∧ Nest base w' r (nsOf (frontV s.data.toList (R 0))) KV IV ∧ But rb w w' := by
  have H := hideIt h
  have hlen := len_is s
  have c0 := h.src
  have hrb := h.lt
  clear h
  by_cases hbig : 4000 < s.size
  · have hbig' : (4000 : Int) < (s.size : Int) := by omega
    have HV : Hid (frontV s.data.toList (R 0) = none) := by rw [Hid]; unfold frontV; rw [if_pos (by omega)]
    go_enter Tryz.func27, Tryz.ntmps27
    go_wp2_with fail
    refine bodyPost_ret (v := .tuple #[.slice none 0 0, .int .i64 0, .bool false]) (by simp [results, Tryz.results27, go_sem]) rfl ?_
    rw [HV.out]
    exact ⟨.slice none 0 0, w.heap.size, fun _ => undef, fun _ => undef, rfl, Nat.le_refl _, Nat.le_refl _, Nest.nil _ _ _ _, But.refl _ _⟩
  have hbig' : ¬ (4000 : Int) < (s.size : Int) := by omega
  have HG := hideIt (hG (by omega))
  have HOK := hideIt (hok (by omega))
  have HFV : Hid (frontV s.data.toList (R 0) = okOf (s.size + 1) (R 0)) := by rw [Hid]; unfold frontV; rw [if_neg (by omega), hlen]
  rw [HFV.out]
  have HBA : Hid (Below w.heap.size w (w.alloc (.cells #[.bool false] 4))) := (Below.refl _ _).alloc (Nat.le_refl _) _
  have HC := hideIt (HG.out 0 _ (H.out.below HBA.out) (by omega))
  have HLEN := hideIt hlen
  clear hG hok hlen
  have hz1 : (w.alloc (.cells #[.bool false] 4)).heap.size = w.heap.size + 1 := by simp
  have HKEEP : Hid (∀ w', But rb (w.alloc (.cells #[.bool false] 4)) w' → w'.cell? ⟨w.heap.size, 0, none⟩ = some (.bool false) ∧ w'.frozen? ⟨w.heap.size, 0, none⟩ = false) := fun w' hb => by
    have hh := (hb.block w.heap.size (by rw [hz1]; omega) (by omega)).trans (heap_alloc_new w (.cells #[.bool false] 4))
    exact ⟨by rw [Lib.cell_of_heap hh]; rfl, Lib.frozen_of_heap hh 0⟩
  cases hr : R 0 with
  | none =>
    have HO : Hid (okOf (s.size + 1) (none : Option (VT × Nat)) = none) := rfl
    rw [hr] at HC
    have hcn : Calls Tryz.prog G #[.pointer (some ⟨rb, 0, none⟩)] (w.alloc (.cells #[.bool false] 4)) fun e w' => e = gup ∧ But rb (w.alloc (.cells #[.bool false] 4)) w' := HC.out.mono (by
      rintro e w' (⟨t, q, x, h1, _⟩ | ⟨_, h2, h3⟩)
      · cases h1
      · exact ⟨h2, h3⟩)
    have HU := hideIt (unlessV_no G (.pointer (some ⟨rb, 0, none⟩)) w _ hcf hcn HKEEP.out)
    clear hcn HC
    go_enter Tryz.func27, Tryz.ntmps27
    go_wp2_with fail
    refine HU.out.mono ?_
    rintro e w1 ⟨rfl, w9, hb9, rfl⟩
    have HB1 : Hid (But rb w (w9.setCell ⟨w.heap.size, 0, none⟩ (.bool false))) := by
      have h1 := (But.of_below (rb := rb) HBA.out).trans hb9
      exact ⟨h1.os, h1.tape, h1.output, by simpa using h1.size, fun c hc hn => (Below.heap_setCell _ _ _ _ (by show c ≠ w.heap.size; omega)).trans (h1.block c hc hn)⟩
    clear hb9
    generalize w9.setCell ⟨w.heap.size, 0, none⟩ (.bool false) = w1 at HB1 ⊢
    go_wp2_with fail
    refine bodyPost_ret (v := .tuple #[.slice none 0 0, .int .i64 0, .bool false]) (by simp [results, Tryz.results27, go_sem]) rfl ?_
    rw [HO.out]
    exact ⟨.slice none 0 0, w.heap.size, fun _ => undef, fun _ => undef, rfl, Nat.le_refl _, HB1.out.size, Nest.nil _ _ _ _, HB1.out⟩
  | some tq =>
    obtain ⟨t, q⟩ := tq
    obtain ⟨hq1, hq2, hq3, hq4, _⟩ := HOK.out 0 t q hr
    have hqs : q ≤ 4000 := by have := HLEN.out; omega
    have hnn : (layT (s.size + 1) t 0).length ≤ 4000 := by omega
    have HFT := hideIt (fits_lay hq4 0 (by omega))
    rw [hr] at HC
    obtain ⟨ns, hns⟩ : ∃ ns, layT (s.size + 1) t 0 = ns := ⟨_, rfl⟩
    have HO : Hid (okOf (s.size + 1) (some (t, q)) = if okB ns = true then some (ns, q) else none) := by rw [Hid, ← hns]; rfl
    rw [hns] at hnn HFT
    have HNS := hideIt hns
    clear hq3 hq4 hns
    have hcy : Calls Tryz.prog G #[.pointer (some ⟨rb, 0, none⟩)] (w.alloc (.cells #[.bool false] 4)) fun e w' => ∃ x, e = .returned x ∧ TreeP (NewB (w.alloc (.cells #[.bool false] 4)) w') w' (s.size + 1) t x ∧ BrAt w' rb s q ∧ But rb (w.alloc (.cells #[.bool false] 4)) w' := HC.out.mono (by
      rintro e w' (⟨t', q', x, h1, h2, h3, h4, h5, _⟩ | ⟨h1, _⟩)
      · simp only [Option.some.injEq, Prod.mk.injEq] at h1
        obtain ⟨rfl, rfl⟩ := h1
        exact ⟨x, h2, h3, h4, h5⟩
      · cases h1)
    clear HC
    have HU := hideIt (unlessV_yes G (.pointer (some ⟨rb, 0, none⟩)) w (fun x w' => TreeP (NewB (w.alloc (.cells #[.bool false] 4)) w') w' (s.size + 1) t x ∧ BrAt w' rb s q ∧ But rb (w.alloc (.cells #[.bool false] 4)) w') hcf hcy (fun x w' hz => HKEEP.out w' hz.2.2))
    clear hcy
    go_enter Tryz.func27, Tryz.ntmps27
    go_wp2_with fail
    refine HU.out.mono ?_
    rintro e w1 ⟨x, rfl, w9, ⟨htr, hbr9, hb9⟩, rfl⟩
    have HB1 : Hid (But rb w (w9.setCell ⟨w.heap.size, 0, none⟩ (.bool true))) := by
      have h1 := (But.of_below (rb := rb) HBA.out).trans hb9
      exact ⟨h1.os, h1.tape, h1.output, by simpa using h1.size, fun c hc hn => (Below.heap_setCell _ _ _ _ (by show c ≠ w.heap.size; omega)).trans (h1.block c hc hn)⟩
    have HT1 : Hid (TreeAt (w9.setCell ⟨w.heap.size, 0, none⟩ (.bool true)).heap.size (w9.setCell ⟨w.heap.size, 0, none⟩ (.bool true)) (s.size + 1) t x) :=
      (htr.keep (P' := fun b => b < (w9.setCell ⟨w.heap.size, 0, none⟩ (.bool true)).heap.size) (fun b hb' => Below.heap_setCell _ _ _ _ (by show b ≠ w.heap.size; have := hb'.1; omega)) (fun b hb' => by simpa using hb'.2)).at (fun b hb' => hb')
    have HR1 : Hid (BrAt (w9.setCell ⟨w.heap.size, 0, none⟩ (.bool true)) rb s q) := hbr9.keep (Below.heap_setCell _ _ _ _ (by show rb ≠ w.heap.size; omega)) (by simp)
    clear htr hbr9 hb9
    generalize w9.setCell ⟨w.heap.size, 0, none⟩ (.bool true) = w1 at HB1 HT1 HR1 ⊢
    obtain ⟨ty, xx, rfl⟩ := HT1.out.iface
    have z1 := HB1.out.size
    have HRN := hideIt (rightNodes_any (s.size + 1) t _ ns w1 HT1.out HNS.out (by omega) HFT.out)
    go_wp2_with fail
    refine HRN.out.mono ?_
    rintro e w2 ⟨r, base, KV, IV, rfl, hb1, hb2, hn2, hbl2⟩
    have HR2 := hideIt (HR1.out.below hbl2)
    have c2 := HR2.out.place
    have HB2 := hideIt (HB1.out.next (hbl2.mono z1))
    have HN2 := hideIt hn2
    obtain ⟨ar, cr, er⟩ := own_slice hn2.row
    obtain ⟨M, hM⟩ : ∃ M, (rightNs ns).length = M := ⟨_, rfl⟩
    rw [hM] at er
    subst er
    clear hn2 hbl2 hM
    cases hok : okB ns
    · have HRN : Hid (rightNs ns = []) := by rw [Hid]; unfold rightNs; rw [hok]; rfl
      rw [hok] at HO
      go_wp2_with fail
      refine bodyPost_ret (v := .tuple #[.slice none 0 0, .int .i64 0, .bool false]) (by simp [results, Tryz.results27, go_sem]) rfl ?_
      rw [HO.out]
      exact ⟨.slice none 0 0, w2.heap.size, fun _ => undef, fun _ => undef, rfl, HB2.out.size, Nat.le_refl _, Nest.nil _ _ _ _, HB2.out⟩
    · have HRN : Hid (rightNs ns = ns) := by rw [Hid]; unfold rightNs; rw [hok]; rfl
      rw [hok] at HO
      rw [HRN.out] at HN2
      go_wp2_with fail
      go_quiet (fail)
      have HB3 := hideIt (HB2.out.trans (But.of_below (below_drewB (w := w2) nq)))
      have HN3 := hideIt (HN2.out.below (below_drewB (w := w2) nq))
      have hb3 : base ≤ (w2.drewN nq).heap.size := hb2
      generalize w2.drewN nq = w3 at HB3 HN3 hb3 ⊢
      go_wp2_with fail
      refine bodyPost_ret (v := .tuple #[.slice ar M cr, .int .i64 q, .bool true]) (by simp [results, Tryz.results27, go_sem]) rfl ?_
      rw [HO.out]
      exact ⟨.slice ar M cr, base, KV, IV, rfl, Nat.le_trans z1 hb1, hb3, HN3.out, HB3.out⟩
end Go.Proofs.YtokhindolimchaaGreat

/-
  What a reading of a text's front answers.
-/
namespace Go.Proofs.YtokhindolimchaaGreat
open Go.RowKit
set_option linter.unusedSimpArgs false
set_option linter.unusedVariables false

/-- A function from a text to nodes, how far it read, and whether it did. -/
def Fronts (F : FuncId) (s : ByteArray) (V : Option (List VN × Nat)) : Prop :=
  ∀ w, Calls Tryz.prog F #[.string s] w fun e w' => ∃ r base KV IV, e = .returned (.tuple #[r, .int .i64 (usedOf V), .bool V.isSome]) ∧ w.heap.size ≤ base ∧ base ≤ w'.heap.size ∧ Nest base w' r (nsOf V) KV IV ∧ Below w.heap.size w w'
end Go.Proofs.YtokhindolimchaaGreat

/-
  The specification's l3Rc: its place in memory, numbers in bytes and texts.
-/
namespace Go.Proofs.YtokhindolimchaaGreat
open Go.RowKit
set_option linter.unusedSimpArgs false
set_option linter.unusedVariables false

/-- The reader of the text 's' in block 'rb': behind 'p' bytes, spoilt or not, so many values so far. -/
structure ScAt (w : World) (rb : Nat) (s : ByteArray) (p : Nat) (bad : Bool) (c : Nat) : Prop where
  blk : w.heap[rb]? = some (.cells #[.string s, .int .i64 p, .bool bad, .int .i64 c] 49 (0, 0))
  le : p ≤ s.size
  few : c ≤ 100
theorem cellSc {w : World} {b i : Nat} {cs : Array Value} {T : TypeId} {z : Nat × Nat} {x : Value} (h : w.heap[b]? = some (.cells cs T z)) (hx : cs[i]? = some x) : w.cell? ⟨b, i, none⟩ = some x := by
  rw [Lib.cell_of_heap h]; exact hx
theorem ltH {w : World} {b : Nat} {o : Obj} (h : w.heap[b]? = some o) : b < w.heap.size := by
  rcases Nat.lt_or_ge b w.heap.size with h' | h'
  · exact h'
  · rw [Array.getElem?_eq_none h'] at h; cases h
theorem setH {w : World} {b i : Nat} {cs : Array Value} {T : TypeId} {z : Nat × Nat} (h : w.heap[b]? = some (.cells cs T z)) (u : Value) : (w.setCell ⟨b, i, none⟩ u).heap[b]? = some (.cells (cs.setIfInBounds i u) T z) := by
  simp [World.setCell, Array.getElem?_modify, h]
theorem ScAt.lt {w : World} {rb p c : Nat} {s : ByteArray} {bad : Bool} (h : ScAt w rb s p bad c) : rb < w.heap.size := ltH h.blk
theorem ScAt.cells {w : World} {rb p c : Nat} {s : ByteArray} {bad : Bool} (h : ScAt w rb s p bad c) : w.cell? ⟨rb, 0, none⟩ = some (.string s) ∧ w.cell? ⟨rb, 1, none⟩ = some (.int .i64 p) ∧ w.cell? ⟨rb, 2, none⟩ = some (.bool bad) ∧ w.cell? ⟨rb, 3, none⟩ = some (.int .i64 c) :=
  ⟨cellSc h.blk rfl, cellSc h.blk rfl, cellSc h.blk rfl, cellSc h.blk rfl⟩
theorem ScAt.free {w : World} {rb p c : Nat} {s : ByteArray} {bad : Bool} (h : ScAt w rb s p bad c) (i : Nat) : w.frozen? ⟨rb, i, none⟩ = false := Lib.frozen_of_heap h.blk i
theorem ScAt.keep {w w' : World} {rb p c : Nat} {s : ByteArray} {bad : Bool} (h : ScAt w rb s p bad c) (hb : w'.heap[rb]? = w.heap[rb]?) : ScAt w' rb s p bad c := ⟨hb.trans h.blk, h.le, h.few⟩
theorem ScAt.below {w w' : World} {rb p c : Nat} {s : ByteArray} {bad : Bool} (h : ScAt w rb s p bad c) (hb : Below w.heap.size w w') : ScAt w' rb s p bad c := h.keep (hb.block rb h.lt)
theorem ScAt.setP {w : World} {rb p c q : Nat} {s : ByteArray} {bad : Bool} (h : ScAt w rb s p bad c) (hq : q ≤ s.size) : ScAt (w.setCell ⟨rb, 1, none⟩ (.int .i64 q)) rb s q bad c := ⟨setH h.blk _, hq, h.few⟩
theorem ScAt.setB {w : World} {rb p c : Nat} {s : ByteArray} {bad : Bool} (h : ScAt w rb s p bad c) (x : Bool) : ScAt (w.setCell ⟨rb, 2, none⟩ (.bool x)) rb s p x c := ⟨setH h.blk _, h.le, h.few⟩
theorem ScAt.setN {w : World} {rb p c d : Nat} {s : ByteArray} {bad : Bool} (h : ScAt w rb s p bad c) (hd : d ≤ 100) : ScAt (w.setCell ⟨rb, 3, none⟩ (.int .i64 d)) rb s p bad d := ⟨setH h.blk _, h.le, hd⟩
/-- The reader has been spoilt. -/
def Spoilt (w : World) (rb : Nat) (s : ByteArray) (c : Nat) : Prop := ∃ p, ScAt w rb s p true c

set_option maxRecDepth 100000 in
set_option maxHeartbeats 3200000 in
theorem scBig_any {rb p c : Nat} {s : ByteArray} {bad : Bool} {w : World} (h : ScAt w rb s p bad c) (hs : s.size ≤ 4000) (m : Nat) (hm : 1 ≤ m) (hm8 : m ≤ 8) :
    Calls Tryz.prog 85 #[.pointer (some ⟨rb, 0, none⟩), .int .i64 m] w fun e w' => But rb w w' ∧
      ((∃ n q, bigS s.data.toList p m = some (n, q) ∧ e = .returned (.int .i64 n) ∧ ScAt w' rb s q bad c ∧ n ≤ 256000000000000255) ∨ (bigS s.data.toList p m = none ∧ e = .returned (.int .i64 (-1)) ∧ Spoilt w' rb s c)) := by
  have H := hideB h
  obtain ⟨c0, c1, c2, c3⟩ := h.cells
  have f1 := h.free 1
  have f2 := h.free 2
  have hle := h.le
  have hlen := len_is s
  have hrb := h.lt
  clear h
  by_cases hfit : p + m ≤ s.size
  rotate_left
  · have hgt : (s.size : Int) < (p : Int) + (m : Int) := by omega
    have HN : Hid (bigS s.data.toList p m = none) := by rw [Hid]; unfold bigS; rw [if_neg (fun h => hfit (by have := h.1; omega))]
    go_enter Tryz.func85, Tryz.ntmps85
    go_wp2_with fail
    go_quiet (fail)
    have HD1 := hideB (below_drewB (w := w) nq)
    have HR1 := hideB (H.out.below HD1.out)
    have k2 := HR1.out.free 2
    generalize w.drewN nq = W1 at HR1 HD1 k2 ⊢
    clear nq c0 c1 c2 c3 f1 f2
    have d2 := HR1.out.cells.2.2.1
    go_wp2_with fail
    go_ret
    exact ⟨(But.of_below HD1.out).trans (But.of_set _ _), .inr ⟨HN.out, rfl, p, HR1.out.setB true⟩⟩
  have hgt : ¬ (s.size : Int) < (p : Int) + (m : Int) := by omega
  have HGB : Hid (∀ k (h : k < s.size), byAt s.data.toList k = s[k].toNat) := fun k h => getB h
  have HBM : Hid (∀ j k, j ≤ k → bigN s.data.toList p j ≤ bigN s.data.toList p k) := fun j k h => bigN_mono _ _ h
  go_enter Tryz.func85, Tryz.ntmps85
  go_wp2_with fail
  go_quiet (fail)
  have HD1 := hideB (below_drewB (w := w) nq)
  have HR1 := hideB (H.out.below HD1.out)
  generalize w.drewN nq = W1 at HR1 HD1 ⊢
  clear nq c0 c1 c2 c3 f1 f2
  go_wp2_with fail
  go_loopw [5, 6] (fun n i wr => ∃ j : Nat, j ≤ m ∧ i = .int .i64 j ∧ n = .int .i64 (bigN s.data.toList p j) ∧ ScAt wr rb s p bad c ∧ But rb w wr ∧ (1 ≤ j → bigN s.data.toList p (j - 1) ≤ 1000000000000000)) (fun _ i _ => m - (intOf i).toNat)
  case atStart => exact ⟨0, Nat.zero_le _, rfl, rfl, HR1.out, But.of_below HD1.out, fun h => by omega⟩
  case round =>
    obtain ⟨j, hj, rfl, rfl, hsc, hbt, hpr⟩ := hrel
    have HSC := hideB hsc
    have HBT := hideB hbt
    obtain ⟨c0, c1, c2, c3⟩ := hsc.cells
    have f1 := hsc.free 1
    have f2 := hsc.free 2
    have hnb : bigN s.data.toList p j ≤ 256000000000000255 := by
      cases j with
      | zero => simp [bigN]
      | succ j => have := hpr (by omega); rw [Nat.add_sub_cancel] at this; have := byAt_lt s.data.toList (p + j); rw [bigN]; omega
    have HPR := hideB hpr
    clear hsc hbt hpr
    have HNX : Hid (bigN s.data.toList p (j + 1) = 256 * bigN s.data.toList p j + byAt s.data.toList (p + j)) := rfl
    obtain ⟨N, hN⟩ : ∃ N, bigN s.data.toList p j = N := ⟨_, rfl⟩
    have HNN := hideB hN
    rw [hN] at hnb HNX ⊢
    clear hN
    by_cases hlt : j < m
    · have hlt' : (j : Int) < (m : Int) := by omega
      by_cases hbig : 1000000000000000 < N
      · have hbig' : (1000000000000000 : Int) < (N : Int) := by omega
        have HNO : Hid (bigS s.data.toList p m = none) := by
          rw [Hid]; unfold bigS maxI
          rw [if_neg]
          intro h
          have := HBM.out j (m - 1) (by omega)
          have := HNN.out
          omega
        go_wp2_with fail
        go_ret
        exact ⟨HBT.out.trans (But.of_set _ _), .inr ⟨HNO.out, rfl, p, HSC.out.setB true⟩⟩
      · have hbig' : ¬ (1000000000000000 : Int) < (N : Int) := by omega
        have hpj : p + j < s.size := by omega
        have hpj' : (p : Int) + (j : Int) < (s.size : Int) := by omega
        have e1 : ((p : Int) + (j : Int)).toNat = p + j := by omega
        have hby := HGB.out (p + j) hpj
        have hb256 := byAt_lt s.data.toList (p + j)
        obtain ⟨B, hB⟩ : ∃ B, byAt s.data.toList (p + j) = B := ⟨_, rfl⟩
        rw [hB] at HNX hby hb256
        clear hB
        obtain ⟨y, hy⟩ : ∃ y, s[p + j] = y := ⟨_, rfl⟩
        rw [hy] at hby
        have HBY := hideB hby
        clear hby
        have hyl : y.toNat < 256 := y.toNat_lt
        go_wp2_with fail
        go_quiet (fail)
        have HD2 := hideB (below_drewB (w := wr) nq)
        have HR2 := hideB (HSC.out.below HD2.out)
        have HB2 := hideB (HBT.out.trans (But.of_below HD2.out))
        generalize wr.drewN nq = W2 at HR2 HD2 HB2 ⊢
        go_wp2_with fail
        refine ⟨⟨j + 1, by omega, by go_num, ?_, HR2.out, HB2.out, fun _ => by rw [Nat.add_sub_cancel, HNN.out]; omega⟩, by simp [intOf]; omega⟩
        rw [HNX.out, HBY.out]
        congr 1
    · obtain rfl : j = m := by omega
      have HYES : Hid (bigS s.data.toList p j = some (N, p + j)) := by
        rw [Hid]; unfold bigS maxI
        rw [if_pos ⟨by omega, HPR.out hm⟩, HNN.out]
      have e1 : ((p + j : Nat) : Int) = (p : Int) + (j : Int) := by omega
      have HSP := hideB (HSC.out.setP (q := p + j) hfit)
      rw [e1] at HSP
      go_wp2_with fail
      go_ret
      exact ⟨HBT.out.trans (But.of_set _ _), .inl ⟨N, p + j, HYES.out, rfl, HSP.out, hnb⟩⟩

set_option maxRecDepth 100000 in
set_option maxHeartbeats 3200000 in
theorem stake_yes {rb p c n : Nat} {s : ByteArray} {bad : Bool} {w : World} (h : ScAt w rb s p bad c) (hs : s.size ≤ 4000) (hn : n ≤ 60) (hp : p + n ≤ s.size) :
    Calls Tryz.prog 61 #[.pointer (some ⟨rb, 0, none⟩), .int .i64 n] w fun e w' => But rb w w' ∧ e = .returned (.string (cutT s.data.toList p n)) ∧ ScAt w' rb s (p + n) bad c := by
  have H := hideB h
  obtain ⟨c0, c1, c2, c3⟩ := h.cells
  have f1 := h.free 1
  have f2 := h.free 2
  clear h
  have g1 : ¬ (n : Int) < 0 := by omega
  have g2 : ¬ (60 : Int) < (n : Int) := by omega
  have g3 : ¬ (s.size : Int) < (p : Int) + (n : Int) := by omega
  have d1 : decide ((n : Int) < 0) = false := decide_eq_false g1
  have d2 : decide ((60 : Int) < (n : Int)) = false := by simpa using g2
  have d3 : decide ((s.size : Int) < (p : Int) + (n : Int)) = false := by simpa using g3
  have e1 : ((p + n : Nat) : Int) = (p : Int) + (n : Int) := by omega
  go_enter Tryz.func61, Tryz.ntmps61
  go_wp2_with fail
  go_quiet (fail)
  have HD1 := hideB (below_drewB (w := w) nq)
  have HR1 := hideB (H.out.below HD1.out)
  obtain ⟨k0, k1, k2, k3⟩ := HR1.out.cells
  have l1 := HR1.out.free 1
  generalize w.drewN nq = W1 at HR1 HD1 k0 k1 k2 k3 l1 ⊢
  clear nq c0 c1 c2 c3 f1 f2
  have HR2 := hideB (HR1.out.setP hp)
  have HB2 := hideB ((But.of_below (rb := rb) HD1.out).trans (But.of_set 1 (.int .i64 ((p : Int) + (n : Int)))))
  rw [e1] at HR2
  go_wp2_with fail
  obtain ⟨m0, m1, m2, m3⟩ := HR2.out.cells
  rw [e1] at m1
  generalize W1.setCell ⟨rb, 1, none⟩ (.int .i64 ((p : Int) + (n : Int))) = W2 at HR2 m0 m1 m2 m3 HB2 ⊢
  clear k0 k1 k2 k3 l1
  have e2 : (p : Int) + (n : Int) - (n : Int) = (p : Int) := by omega
  have hcut : ∀ w, (Instr.slice 9 (.string s) (some (.int .i64 (p : Int))) (some (.int .i64 ((p : Int) + (n : Int)))) none).run Tryz.prog w = .ok (.string (cutT s.data.toList p n)) w := fun w => by
    have := run_cut (P := Tryz.prog) (t := 9) s p (p + n) Tryz.underlying9 (by omega) hp w
    rw [e1, Nat.add_sub_cancel_left] at this
    exact this
  go_quiet (fail)
  have HD3 := hideB (below_drewB (w := W2) nq)
  have HR3 := hideB (HR2.out.below HD3.out)
  generalize W2.drewN nq = W3 at HR3 HD3 ⊢
  go_wp2_with fail
  go_ret
  exact ⟨HB2.out.trans (But.of_below HD3.out), rfl, HR3.out⟩

set_option maxRecDepth 100000 in
set_option maxHeartbeats 3200000 in
theorem stake_no {rb p c : Nat} {n : Int} {s : ByteArray} {bad : Bool} {w : World} (h : ScAt w rb s p bad c) (hs : s.size ≤ 4000) (hn : n < 0 ∨ 60 < n ∨ (s.size : Int) < p + n) (hn2 : -2 ≤ n) (hn3 : n ≤ 300000000000000000) :
    Calls Tryz.prog 61 #[.pointer (some ⟨rb, 0, none⟩), .int .i64 n] w fun e w' => But rb w w' ∧ e = .returned (.string ⟨#[]⟩) ∧ ScAt w' rb s p true c := by
  have H := hideB h
  obtain ⟨c0, c1, c2, c3⟩ := h.cells
  have f1 := h.free 1
  have f2 := h.free 2
  have hle := h.le
  clear h
  by_cases g1 : n < 0
  focus
    have d1 : decide (n < 0) = true := by simpa using g1
    go_enter Tryz.func61, Tryz.ntmps61
    go_wp2_with fail
    go_quiet (fail)
  rotate_left
  focus
    have d1 : decide (n < 0) = false := by simpa using g1
    by_cases g2 : 60 < n
    focus
      have d2 : decide (60 < n) = true := by simpa using g2
      go_enter Tryz.func61, Tryz.ntmps61
      go_wp2_with fail
      go_quiet (fail)
    rotate_left
    focus
      have d2 : decide (60 < n) = false := by simpa using g2
      have g3 : (s.size : Int) < (p : Int) + n := by omega
      have d3 : decide ((s.size : Int) < (p : Int) + n) = true := by simpa using g3
      go_enter Tryz.func61, Tryz.ntmps61
      go_wp2_with fail
      go_quiet (fail)
  all_goals
    have HD1 := hideB (below_drewB (w := w) nq)
    have HR1 := hideB (H.out.below HD1.out)
    obtain ⟨k0, k1, k2, k3⟩ := HR1.out.cells
    have l2 := HR1.out.free 2
    generalize w.drewN nq = W1 at HR1 HD1 k0 k1 k2 k3 l2 ⊢
    clear nq c0 c1 c2 c3 f1 f2
    go_wp2_with fail
    go_ret
    exact ⟨(But.of_below HD1.out).trans (But.of_set _ _), rfl, HR1.out.setB true⟩
end Go.Proofs.YtokhindolimchaaGreat
