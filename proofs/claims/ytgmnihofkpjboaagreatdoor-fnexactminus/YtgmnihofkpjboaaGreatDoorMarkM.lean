/-
  The laws' marks of nodes are laid.
-/
import Derived.Test.YtgmnihofkpjboaaGreatDoorMarkN
namespace Go.Proofs.YtgmnihofkpjboaaGreatDoor
open Go.RowKit
set_option linter.unusedSimpArgs false
set_option linter.unusedVariables false
set_option linter.unusedSectionVars false

theorem WRow.same {w w' : World} {b n : Nat} (h : WRow w b n) (e : w'.heap[b]? = w.heap[b]?) : WRow w' b n := by
  intro j hj
  obtain ⟨⟨u, hu⟩, hf⟩ := h j hj
  refine ⟨⟨u, ?_⟩, ?_⟩
  · unfold World.cell? at hu ⊢; rw [show w'.heap[(⟨b, j, none⟩ : Addr).block]? = w.heap[(⟨b, j, none⟩ : Addr).block]? from e]; exact hu
  · unfold World.frozen? at hf ⊢; rw [show w'.heap[(⟨b, j, none⟩ : Addr).block]? = w.heap[(⟨b, j, none⟩ : Addr).block]? from e]; exact hf

section
variable {lo b n : Nat} {w w' : World} {KN IN KB KI : Nat → Nat}

theorem Marky.keep (h : Marky lo w b n KN IN KB KI) (hs : w.heap.size ≤ w'.heap.size) (hb : WRow w' b (n * 5)) (hc : ∀ i j, i < n → 3 ≤ j → j < 5 → w'.cell? ⟨b, i * 5 + j, none⟩ = w.cell? ⟨b, i * 5 + j, none⟩)
    (hk : ∀ i, i < n → 0 < KN i → WRow w' (KB i) (KN i)) (hi : ∀ i, i < n → 0 < IN i → WRow w' (KI i) (IN i)) : Marky lo w' b n KN IN KB KI := by
  refine ⟨h.low, by have := h.lt; omega, h.few, hb, h.kn, fun i hi' => ?_, fun i hi' => ?_, h.db, h.dkk, h.dki, h.dii⟩
  · obtain ⟨a, c, e, hx⟩ := h.c3 i hi'
    refine ⟨a, c, (hc i 3 hi' (by omega) (by omega)).trans e, fun hp => ?_⟩
    obtain ⟨e1, e2, e3, _⟩ := hx hp
    exact ⟨e1, e2, by omega, hk i hi' hp⟩
  · obtain ⟨a, c, e, hx⟩ := h.c4 i hi'
    refine ⟨a, c, (hc i 4 hi' (by omega) (by omega)).trans e, fun hp => ?_⟩
    obtain ⟨e1, e2, e3, _⟩ := hx hp
    exact ⟨e1, e2, by omega, hi i hi' hp⟩

theorem Marky.kr (h : Marky lo w b n KN IN KB KI) {i : Nat} (hi : i < n) (hp : 0 < KN i) : lo ≤ KB i ∧ KB i < w.heap.size ∧ WRow w (KB i) (KN i) := by
  obtain ⟨a, c, e, hx⟩ := h.c3 i hi
  exact (hx hp).2
theorem Marky.ir (h : Marky lo w b n KN IN KB KI) {i : Nat} (hi : i < n) (hp : 0 < IN i) : lo ≤ KI i ∧ KI i < w.heap.size ∧ WRow w (KI i) (IN i) := by
  obtain ⟨a, c, e, hx⟩ := h.c4 i hi
  exact (hx hp).2

theorem Marky.set (h : Marky lo w b n KN IN KB KI) {p : Nat} (hp : p % 5 < 3) (v : Value) : Marky lo (w.setCell ⟨b, p, none⟩ v) b n KN IN KB KI :=
  h.keep (by simp) (h.row.set _ _) (fun i j hi h3 h5 => World.cell?_setCell_other _ _ _ _ (fun e => by have := congrArg Addr.off e; simp at this; omega)) (fun i hi hp => (h.kr hi hp).2.2.set _ _) (fun i hi hp => (h.ir hi hp).2.2.set _ _)

theorem Marky.below (h : Marky lo w b n KN IN KB KI) (hb : Below w.heap.size w w') : Marky lo w' b n KN IN KB KI :=
  h.keep hb.size (h.row.below hb h.lt) (fun i j hi h3 h5 => below_cell hb h.lt) (fun i hi hp => (h.kr hi hp).2.2.below hb (h.kr hi hp).2.1) (fun i hi hp => (h.ir hi hp).2.2.below hb (h.ir hi hp).2.1)

theorem Marky.keys (h : Marky lo w b n KN IN KB KI) {c : Nat} (hc : c < n) (ho : Only (fun x => 0 < KN c ∧ x = KB c) w w') (hw : 0 < KN c → WRow w' (KB c) (KN c)) : Marky lo w' b n KN IN KB KI := by
  have hb : w'.heap[b]? = w.heap[b]? := ho.2 b h.lt fun ⟨h1, h2⟩ => (h.db c hc).1 h1 h2.symm
  refine h.keep ho.1 (h.row.same hb) (fun i j hi h3 h5 => ho.cell h.lt fun ⟨h1, h2⟩ => (h.db c hc).1 h1 h2.symm) (fun i hi hp => ?_) (fun i hi hp => ?_)
  · by_cases e : i = c
    · subst e; exact hw hp
    · exact (h.kr hi hp).2.2.same (ho.2 _ (h.kr hi hp).2.1 fun ⟨h1, h2⟩ => h.dkk i c hi hc e hp h1 h2)
  · exact (h.ir hi hp).2.2.same (ho.2 _ (h.ir hi hp).2.1 fun ⟨h1, h2⟩ => h.dki c i hc hi h1 hp h2.symm)

theorem Marky.kids (h : Marky lo w b n KN IN KB KI) {c : Nat} (hc : c < n) (ho : Only (fun x => 0 < IN c ∧ x = KI c) w w') (hw : 0 < IN c → WRow w' (KI c) (IN c)) : Marky lo w' b n KN IN KB KI := by
  have hb : w'.heap[b]? = w.heap[b]? := ho.2 b h.lt fun ⟨h1, h2⟩ => (h.db c hc).2 h1 h2.symm
  refine h.keep ho.1 (h.row.same hb) (fun i j hi h3 h5 => ho.cell h.lt fun ⟨h1, h2⟩ => (h.db c hc).2 h1 h2.symm) (fun i hi hp => ?_) (fun i hi hp => ?_)
  · exact (h.kr hi hp).2.2.same (ho.2 _ (h.kr hi hp).2.1 fun ⟨h1, h2⟩ => h.dki i c hi hc hp h1 h2)
  · by_cases e : i = c
    · subst e; exact hw hp
    · exact (h.ir hi hp).2.2.same (ho.2 _ (h.ir hi hp).2.1 fun ⟨h1, h2⟩ => h.dii i c hi hc e hp h1 h2)

/-- What marks of node c turn: three cells of the row, the rows of its keys and of its kids. -/
structure Turns (b c : Nat) (KN IN KB KI : Nat → Nat) (w w' : World) : Prop where
  size : w.heap.size ≤ w'.heap.size
  row : ∀ o, o ≠ c * 5 → o ≠ c * 5 + 1 → o ≠ c * 5 + 2 → w'.cell? ⟨b, o, none⟩ = w.cell? ⟨b, o, none⟩
  rest : ∀ x, x < w.heap.size → x ≠ b → ¬ (0 < KN c ∧ x = KB c) → ¬ (0 < IN c ∧ x = KI c) → w'.heap[x]? = w.heap[x]?

theorem Turns.cell {b c : Nat} (t : Turns b c KN IN KB KI w w') {x o : Nat} (h1 : x < w.heap.size) (h2 : x ≠ b) (h3 : ¬ (0 < KN c ∧ x = KB c)) (h4 : ¬ (0 < IN c ∧ x = KI c)) : w'.cell? ⟨x, o, none⟩ = w.cell? ⟨x, o, none⟩ := by
  unfold World.cell?
  rw [show w'.heap[(⟨x, o, none⟩ : Addr).block]? = w.heap[(⟨x, o, none⟩ : Addr).block]? from t.rest x h1 h2 h3 h4]

theorem Turns.refl (b c : Nat) (KN IN KB KI : Nat → Nat) (w : World) : Turns b c KN IN KB KI w w := ⟨Nat.le_refl _, fun _ _ _ _ => rfl, fun _ _ _ _ _ => rfl⟩
theorem Turns.trans {b c : Nat} {w1 w2 w3 : World} (h : Turns b c KN IN KB KI w1 w2) (k : Turns b c KN IN KB KI w2 w3) : Turns b c KN IN KB KI w1 w3 :=
  ⟨Nat.le_trans h.size k.size, fun o h1 h2 h3 => (k.row o h1 h2 h3).trans (h.row o h1 h2 h3), fun x h1 h2 h3 h4 => (k.rest x (by have := h.size; omega) h2 h3 h4).trans (h.rest x h1 h2 h3 h4)⟩
theorem Turns.set {b c : Nat} (w : World) (v : Value) {p : Nat} (hp : p = c * 5 ∨ p = c * 5 + 1 ∨ p = c * 5 + 2) : Turns b c KN IN KB KI w (w.setCell ⟨b, p, none⟩ v) :=
  ⟨by simp, fun o h1 h2 h3 => World.cell?_setCell_other _ _ _ _ (fun e => by have := congrArg Addr.off e; simp at this; omega), fun x h1 h2 h3 h4 => Below.heap_setCell w _ v x h2⟩
theorem Turns.below {b c : Nat} (hb : Below w.heap.size w w') (hl : b < w.heap.size) : Turns b c KN IN KB KI w w' := ⟨hb.size, fun o _ _ _ => below_cell hb hl, fun x h _ _ _ => hb.block x h⟩
theorem Turns.only {b c : Nat} {P : Nat → Prop} (ho : Only P w w') (hl : b < w.heap.size) (hb : ¬ P b) (hP : ∀ x, P x → (0 < KN c ∧ x = KB c) ∨ (0 < IN c ∧ x = KI c)) : Turns b c KN IN KB KI w w' :=
  ⟨ho.1, fun o _ _ _ => ho.cell hl hb, fun x h h1 h2 h3 => ho.2 x h fun hp => (hP x hp).elim h2 h3⟩

/-- The blocks that marks of nodes write. -/
def Marked (b n : Nat) (KN IN KB KI : Nat → Nat) (x : Nat) : Prop := 0 < n ∧ (x = b ∨ ∃ i, i < n ∧ ((0 < KN i ∧ x = KB i) ∨ (0 < IN i ∧ x = KI i)))

theorem Turns.marked {b c n : Nat} (t : Turns b c KN IN KB KI w w') (hc : c < n) : Only (Marked b n KN IN KB KI) w w' :=
  ⟨t.size, fun x h hx => t.rest x h (fun e => hx ⟨by omega, Or.inl e⟩) (fun e => hx ⟨by omega, Or.inr ⟨c, hc, Or.inl e⟩⟩) (fun e => hx ⟨by omega, Or.inr ⟨c, hc, Or.inr e⟩⟩)⟩

theorem Turns.node (h : Marky lo w b n KN IN KB KI) {c i o : Nat} (hc : c < n) (hi : i < c) (t : Turns b c KN IN KB KI w w') (hn : HNode w b i (KN i) (IN i) (KB i) (KI i) o) : HNode w' b i (KN i) (IN i) (KB i) (KI i) o := by
  have hin : i < n := by omega
  refine hn.keep t.size (fun j hj => t.row _ (by omega) (by omega) (by omega)) (fun hp j => ?_) (fun hp j => ?_)
  · exact t.cell (h.kr hin hp).2.1 ((h.db i hin).1 hp) (fun ⟨h1, h2⟩ => h.dkk i c hin hc (by omega) hp h1 h2) (fun ⟨h1, h2⟩ => h.dki i c hin hc hp h1 h2)
  · exact t.cell (h.ir hin hp).2.1 ((h.db i hin).2 hp) (fun ⟨h1, h2⟩ => h.dki c i hc hin h1 hp h2.symm) (fun ⟨h1, h2⟩ => h.dii i c hin hc (by omega) hp h1 h2)
end

set_option maxRecDepth 100000 in
set_option maxHeartbeats 3200000 in
theorem markVNodeS_any (lo b n cap k : Nat) (a : Option Addr) (KN IN KB KI : Nat → Nat) (w : World) (h : 0 < n → a = some ⟨b, 0, none⟩ ∧ Marky lo w b n KN IN KB KI) (hlo : lo ≤ w.heap.size) (hn : n ≤ 1048576) (hk0 : 1 ≤ k) (hk : k ≤ 10000000000000) :
    Calls Tryz.prog 9 #[.slice a n cap, .int .i64 k] w fun e w' => e = .returned (.int .i64 (off KN IN k n : Nat)) ∧ (∀ i, i < n → HNode w' b i (KN i) (IN i) (KB i) (KI i) (off KN IN k i)) ∧
      Only (Marked b n KN IN KB KI) w w' ∧ Below lo w w' := by
  have HA := hideIt h
  clear h
  go_enter Tryz.func9, Tryz.ntmps9
  go_wp2_with fail
  go_loopw [1, 5] (fun q i wr => ∃ c : Nat, c ≤ n ∧ q = .int .i64 (off KN IN k c : Nat) ∧ i = .int .i64 c ∧ (0 < n → Marky lo wr b n KN IN KB KI) ∧ (∀ i, i < c → HNode wr b i (KN i) (IN i) (KB i) (KI i) (off KN IN k i)) ∧ Only (Marked b n KN IN KB KI) w wr ∧ Below lo w wr) (fun _ i _ => n - (intOf i).toNat)
  case atStart => exact ⟨0, Nat.zero_le _, rfl, rfl, fun h => (HA.out h).2, fun i hi => by omega, Only.refl _ _, Below.refl _ _⟩
  case round =>
    obtain ⟨c, hc, rfl, rfl, hm, hd, ho, hbl⟩ := hrel
    have HD := hideIt hd
    have HO := hideIt ho
    have HBL := hideIt hbl
    have zs := ho.1
    clear hd ho hbl
    by_cases hlt : c < n
    · obtain ⟨rfl, _⟩ := HA.out (by omega)
      have HM := hideIt (hm (by omega))
      clear hm
      have kk := HM.out.kn c hlt
      have ob := off_le KN IN k c (fun j hj => HM.out.kn j (by omega))
      have og := off_ge KN IN k c
      have HOF : Hid (off KN IN k (c + 1) = off KN IN k c + 3 + KN c + IN c) := rfl
      have hbs := HM.out.lt
      have hlow := HM.out.low
      obtain ⟨⟨v0, r0⟩, f0⟩ := HM.out.row (c * 5) (by omega)
      obtain ⟨⟨v1, r1⟩, f1⟩ := HM.out.row (c * 5 + 1) (by omega)
      generalize hoo : off KN IN k c = o at *
      have HOO := hideIt hoo
      clear hoo
      have e1 : (wr.setCell ⟨b, c * 5, none⟩ (.int .i64 (o : Int))).cell? ⟨b, c * 5 + 1, none⟩ = some v1 := (World.cell?_setCell_other _ _ _ _ (by simp)).trans r1
      have HM2 := hideIt ((HM.out.set (p := c * 5) (by omega) (.int .i64 (o : Int))).set (p := c * 5 + 1) (by omega) (.int .i64 ((o : Int) + 1)))
      have c0 : ((wr.setCell ⟨b, c * 5, none⟩ (.int .i64 (o : Int))).setCell ⟨b, c * 5 + 1, none⟩ (.int .i64 ((o : Int) + 1))).cell? ⟨b, c * 5, none⟩ = some (.int .i64 (o : Nat)) := (World.cell?_setCell_other _ _ _ _ (by simp)).trans (World.cell?_setCell_same _ _ _ r0)
      have c1 : ((wr.setCell ⟨b, c * 5, none⟩ (.int .i64 (o : Int))).setCell ⟨b, c * 5 + 1, none⟩ (.int .i64 ((o : Int) + 1))).cell? ⟨b, c * 5 + 1, none⟩ = some (.int .i64 (o + 1 : Nat)) := World.cell?_setCell_same _ _ _ e1
      have HC := hideIt (And.intro c0 c1)
      have HT := hideIt ((Turns.set (KN := KN) (IN := IN) (KB := KB) (KI := KI) (b := b) (c := c) wr (.int .i64 (o : Int)) (Or.inl rfl)).trans (Turns.set _ (.int .i64 ((o : Int) + 1)) (Or.inr (Or.inl rfl))))
      have HB2 := hideIt ((HBL.out.setCell (p := ⟨b, c * 5, none⟩) hlow (.int .i64 (o : Int))).setCell (p := ⟨b, c * 5 + 1, none⟩) hlow (.int .i64 ((o : Int) + 1)))
      clear c0 c1
      go_wp2_with fail
      generalize ((wr.setCell ⟨b, c * 5, none⟩ (.int .i64 (o : Int))).setCell ⟨b, c * 5 + 1, none⟩ (.int .i64 ((o : Int) + 1))) = W2 at *
      (try rw [show ((o : Int) + 1 + 1) = ((o + 2 : Nat) : Int) by omega])
      (try rw [show ((o : Int) + 2) = ((o + 2 : Nat) : Int) by omega])
      clear r0 r1 e1 f0 f1
      refine (markText_any (o + 2) _ (by omega) (by omega)).mono ?_
      rintro e w3 ⟨rfl, hb3⟩
      have z2 := HT.out.size
      have z3 := hb3.size
      have HM3 := hideIt (HM2.out.below hb3)
      have HT3 := hideIt (HT.out.trans (Turns.below hb3 (by omega)))
      have HB3 := hideIt (HB2.out.trans (hb3.mono (by omega)))
      have HC3 := hideIt (And.intro ((below_cell hb3 (by omega)).trans HC.out.1) ((below_cell hb3 (by omega)).trans HC.out.2))
      clear hb3
      obtain ⟨⟨v2, r2⟩, f2⟩ := HM3.out.row (c * 5 + 2) (by omega)
      have HM4 := hideIt (HM3.out.set (p := c * 5 + 2) (by omega) (.string (markOf (o + 2))))
      have HT4 := hideIt (HT3.out.trans (Turns.set w3 (.string (markOf (o + 2))) (Or.inr (Or.inr rfl))))
      have HB4 := hideIt (HB3.out.setCell (p := ⟨b, c * 5 + 2, none⟩) hlow (.string (markOf (o + 2))))
      have HC4 := hideIt (And.intro ((World.cell?_setCell_other w3 ⟨b, c * 5 + 2, none⟩ _ (.string (markOf (o + 2))) (by simp)).trans HC3.out.1) (And.intro ((World.cell?_setCell_other w3 ⟨b, c * 5 + 2, none⟩ _ (.string (markOf (o + 2))) (by simp)).trans HC3.out.2) (World.cell?_setCell_same w3 _ (.string (markOf (o + 2))) r2)))
      obtain ⟨a3, p3, d3, h3⟩ := HM4.out.c3 c hlt
      have H3 := hideIt h3
      have s4 : (w3.setCell ⟨b, c * 5 + 2, none⟩ (.string (markOf (o + 2)))).heap.size = w3.heap.size := by simp
      clear h3
      go_wp2_with fail
      generalize w3.setCell ⟨b, c * 5 + 2, none⟩ (.string (markOf (o + 2))) = W4 at *
      (try rw [show ((o : Int) + 2 + 1) = ((o + 3 : Nat) : Int) by omega])
      (try rw [show ((o : Int) + 3) = ((o + 3 : Nat) : Int) by omega])
      have hb4 := HM4.out.lt
      refine (markStringS_any lo (KB c) (KN c) p3 (o + 3) a3 _ H3.out (by omega) kk.1 (by omega) (by omega)).mono ?_
      rintro e w5 ⟨rfl, hk5, hw5, ho5, hb5⟩
      have nb3 : ¬ (0 < KN c ∧ b = KB c) := fun ⟨x1, x2⟩ => (HM4.out.db c hlt).1 x1 x2.symm
      have HM5 := hideIt (HM4.out.keys hlt ho5 hw5)
      have HT5 := hideIt (HT4.out.trans (Turns.only ho5 hb4 nb3 (fun x h => Or.inl h)))
      have HB5 := hideIt (HB4.out.trans hb5)
      have HC5 := hideIt (And.intro ((ho5.cell hb4 nb3).trans HC4.out.1) (And.intro ((ho5.cell hb4 nb3).trans HC4.out.2.1) (And.intro ((ho5.cell hb4 nb3).trans HC4.out.2.2) ((ho5.cell hb4 nb3).trans d3))))
      have HK5 := hideIt hk5
      have z5 := ho5.1
      obtain ⟨a4, p4, d4, h4⟩ := HM5.out.c4 c hlt
      have H4 := hideIt h4
      have hb5' := HM5.out.lt
      clear h4 hk5 hw5 ho5 hb5 d3
      go_wp2_with fail
      (try rw [show ((o : Int) + 3 + (KN c : Int)) = ((o + 3 + KN c : Nat) : Int) by omega])
      refine (markInt64S_any lo (KI c) (IN c) p4 (o + 3 + KN c) a4 _ H4.out (by omega) kk.2 (by omega)).mono ?_
      rintro e w6 ⟨rfl, hk6, hw6, ho6, hb6⟩
      have nb4 : ¬ (0 < IN c ∧ b = KI c) := fun ⟨x1, x2⟩ => (HM5.out.db c hlt).2 x1 x2.symm
      have HM6 := hideIt (HM5.out.kids hlt ho6 hw6)
      have HT6 := hideIt (HT5.out.trans (Turns.only ho6 hb5' nb4 (fun x h => Or.inr h)))
      have HB6 := hideIt (HB5.out.trans hb6)
      have HN6 : Hid (HNode w6 b c (KN c) (IN c) (KB c) (KI c) o) := by
        have z6 := ho6.1
        refine ⟨by omega, (ho6.cell hb5' nb4).trans HC5.out.1, (ho6.cell hb5' nb4).trans HC5.out.2.1, (ho6.cell hb5' nb4).trans HC5.out.2.2.1, ⟨a3, p3, (ho6.cell hb5' nb4).trans HC5.out.2.2.2, fun hp => ?_⟩, ⟨a4, p4, (ho6.cell hb5' nb4).trans d4, fun hp => ?_⟩⟩
        · have := HM5.out.kr hlt hp
          exact ⟨(H3.out hp).1, by omega, fun j hj => (ho6.cell this.2.1 (fun ⟨x1, x2⟩ => HM5.out.dki c c hlt hlt hp x1 x2)).trans (HK5.out j hj)⟩
        · have := HM5.out.ir hlt hp
          exact ⟨(H4.out hp).1, by omega, hk6⟩
      clear hk6 hw6 ho6 hb6 d4
      go_wp2_with fail
      go_roundw
      case rel =>
        refine ⟨c + 1, by omega, by rw [HOF.out]; first | rfl | go_num | simp, by go_num, fun _ => HM6.out, fun i hi => ?_, HO.out.trans (HT6.out.marked hlt), HB6.out⟩
        by_cases e : i = c
        · subst e; rw [HOO.out]; exact HN6.out
        · exact Turns.node HM.out hlt (by omega) HT6.out (HD.out i (by omega))
      case measure => simp [intOf]; omega
    · obtain rfl : c = n := by omega
      go_wp2_with fail
      go_ret
      exact ⟨rfl, HD.out, HO.out, HBL.out⟩
end Go.Proofs.YtgmnihofkpjboaaGreatDoor
