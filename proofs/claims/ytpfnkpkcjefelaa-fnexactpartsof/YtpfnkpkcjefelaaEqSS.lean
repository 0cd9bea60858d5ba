/-
  The laws' helpers at rows of rows: marks, and whether they are held.
-/
import Derived.Test.YtpfnkpkcjefelaaEqS2
namespace Go.Proofs.Ytpfnkpkcjefelaa
open Go.RowKit
set_option linter.unusedSimpArgs false
set_option linter.unusedVariables false

/-! ### Marks -/
def off2 (L : Nat → List VN) : Nat → Nat
  | 0 => 1
  | i + 1 => off (knOf (L i)) (inOf (L i)) (off2 L i) (L i).length

theorem off_few {vs : List VN} (h : Few vs) (k : Nat) : ∀ i, i ≤ vs.length → off (knOf vs) (inOf vs) k i ≤ k + i * 163 := by
  intro i
  induction i with
  | zero => intro _; simp [off]
  | succ i ih =>
    intro hi
    have h1 := ih (by omega)
    have h2 := h.2 i (by omega)
    rw [off]
    unfold knOf inOf at *
    omega

theorem off2_le {L : Nat → List VN} {m : Nat} (h : ∀ i, i < m → Few (L i)) : ∀ i, i ≤ m → 1 ≤ off2 L i ∧ off2 L i ≤ 1 + i * 13040 := by
  intro i
  induction i with
  | zero => intro _; simp [off2]
  | succ i ih =>
    intro hi
    have h1 := ih (by omega)
    have hf := h i (by omega)
    have h2 := off_few hf (off2 L i) (L i).length (Nat.le_refl _)
    have h3 := off_ge (knOf (L i)) (inOf (L i)) (off2 L i) (L i).length
    have h4 := hf.1
    rw [off2]
    omega

/-- Row i holds its marks. -/
def HRow (w : World) (r : Value) (vs : List VN) (K I : Nat → Value) (k : Nat) : Prop :=
  ∀ j, j < vs.length → HNode w (blk r) j (knOf vs j) (inOf vs j) (blk (K j)) (blk (I j)) (off (knOf vs) (inOf vs) k j)

theorem HRow.below {w w' : World} {r : Value} {vs : List VN} {K I : Nat → Value} {k : Nat} (h : HRow w r vs K I k) (hb : Below w.heap.size w w') : HRow w' r vs K I k := fun j hj => (h j hj).below hb

/-- What lies below is kept. -/
theorem HRow.low {base lo : Nat} {w w' W : World} {r : Value} {vs : List VN} {K I : Nat → Value} {k : Nat} (h : HRow w r vs K I k) (hn : Nest base W r vs K I) (hin : ∀ x, InNest r vs.length K I x → x < lo) (hb : Below lo w w') : HRow w' r vs K I k := by
  intro j hj
  refine (h j hj).keep hb.size (fun q _ => ?_) (fun hp q => ?_) (fun hp q => ?_)
  · exact below_cell hb (hin _ (Or.inl (blk_of hn.row (by omega))))
  · exact below_cell hb (hin _ (Or.inr ⟨j, hj, Or.inl (blk_of (hn.rk j hj) hp)⟩))
  · exact below_cell hb (hin _ (Or.inr ⟨j, hj, Or.inr (blk_of (hn.ri j hj) hp)⟩))

theorem own_onlyS {P : Nat → Prop} {w w' : World} {base e s n : Nat} {v : Value} {xs : List Value} (h : w.ownsRow base e s v n xs) (ho : Only P w w') (hP : ∀ x, P x → v.ownBlock ≠ some x) : w'.ownsRow base e s v n xs := by
  refine ⟨h.1, ?_⟩
  rcases h.2 with hn | ⟨g, cap, cur, rfl, hg, hgg, rest⟩
  · exact .inl hn
  · exact .inr ⟨g, cap, cur, rfl, hg, (ho.2 g (h.lt g rfl).2 (fun p => hP g p rfl)).trans hgg, rest⟩

/-- All rows hold their marks. -/
structure Held2 (w : World) (base : Nat) (v : Value) (m : Nat) (L : Nat → List VN) (rs : Nat → Value) (KV IV : Nat → Nat → Value) : Prop where
  row : w.ownsRow base 24 1 v m ((List.range m).map rs)
  held : ∀ i, i < m → HRow w (rs i) (L i) (KV i) (IV i) (off2 L i)

theorem Held2.below {w w' : World} {base : Nat} {v : Value} {m : Nat} {L : Nat → List VN} {rs : Nat → Value} {KV IV : Nat → Nat → Value} (h : Held2 w base v m L rs KV IV) (hb : Below w.heap.size w w') : Held2 w' base v m L rs KV IV :=
  ⟨own_below h.row hb (fun x hx => (h.row.lt x hx).2), fun i hi => (h.held i hi).below hb⟩

set_option maxRecDepth 100000 in
set_option maxHeartbeats 1600000 in
theorem markVNodeSS_any (base : Nat) (v : Value) (m : Nat) (L : Nat → List VN) (rs : Nat → Value) (KV IV : Nat → Nat → Value) (lo : Nat → Nat) (w : World) (h : Rows2 base w v m L rs KV IV lo) (hm : m ≤ 80) (hf : ∀ i, i < m → Few (L i)) :
    Calls Try.prog 41 #[v, .int .i64 1] w fun e w' => e = .returned (.int .i64 (off2 L m : Nat)) ∧ Held2 w' base v m L rs KV IV ∧ Below base w w' := by
  have H := hideIt h
  have HF := hideIt hf
  obtain ⟨a, c, e⟩ := own_slice h.row
  subst e
  clear h hf
  go_enter Try.func41, Try.ntmps41
  go_wp2_with fail
  go_loopw [1, 5] (fun q i wr => ∃ k : Nat, k ≤ m ∧ q = .int .i64 (off2 L k : Nat) ∧ i = .int .i64 k ∧ Below base w wr ∧ wr.ownsRow base 24 1 (.slice a m c) m ((List.range m).map rs) ∧ (∀ j, k ≤ j → j < m → Nest (lo j) wr (rs j) (L j) (KV j) (IV j)) ∧ (∀ j, j < k → HRow wr (rs j) (L j) (KV j) (IV j) (off2 L j))) (fun _ i _ => m - (intOf i).toNat)
  case atStart => exact ⟨0, Nat.zero_le _, rfl, rfl, Below.refl _ _, H.out.row, fun j _ hj => H.out.nest j hj, fun j hj => absurd hj (by omega)⟩
  case round =>
    obtain ⟨k, hk, rfl, rfl, hbel, hrow, hnest, hheld⟩ := hrel
    have HR := hideIt hrow
    have HN := hideIt hnest
    have HH := hideIt hheld
    have hs := hbel.size
    clear hrow hnest hheld
    have ob := off2_le HF.out k hk
    by_cases hlt : k < m
    · obtain ⟨g, cap, e, _, hgl⟩ := HR.out.form (by omega)
      cases e
      have nk := HN.out k (Nat.le_refl _) hlt
      have HNK := hideIt nk
      obtain ⟨ak, ck, er⟩ := own_slice nk.row
      have hcell : wr.cell? ⟨g, k, none⟩ = some (rs k) := by rw [HR.out.cellAt k (by omega)]; simp [hlt]
      obtain ⟨Lk, hLk⟩ : ∃ Lk, (L k).length = Lk := ⟨_, rfl⟩
      rw [hLk] at er
      rw [er] at hcell
      have HER := hideIt er
      have HLK := hideIt hLk
      have hL80 : Lk ≤ 80 := by rw [← hLk]; exact (HF.out k hlt).1
      have hlo : lo k ≤ wr.heap.size := by have := H.out.mono k m (by omega) (Nat.le_refl _); have := H.out.top; omega
      have HMK := hideIt (Nest.mark (by rw [← HER.out]; exact HNK.out) HLK.out (HF.out k hlt))
      have HO2 : Hid (off2 L (k + 1) = off (knOf (L k)) (inOf (L k)) (off2 L k) Lk) := by rw [Hid, ← HLK.out]; rfl
      clear nk er hLk
      have HOE : Hid (∃ o, off2 L k = o) := ⟨_, rfl⟩
      obtain ⟨o, ho⟩ := HOE.out
      rw [ho] at ob HO2 ⊢
      have HOO := hideIt ho
      clear ho
      go_wp2_with fail
      refine (markVNodeS_any (lo k) _ Lk ck o ak _ _ _ _ wr HMK.out hlo (by omega) (by omega) (by omega)).mono ?_
      rintro e w3 ⟨rfl, hh3, hon3, hb3⟩
      rw [← HO2.out]
      have HMX : Hid (∀ x, Marked (blk (.slice ak Lk ck)) Lk (knOf (L k)) (inOf (L k)) (fun i => blk (KV k i)) (fun i => blk (IV k i)) x → InNest (rs k) (L k).length (KV k) (IV k) x) := by
        intro x hx
        apply HNK.out.marked
        rw [HER.out, HLK.out]
        exact hx
      have HB3 := hideIt (hbel.trans (hb3.mono (H.out.low k hk)))
      have HR3 := hideIt (own_onlyS HR.out hon3 (fun x hx => HNK.out.far HR.out (HMX.out x hx)))
      have HN3 : Hid (∀ j, k + 1 ≤ j → j < m → Nest (lo j) w3 (rs j) (L j) (KV j) (IV j)) := fun j h1 h2 =>
        (HN.out j (by omega) h2).from ((From.refl (lo j) wr).only hon3 (fun x hx => Nat.lt_of_lt_of_le (H.out.inn k hlt x (HMX.out x hx)) (H.out.mono (k + 1) j h1 (by omega))))
      have HH3 : Hid (∀ j, j < k + 1 → HRow w3 (rs j) (L j) (KV j) (IV j) (off2 L j)) := by
        intro j hj
        by_cases e : j = k
        · subst e
          intro q hq
          rw [HER.out, HOO.out]
          exact hh3 q (by rw [← HLK.out]; exact hq)
        · exact (HH.out j (by omega)).low (H.out.nest j (by omega)) (fun x hx => Nat.lt_of_lt_of_le (H.out.inn j (by omega) x hx) (H.out.mono (j + 1) k (by omega) hk)) hb3
      clear hh3 hon3 hb3
      go_wp2_with fail
      go_roundw
      case rel => exact ⟨k + 1, by omega, rfl, by go_num, HB3.out, HR3.out, HN3.out, HH3.out⟩
      case measure => simp [intOf]; omega
    · obtain rfl : k = m := by omega
      go_wp2_with fail
      go_ret
      exact ⟨rfl, ⟨HR.out, HH.out⟩, hbel⟩

set_option maxRecDepth 100000 in
set_option maxHeartbeats 1600000 in
theorem heldVNodeSS_any (base : Nat) (v : Value) (m : Nat) (L : Nat → List VN) (rs : Nat → Value) (KV IV : Nat → Nat → Value) (lo : Nat → Nat) (w W : World) (hW : Rows2 base W v m L rs KV IV lo) (h : Held2 w base v m L rs KV IV) (hm : m ≤ 80) (hf : ∀ i, i < m → Few (L i)) :
    Calls Try.prog 46 #[v, .int .i64 1] w fun e w' => e = .returned (.int .i64 (off2 L m : Nat)) ∧ Below w.heap.size w w' := by
  have H := hideIt h
  have HF := hideIt hf
  have HW := hideIt hW
  obtain ⟨a, c, e⟩ := own_slice h.row
  subst e
  clear h hf hW
  go_enter Try.func46, Try.ntmps46
  go_wp2_with fail
  go_loopw [1, 5] (fun q i wr => ∃ k : Nat, k ≤ m ∧ q = .int .i64 (off2 L k : Nat) ∧ i = .int .i64 k ∧ Below w.heap.size w wr) (fun _ i _ => m - (intOf i).toNat)
  case atStart => exact ⟨0, Nat.zero_le _, rfl, rfl, Below.refl _ _⟩
  case round =>
    obtain ⟨k, hk, rfl, rfl, hbel⟩ := hrel
    have HH := hideIt (H.out.below hbel)
    have hs := hbel.size
    have ob := off2_le HF.out k hk
    by_cases hlt : k < m
    · obtain ⟨g, cap, e, _, hgl⟩ := HH.out.row.form (by omega)
      cases e
      have HNK := hideIt (HW.out.nest k hlt)
      obtain ⟨ak, ck, er⟩ := own_slice HNK.out.row
      have hcell : wr.cell? ⟨g, k, none⟩ = some (rs k) := by rw [HH.out.row.cellAt k (by omega)]; simp [hlt]
      obtain ⟨Lk, hLk⟩ : ∃ Lk, (L k).length = Lk := ⟨_, rfl⟩
      rw [hLk] at er
      rw [er] at hcell
      have HER := hideIt er
      have HLK := hideIt hLk
      have hL80 : Lk ≤ 80 := by rw [← hLk]; exact (HF.out k hlt).1
      have HAD : Hid (0 < Lk → ak = some ⟨blk (.slice ak Lk ck), 0, none⟩) := fun hp => (Nest.mark (by rw [← HER.out]; exact HNK.out) HLK.out (HF.out k hlt) hp).1
      have HO2 : Hid (off2 L (k + 1) = off (knOf (L k)) (inOf (L k)) (off2 L k) Lk) := by rw [Hid, ← HLK.out]; rfl
      have HKF : Hid (∀ i, i < Lk → knOf (L k) i ≤ 1048576 ∧ inOf (L k) i ≤ 1048576) := fun i hi => by
        have := (HF.out k hlt).2 i (by rw [HLK.out]; exact hi)
        unfold knOf inOf
        omega
      have HHK : Hid (∀ i, i < Lk → HNode wr (blk (.slice ak Lk ck)) i (knOf (L k) i) (inOf (L k) i) (blk (KV k i)) (blk (IV k i)) (off (knOf (L k)) (inOf (L k)) (off2 L k) i)) := fun i hi => by
        have := HH.out.held k hlt i (by rw [HLK.out]; exact hi)
        rw [HER.out] at this
        exact this
      clear er hLk
      have HOE : Hid (∃ o, off2 L k = o) := ⟨_, rfl⟩
      obtain ⟨o, ho⟩ := HOE.out
      have ob2 := off2_le HF.out (k + 1) (by omega)
      rw [ho] at ob HO2 HHK ⊢
      clear ho
      go_wp2_with fail
      refine (heldVNodeS_any _ Lk ck o ak _ _ (fun i => blk (KV k i)) (fun i => blk (IV k i)) wr HAD.out (by omega) HKF.out (by omega) (by omega) HHK.out).mono ?_
      rintro e w3 ⟨rfl, hb3⟩
      rw [← HO2.out]
      have HB3 := hideIt (hbel.trans (hb3.mono hs))
      have hn0 : ¬ ((off2 L (k + 1) : Int) < 0) := by omega
      clear hb3
      go_wp2_with fail
      go_roundw
      case rel => exact ⟨k + 1, by omega, rfl, by go_num, HB3.out⟩
      case measure => simp [intOf]; omega
    · obtain rfl : k = m := by omega
      go_wp2_with fail
      go_ret
      exact ⟨rfl, hbel⟩
end Go.Proofs.Ytpfnkpkcjefelaa
