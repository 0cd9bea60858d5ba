/-
  spec.Order: -2 where one of the two is not right, else the order of their roots.
-/
import Derived.Test.YtpfnkpkcjefelaaSpcOrd
import Derived.Test.YtpfnkpkcjefelaaCmpD
import Derived.Test.YtpfnkpkcjefelaaCmpE
namespace Go.Proofs.Ytpfnkpkcjefelaa
open Go.RowKit
set_option linter.unusedSimpArgs false
set_option linter.unusedVariables false

def orderOf (us vs : List VN) : Int := if okB us = true ∧ okB vs = true then ord us vs us.length (us.length - 1) (vs.length - 1) else -2

theorem orderOf_yes {us vs : List VN} (h1 : okB us = true) (h2 : okB vs = true) : orderOf us vs = ord us vs us.length (us.length - 1) (vs.length - 1) := if_pos ⟨h1, h2⟩
theorem orderOf_left {us vs : List VN} (h1 : okB us = false) : orderOf us vs = -2 := if_neg (by simp [h1])
theorem orderOf_right {us vs : List VN} (h2 : okB vs = false) : orderOf us vs = -2 := if_neg (by simp [h2])

set_option maxRecDepth 100000 in
set_option maxHeartbeats 1600000 in
theorem l1Compare_any (B : Nat) (v1 v2 : Value) (us vs : List VN) (w : World) (h : Two B w v1 v2 us vs) (hB : B ≤ w.heap.size) (hu : 1 ≤ us.length ∧ us.length ≤ 80) (hv : 1 ≤ vs.length ∧ vs.length ≤ 80) :
    Calls Try.prog 53 #[v1, v2] w fun e w' => e = .returned (.int .i64 (ord us vs us.length (us.length - 1) (vs.length - 1))) ∧ Below w.heap.size w w' := by
  have H := hideIt h
  obtain ⟨_, a1, c1, rfl, _⟩ := h.n1
  obtain ⟨_, a2, c2, rfl, _⟩ := h.n2
  clear h
  obtain ⟨hu1, hu2⟩ := hu
  obtain ⟨hv1, hv2⟩ := hv
  have e1 : ((us.length : Nat) : Int) - 1 = ((us.length - 1 : Nat) : Int) := by omega
  have e2 : ((vs.length : Nat) : Int) - 1 = ((vs.length - 1 : Nat) : Int) := by omega
  go_enter Try.func53, Try.ntmps53
  go_wp2_with fail
  refine (l1Order_any B _ _ us vs us.length (us.length - 1) (vs.length - 1) _ (by omega) (by omega) (by omega) H.out hB).mono ?_
  rintro e w1 ⟨rfl, hb1⟩
  go_wp2_with fail
  go_ret
  exact ⟨rfl, hb1⟩

set_option maxRecDepth 100000 in
set_option maxHeartbeats 1600000 in
theorem specOrder_any (B : Nat) (v1 v2 : Value) (us vs : List VN) (w : World) (h1 : NodesAt B w v1 us) (h2 : NodesAt B w v2 vs) (hB : B ≤ w.heap.size) :
    Calls Try.prog 16 #[v1, v2] w fun e w' => e = .returned (.int .i64 (orderOf us vs)) ∧ Below w.heap.size w w' := by
  have H1 := hideIt h1
  have H2 := hideIt h2
  obtain ⟨_, a1, c1, rfl, _⟩ := h1
  obtain ⟨_, a2, c2, rfl, _⟩ := h2
  go_enter Try.func16, Try.ntmps16
  go_wp2_with fail
  refine (specOk_any B _ us _ H1.out hB).mono ?_
  rintro e w1 ⟨rfl, hb1⟩
  have z1 := hb1.size
  cases ok1 : okB us
  · have HO := hideIt (orderOf_left (vs := vs) ok1)
    go_wp2_with fail
    go_ret
    exact ⟨ret_int HO.out.symm, hb1⟩
  · go_wp2_with fail
    refine (specOk_any B _ vs _ (H2.out.below (hb1.mono hB)) (by omega)).mono ?_
    rintro e w2 ⟨rfl, hb2⟩
    have HB2 := hideIt (hb1.trans (hb2.mono z1))
    have z2 := hb2.size
    cases ok2 : okB vs
    · have HO := hideIt (orderOf_right (us := us) ok2)
      go_wp2_with fail
      go_ret
      exact ⟨ret_int HO.out.symm, HB2.out⟩
    · have HO := hideIt (orderOf_yes ok1 ok2)
      obtain ⟨p1, q1, _, _⟩ := okB_parts ok1
      obtain ⟨p2, q2, _, _⟩ := okB_parts ok2
      have HT : Hid (Two B w2 (.slice a1 us.length c1) (.slice a2 vs.length c2) us vs) := ⟨H1.out.below (HB2.out.mono hB), H2.out.below (HB2.out.mono hB), q1, q2⟩
      clear q1 q2
      go_wp2_with fail
      refine (l1Compare_any B _ _ us vs _ HT.out (by omega) p1 p2).mono ?_
      rintro e w3 ⟨rfl, hb3⟩
      go_wp2_with fail
      go_ret
      exact ⟨ret_int HO.out.symm, HB2.out.trans (hb3.mono (by omega))⟩
end Go.Proofs.Ytpfnkpkcjefelaa

/-
  impl.compared: the order of two right values.
-/
namespace Go.Proofs.Ytpfnkpkcjefelaa
open Go.RowKit
set_option linter.unusedSimpArgs false
set_option linter.unusedVariables false

/-- What the order asks of the nodes alone. -/
structure FineU (us : List VN) : Prop where
  size : us.length ≤ 80
  nodes : ∀ k, k < us.length → nodeB (nodeAt us k) = true ∧ kidsIn us k = true
  few : ∀ k, k < us.length → (nodeAt us k).kids.length ≤ k

theorem fine_of {us : List VN} (h : okB us = true) : FineU us := by
  obtain ⟨h1, h2, _, h4⟩ := okB_parts h
  exact ⟨h1.2, h2, h4⟩

theorem FineU.kid {us : List VN} (h : FineU us) {n j : Nat} (hn : n < us.length) (hj : j < (nodeAt us n).kids.length) : (intAt (nodeAt us n).kids j).toNat < us.length := by
  have := kidsIn_get (h.nodes n hn).2 hj
  omega

theorem compared_any (us vs : List VN) (hu : FineU us) (hv : FineU vs) (lo B lo' B' : Nat) (hlo : lo ≤ B) (hlo' : lo' ≤ B') : ∀ f f' : Nat, CmpIH lo B lo' B' us vs f f' := by
  intro f
  induction f with
  | zero => intro f' n k v v' w _ _ h; exact h.elim
  | succ f ih =>
    intro f' n k v v' w hn hk h1 h2 hB hB'
    cases f' with
    | zero => exact h2.elim
    | succ f' =>
      have IH := ih f'
      have nx := (hu.nodes n hn).1
      have ny := (hv.nodes k hk).1
      by_cases hne : (nodeAt us n).kind = (nodeAt vs k).kind
      · have f1 := hu.few n hn
        have f2 := hv.few k hk
        have s1 := hu.size
        have s2 := hv.size
        have absurd2 : ∀ {a b : Int}, (nodeAt us n).kind = a → (nodeAt vs k).kind = b → a ≠ b → False := fun e1 e2 h => h (by omega)
        rcases h1 with ⟨k1, rfl⟩ | ⟨k1, rfl⟩ | ⟨k1, rfl⟩ | ⟨k1, rfl⟩ | ⟨k1, it, rfl, i1⟩ | ⟨k1, ks, it, rfl, g1, i1⟩
        · rcases h2 with ⟨k2, rfl⟩ | ⟨k2, _⟩ | ⟨k2, _⟩ | ⟨k2, _⟩ | ⟨k2, _⟩ | ⟨k2, _⟩
          · rw [ord_same nx ny k1 k2]; exact compared_null IH hlo hlo' w hB hB'
          all_goals exact (absurd2 k1 k2 (by decide)).elim
        · rcases h2 with ⟨k2, _⟩ | ⟨k2, rfl⟩ | ⟨k2, _⟩ | ⟨k2, _⟩ | ⟨k2, _⟩ | ⟨k2, _⟩
          · exact (absurd2 k1 k2 (by decide)).elim
          · rw [ord_same nx ny k1 k2]; exact compared_bool _ _ IH hlo hlo' w hB hB'
          all_goals exact (absurd2 k1 k2 (by decide)).elim
        · rcases h2 with ⟨k2, _⟩ | ⟨k2, _⟩ | ⟨k2, rfl⟩ | ⟨k2, _⟩ | ⟨k2, _⟩ | ⟨k2, _⟩
          · exact (absurd2 k1 k2 (by decide)).elim
          · exact (absurd2 k1 k2 (by decide)).elim
          · rw [ord_same nx ny k1 k2]; exact compared_int _ _ IH hlo hlo' w hB hB'
          all_goals exact (absurd2 k1 k2 (by decide)).elim
        · rcases h2 with ⟨k2, _⟩ | ⟨k2, _⟩ | ⟨k2, _⟩ | ⟨k2, rfl⟩ | ⟨k2, _⟩ | ⟨k2, _⟩
          · exact (absurd2 k1 k2 (by decide)).elim
          · exact (absurd2 k1 k2 (by decide)).elim
          · exact (absurd2 k1 k2 (by decide)).elim
          · rw [ord_same nx ny k1 k2]; exact compared_text _ _ IH hlo hlo' w hB hB'
          all_goals exact (absurd2 k1 k2 (by decide)).elim
        · rcases h2 with ⟨k2, _⟩ | ⟨k2, _⟩ | ⟨k2, _⟩ | ⟨k2, _⟩ | ⟨k2, it', rfl, i2⟩ | ⟨k2, _⟩
          · exact (absurd2 k1 k2 (by decide)).elim
          · exact (absurd2 k1 k2 (by decide)).elim
          · exact (absurd2 k1 k2 (by decide)).elim
          · exact (absurd2 k1 k2 (by decide)).elim
          · have hr : ord us vs (f + 1) n k = cmpKids (fun a b => ord us vs f a.toNat b.toNat) (nodeAt us n).kids (nodeAt vs k).kids := by
              rw [ord_same nx ny k1 k2, zeroK nx (by omega), zeroK ny (by omega)]; rfl
            rw [hr]
            exact compared_list _ _ _ _ IH hlo hlo' w hB hB' i1 i2 (by omega) (by omega) (fun j hj => hu.kid hn hj) (fun j hj => hv.kid hk hj)
          · exact (absurd2 k1 k2 (by decide)).elim
        · rcases h2 with ⟨k2, _⟩ | ⟨k2, _⟩ | ⟨k2, _⟩ | ⟨k2, _⟩ | ⟨k2, _⟩ | ⟨k2, ks', it', rfl, g2, i2⟩
          · exact (absurd2 k1 k2 (by decide)).elim
          · exact (absurd2 k1 k2 (by decide)).elim
          · exact (absurd2 k1 k2 (by decide)).elim
          · exact (absurd2 k1 k2 (by decide)).elim
          · exact (absurd2 k1 k2 (by decide)).elim
          · have hr : ord us vs (f + 1) n k = if cmpKeys (nodeAt us n).keys (nodeAt vs k).keys ≠ 0 then cmpKeys (nodeAt us n).keys (nodeAt vs k).keys else cmpKids (fun a b => ord us vs f a.toNat b.toNat) (nodeAt us n).kids (nodeAt vs k).kids := by
              rw [ord_same nx ny k1 k2]; rfl
            rw [hr]
            exact compared_map _ _ _ _ _ _ _ _ IH hlo hlo' w hB hB' g1 g2 i1 i2 (by omega) (by omega) (fun j hj => hu.kid hn hj) (fun j hj => hv.kid hk hj)
      · have hr : ord us vs (f + 1) n k = cmpI (nodeAt us n).kind (nodeAt vs k).kind := by rw [ord, if_pos hne]
        rw [hr]
        exact compared_diff lo B lo' B' (f + 1) (f' + 1) n k us vs v v' w h1 h2 hne
end Go.Proofs.Ytpfnkpkcjefelaa
