/-
  impl.compared: the order of two right values.
-/
import Derived.Test.YtpfnkpkcjefelaaCmpD
import Derived.Test.YtpfnkpkcjefelaaCmpE
namespace Go.Proofs.Ytpfnkpkcjefelaa
open Go.RowKit
set_option linter.unusedSimpArgs false
set_option linter.unusedVariables false

/-- What the order asks of the nodes alone. -/
structure FineU (us : List VN) : Prop where
  size : us.length ≤ 80
  nodes : ∀ k, k < us.length → nodeB (nodeAt us k) = true ∧ kidsIn us k = true
  few : ∀ k, k < us.length → (nodeAt us k).kids.length ≤ k

theorem fine_of {us : List VN} (h : okB us = true) : FineU us := by
  obtain ⟨h1, h2, _, h4⟩ := okB_parts h
  exact ⟨h1.2, h2, h4⟩

theorem FineU.kid {us : List VN} (h : FineU us) {n j : Nat} (hn : n < us.length) (hj : j < (nodeAt us n).kids.length) : (intAt (nodeAt us n).kids j).toNat < us.length := by
  have := kidsIn_get (h.nodes n hn).2 hj
  omega

theorem compared_any (us vs : List VN) (hu : FineU us) (hv : FineU vs) (lo B lo' B' : Nat) (hlo : lo ≤ B) (hlo' : lo' ≤ B') : ∀ f f' : Nat, CmpIH lo B lo' B' us vs f f' := by
  intro f
  induction f with
  | zero => intro f' n k v v' w _ _ h; exact h.elim
  | succ f ih =>
    intro f' n k v v' w hn hk h1 h2 hB hB'
    cases f' with
    | zero => exact h2.elim
    | succ f' =>
      have IH := ih f'
      have nx := (hu.nodes n hn).1
      have ny := (hv.nodes k hk).1
      by_cases hne : (nodeAt us n).kind = (nodeAt vs k).kind
      · have f1 := hu.few n hn
        have f2 := hv.few k hk
        have s1 := hu.size
        have s2 := hv.size
        have absurd2 : ∀ {a b : Int}, (nodeAt us n).kind = a → (nodeAt vs k).kind = b → a ≠ b → False := fun e1 e2 h => h (by omega)
        rcases h1 with ⟨k1, rfl⟩ | ⟨k1, rfl⟩ | ⟨k1, rfl⟩ | ⟨k1, rfl⟩ | ⟨k1, it, rfl, i1⟩ | ⟨k1, ks, it, rfl, g1, i1⟩
        · rcases h2 with ⟨k2, rfl⟩ | ⟨k2, _⟩ | ⟨k2, _⟩ | ⟨k2, _⟩ | ⟨k2, _⟩ | ⟨k2, _⟩
          · rw [ord_same nx ny k1 k2]; exact compared_null IH hlo hlo' w hB hB'
          all_goals exact (absurd2 k1 k2 (by decide)).elim
        · rcases h2 with ⟨k2, _⟩ | ⟨k2, rfl⟩ | ⟨k2, _⟩ | ⟨k2, _⟩ | ⟨k2, _⟩ | ⟨k2, _⟩
          · exact (absurd2 k1 k2 (by decide)).elim
          · rw [ord_same nx ny k1 k2]; exact compared_bool _ _ IH hlo hlo' w hB hB'
          all_goals exact (absurd2 k1 k2 (by decide)).elim
        · rcases h2 with ⟨k2, _⟩ | ⟨k2, _⟩ | ⟨k2, rfl⟩ | ⟨k2, _⟩ | ⟨k2, _⟩ | ⟨k2, _⟩
          · exact (absurd2 k1 k2 (by decide)).elim
          · exact (absurd2 k1 k2 (by decide)).elim
          · rw [ord_same nx ny k1 k2]; exact compared_int _ _ IH hlo hlo' w hB hB'
          all_goals exact (absurd2 k1 k2 (by decide)).elim
        · rcases h2 with ⟨k2, _⟩ | ⟨k2, _⟩ | ⟨k2, _⟩ | ⟨k2, rfl⟩ | ⟨k2, _⟩ | ⟨k2, _⟩
          · exact (absurd2 k1 k2 (by decide)).elim
          · exact (absurd2 k1 k2 (by decide)).elim
          · exact (absurd2 k1 k2 (by decide)).elim
          · rw [ord_same nx ny k1 k2]; exact compared_text _ _ IH hlo hlo' w hB hB'
          all_goals exact (absurd2 k1 k2 (by decide)).elim
        · rcases h2 with ⟨k2, _⟩ | ⟨k2, _⟩ | ⟨k2, _⟩ | ⟨k2, _⟩ | ⟨k2, it', rfl, i2⟩ | ⟨k2, _⟩
          · exact (absurd2 k1 k2 (by decide)).elim
          · exact (absurd2 k1 k2 (by decide)).elim
          · exact (absurd2 k1 k2 (by decide)).elim
          · exact (absurd2 k1 k2 (by decide)).elim
          · have hr : ord us vs (f + 1) n k = cmpKids (fun a b => ord us vs f a.toNat b.toNat) (nodeAt us n).kids (nodeAt vs k).kids := by
              rw [ord_same nx ny k1 k2, zeroK nx (by omega), zeroK ny (by omega)]; rfl
            rw [hr]
            exact compared_list _ _ _ _ IH hlo hlo' w hB hB' i1 i2 (by omega) (by omega) (fun j hj => hu.kid hn hj) (fun j hj => hv.kid hk hj)
          · exact (absurd2 k1 k2 (by decide)).elim
        · rcases h2 with ⟨k2, _⟩ | ⟨k2, _⟩ | ⟨k2, _⟩ | ⟨k2, _⟩ | ⟨k2, _⟩ | ⟨k2, ks', it', rfl, g2, i2⟩
          · exact (absurd2 k1 k2 (by decide)).elim
          · exact (absurd2 k1 k2 (by decide)).elim
          · exact (absurd2 k1 k2 (by decide)).elim
          · exact (absurd2 k1 k2 (by decide)).elim
          · exact (absurd2 k1 k2 (by decide)).elim
          · have hr : ord us vs (f + 1) n k = if cmpKeys (nodeAt us n).keys (nodeAt vs k).keys ≠ 0 then cmpKeys (nodeAt us n).keys (nodeAt vs k).keys else cmpKids (fun a b => ord us vs f a.toNat b.toNat) (nodeAt us n).kids (nodeAt vs k).kids := by
              rw [ord_same nx ny k1 k2]; rfl
            rw [hr]
            exact compared_map _ _ _ _ _ _ _ _ IH hlo hlo' w hB hB' g1 g2 i1 i2 (by omega) (by omega) (fun j hj => hu.kid hn hj) (fun j hj => hv.kid hk hj)
      · have hr : ord us vs (f + 1) n k = cmpI (nodeAt us n).kind (nodeAt vs k).kind := by rw [ord, if_pos hne]
        rw [hr]
        exact compared_diff lo B lo' B' (f + 1) (f' + 1) n k us vs v v' w h1 h2 hne
end Go.Proofs.Ytpfnkpkcjefelaa
