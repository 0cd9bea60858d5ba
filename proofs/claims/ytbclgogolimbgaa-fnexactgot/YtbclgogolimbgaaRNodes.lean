/-
  impl.rightNodes: the nodes of a value, if these are right.
-/
import Derived.Test.YtbclgogolimbgaaWn6
import Derived.Test.YtbclgogolimbgaaSS
import Derived.Test.YtbclgogolimbgaaImp3
namespace Go.Proofs.Ytbclgogolimbgaa
open Go.RowKit
set_option linter.unusedSimpArgs false
set_option linter.unusedVariables false

theorem TreeAt.iface {B : Nat} {w : World} {f : Nat} {t : VT} {v : Value} (h : TreeAt B w f t v) : ∃ ty x, v = .iface ty x := by
  cases f with
  | zero => exact h.elim
  | succ f =>
    obtain ⟨kind, n, s, keys, kids⟩ := t
    rcases h with ⟨_, _, _, _, _, rfl⟩ | ⟨_, _, _, _, rfl⟩ | ⟨_, _, _, _, rfl⟩ | ⟨_, _, _, _, rfl⟩ | ⟨_, _, _, _, it, rfl, _⟩ | ⟨_, _, _, ks, it, rfl, _⟩ <;> exact ⟨_, _, rfl⟩

def rightNs (ns : List VN) : List VN := if okB ns = true then ns else []

set_option maxRecDepth 100000 in
set_option maxHeartbeats 3200000 in
theorem rightNodes_any (f : Nat) (t : VT) (x : Value) (ns : List VN) (w : World) (ht : TreeAt w.heap.size w f t x) (hns : layT f t 0 = ns) (hn : ns.length ≤ 100000) (hf : ∀ i, i < ns.length → Fits (nodeAt ns i)) :
    Calls Try.prog 47 #[x] w fun e w' => ∃ r base KV IV, e = .returned (.tuple #[r, .bool (okB ns)]) ∧ w.heap.size ≤ base ∧ base ≤ w'.heap.size ∧ Nest base w' r (rightNs ns) KV IV ∧ Below w.heap.size w w' := by
  obtain ⟨ty, xv, rfl⟩ := ht.iface
  have HT := hideIt ht
  have HNS := hideIt hns
  have HF := hideIt hf
  have HRN : Hid (rightNs ns = if okB ns = true then ns else []) := rfl
  clear ht hns hf
  go_enter Try.func47, Try.ntmps47
  go_wp2_with fail
  refine (withNodes_any w.heap.size w.heap.size (Nat.le_refl _) f t (.iface ty xv) (.slice none 0 0) [] (fun _ => undef) (fun _ => undef) w (Nest.nil _ _ _ _) HT.out (Nat.le_refl _) (by rw [List.length_nil, HNS.out]; omega)).mono ?_
  rintro e w1 ⟨r, K, I, rfl, hl1⟩
  have hn1 : Nest w.heap.size w1 r ns K I := by have := hl1.1; rw [List.nil_append, List.length_nil, HNS.out] at this; exact this
  have hb1 : Below w.heap.size w w1 := (Below.refl _ _).grown hl1.2.1 (Nat.le_refl _) (fun k hk => by simp [Value.ownBlock] at hk)
  have z1 := hb1.size
  have HN1 := hideIt hn1
  have HB1 := hideIt hb1
  obtain ⟨ar, cr, er⟩ := own_slice hn1.row
  obtain ⟨N, hN⟩ : ∃ N, ns.length = N := ⟨_, rfl⟩
  rw [hN] at er
  subst er
  clear hn1 hb1 hN hl1
  go_wp2_with fail
  refine (implOk_any w1.heap.size _ ns _ (HN1.out.nodes (by omega) HF.out) (Nat.le_refl _)).mono ?_
  rintro e w2 ⟨rfl, hb2⟩
  have z2 := hb2.size
  have HN2 := hideIt (HN1.out.below hb2)
  have HB2 := hideIt (HB1.out.trans (hb2.mono z1))
  clear hb2
  cases ok1 : okB ns
  · go_wp2_with fail
    go_ret2
    exact ⟨.slice none 0 0, w.heap.size, fun _ => undef, fun _ => undef, by rw [ok1]; rfl, Nat.le_refl _, by omega, by rw [HRN.out, ok1]; exact Nest.nil _ _ _ _, HB2.out⟩
  · go_wp2_with fail
    go_ret2
    exact ⟨.slice ar N cr, w.heap.size, K, I, by rw [ok1]; rfl, Nat.le_refl _, by omega, by rw [HRN.out, ok1]; exact HN2.out, HB2.out⟩
end Go.Proofs.Ytbclgogolimbgaa
