/-
  Laying nodes one behind the other in memory: what withNodes leaves, and what holds while it is under way. No walk.
-/
import Derived.Test.YtagcgnhpdmhegaaGreatDoorRowB
import Derived.Maps.Range
import Derived.Test.YtagcgnhpdmhegaaGreatDoorVal
namespace Go.Proofs.YtagcgnhpdmhegaaGreatDoor
open Go.RowKit
set_option linter.unusedSimpArgs false
set_option linter.unusedVariables false

/-- What laying the nodes 'add' behind those that lie there leaves. -/
def Laid (base : Nat) (w w' : World) (v v' : Value) (ns add : List VN) (KV IV KV' IV' : Nat → Value) : Prop :=
  Nest base w' v' (ns ++ add) KV' IV' ∧ w.grownBy w' v.ownBlock ∧ (v'.ownBlock = v.ownBlock ∨ ∃ g, v'.ownBlock = some g ∧ w.heap.size ≤ g) ∧ (∀ j, j < ns.length → KV' j = KV j ∧ IV' j = IV j) ∧
    (∀ j, ns.length ≤ j → j < ns.length + add.length → (∀ y, (KV' j).ownBlock = some y → w.heap.size ≤ y) ∧ (∀ y, (IV' j).ownBlock = some y → w.heap.size ≤ y))

/-- While it is under way: the node that is being made lies in block nb, with the cells cs; its kids' row is kv. -/
structure Mid (base : Nat) (w wr : World) (nb : Nat) (v0 v kv : Value) (ns acc : List VN) (ks : List Int) (cs : List Value) (KV0 IV0 KV IV : Nat → Value) : Prop where
  hbase : base ≤ w.heap.size
  v0b : ∀ y, v0.ownBlock = some y → base ≤ y
  nest : Nest base wr v (ns ++ acc) KV IV
  node : wr.ownsRow w.heap.size 55 5 (.slice (some ⟨nb, 0, none⟩) 1 1) 1 cs
  kids : wr.ownsRow w.heap.size 2 1 kv ks.length (ks.map (.int .i64))
  vnb : v.ownBlock ≠ some nb
  frame : w.grownBy wr v0.ownBlock
  vat : v.ownBlock = v0.ownBlock ∨ ∃ g, v.ownBlock = some g ∧ w.heap.size ≤ g
  old : ∀ j, j < ns.length → KV j = KV0 j ∧ IV j = IV0 j
  new : ∀ j, ns.length ≤ j → j < ns.length + acc.length → (∀ y, (KV j).ownBlock = some y → w.heap.size ≤ y) ∧ (∀ y, (IV j).ownBlock = some y → w.heap.size ≤ y)
  ki : ∀ j, j < ns.length + acc.length → ∀ y, kv.ownBlock = some y → (IV j).ownBlock ≠ some y

theorem grownBy_of_below {w w' : World} {row : Option Nat} (h : Below w.heap.size w w') : w.grownBy w' row := ⟨h.os, h.tape, h.output, h.size, fun k hk _ => h.block k hk⟩

theorem Mid.start {base : Nat} {w w1 w2 : World} {v : Value} {ns : List VN} {KV IV : Nat → Value} {c0 c1 c2 c3 c4 : Value} (h : Nest base w v ns KV IV) (hb : base ≤ w.heap.size) (h1 : Below w.heap.size w w1)
    (h2 : Below (w1.alloc (.cells #[c0, c1, c2, c3, c4] 55)).heap.size (w1.alloc (.cells #[c0, c1, c2, c3, c4] 55)) w2) :
    Mid base w w2 w1.heap.size v v (.slice none 0 0) ns [] [] [c0, c1, c2, c3, c4] KV IV KV IV := by
  have hb2 : Below w.heap.size w w2 := (h1.alloc h1.size _).trans (h2.mono (by have := h1.size; simp; omega))
  have hn := World.ownsRow_lit (base := w.heap.size) (e := 55) (size := 5) w1 #[c0, c1, c2, c3, c4] 1 h1.size (by simp [maxLen]) rfl
  refine ⟨hb, fun y hy => (h.row.lt y hy).1, by simpa using h.below hb2, own_below hn h2 (fun x hx => ?_), World.ownsRow_nil _ _ _ _, fun e => ?_, grownBy_of_below hb2, Or.inl rfl, fun j _ => ⟨rfl, rfl⟩, fun j h1 h2 => ?_, fun j hj y hy => ?_⟩
  · simp [Value.ownBlock] at hx; subst hx; simp
  · have := (h.row.lt _ e).2
    have := h1.size
    omega
  · simp at h2; omega
  · simp [Value.ownBlock] at hy

theorem Mid.laid {base : Nat} {w wr w' : World} {nb : Nat} {v0 v v' kv : Value} {ns acc add : List VN} {ks : List Int} {cs : List Value} {KV0 IV0 KV IV KV' IV' : Nat → Value} (h : Mid base w wr nb v0 v kv ns acc ks cs KV0 IV0 KV IV)
    (l : Laid base wr w' v v' (ns ++ acc) add KV IV KV' IV') : Mid base w w' nb v0 v' kv ns (acc ++ add) ks cs KV0 IV0 KV' IV' := by
  obtain ⟨l1, l2, l3, l4, l5⟩ := l
  have hnb := (h.node.lt nb rfl).2
  have hsz := h.frame.size
  refine ⟨h.hbase, h.v0b, by rw [← List.append_assoc]; exact l1, h.node.kept l2 (Or.inr fun e => h.vnb e.symm), h.kids.kept l2 (own_apart h.kids h.nest.row (by decide)), ?_, h.frame.andThen l2 (fun j hj => ?_), ?_, fun j hj => ?_, fun j hj1 hj2 => ?_, fun j hj y hy => ?_⟩
  · rcases l3 with e | ⟨g, e, hg⟩
    · rw [e]; exact h.vnb
    · rw [e]; intro e2; simp at e2; omega
  · rcases h.vat with e | ⟨g, e, hg⟩
    · exact Or.inr (e ▸ hj)
    · rw [e] at hj; simp at hj; exact Or.inl (by omega)
  · rcases l3 with e | ⟨g, e, hg⟩
    · rw [e]; exact h.vat
    · exact Or.inr ⟨g, e, by omega⟩
  · have e := l4 j (by simp; omega)
    have o := h.old j hj
    exact ⟨e.1.trans o.1, e.2.trans o.2⟩
  · by_cases hlt : j < ns.length + acc.length
    · have e := l4 j (by simp; omega)
      rw [e.1, e.2]
      exact h.new j hj1 hlt
    · have e := l5 j (by simp; omega) (by simp at hj2 ⊢; omega)
      exact ⟨fun y hy => Nat.le_trans hsz (e.1 y hy), fun y hy => Nat.le_trans hsz (e.2 y hy)⟩
  · by_cases hlt : j < ns.length + acc.length
    · rw [(l4 j (by simp; omega)).2]
      exact h.ki j hlt y hy
    · intro e
      have := (l5 j (by simp; omega) (by simp at hj ⊢; omega)).2 y e
      have := (h.kids.lt y hy).2
      omega

theorem Mid.put {base : Nat} {w wr : World} {nb : Nat} {v0 v kv : Value} {ns acc : List VN} {ks : List Int} {cs : List Value} {KV0 IV0 KV IV : Nat → Value} (h : Mid base w wr nb v0 v kv ns acc ks cs KV0 IV0 KV IV) (j : Nat) (u : Value) :
    Mid base w (wr.setCell ⟨nb, j, none⟩ u) nb v0 v kv ns acc ks (cs.set j u) KV0 IV0 KV IV := by
  have st := h.node.stored j u
  exact ⟨h.hbase, h.v0b, h.nest.kept st.2 (Or.inr h.vnb) (fun i hi => own_apart (h.nest.rk i hi) h.node (by decide)) (fun i hi => own_apart (h.nest.ri i hi) h.node (by decide)), st.1, h.kids.kept st.2 (own_apart h.kids h.node (by decide)), h.vnb,
    h.frame.andThen st.2 (fun j hj => Or.inl (by cases hj; exact (h.node.lt nb rfl).1)), h.vat, h.old, h.new, h.ki⟩

/-- A new row of kids. -/
theorem Mid.kid1 {base : Nat} {w wr w5 : World} {nb : Nat} {v0 v kv kv' : Value} {ns acc : List VN} {ks : List Int} {cs : List Value} {KV0 IV0 KV IV : Nat → Value} {o : Obj} {q : Int} (h : Mid base w wr nb v0 v kv ns acc ks cs KV0 IV0 KV IV)
    (hown : w5.ownsRow w.heap.size 2 1 kv' (ks.length + 1) (ks.map (.int .i64) ++ [.int .i64 q])) (hg : (wr.alloc o).grownBy w5 kv.ownBlock) (hat : kv'.ownBlock = kv.ownBlock ∨ kv'.ownBlock = some (wr.heap.size + 1)) :
    Mid base w w5 nb v0 v kv' ns acc (ks ++ [q]) cs KV0 IV0 KV IV := by
  have hg1 : wr.grownBy w5 kv.ownBlock := (World.grownBy_alloc wr o _).trans hg
  have hkk : ∀ i, i < (ns ++ acc).length → (IV i).ownBlock = none ∨ (IV i).ownBlock ≠ kv.ownBlock := by
    intro i hi
    cases e : kv.ownBlock with
    | none => cases e2 : (IV i).ownBlock with
      | none => exact Or.inl rfl
      | some y => exact Or.inr (by simp)
    | some y => exact Or.inr (h.ki i (by simpa using hi) y e)
  refine ⟨h.hbase, h.v0b, h.nest.kept hg1 (own_apart h.nest.row h.kids (by decide)) (fun i hi => own_apart (h.nest.rk i hi) h.kids (by decide)) hkk, h.node.kept hg1 (own_apart h.node h.kids (by decide)), by simpa using hown, h.vnb, h.frame.andThen hg1 (fun j hj => Or.inl (h.kids.lt j hj).1), h.vat, h.old, h.new, fun j hj y hy => ?_⟩
  rcases hat with e | e
  · exact h.ki j hj y (e ▸ hy)
  · rw [e] at hy
    simp at hy
    intro e2
    have := ((h.nest.ri j (by simpa using hj)).lt y e2).2
    omega

theorem Mid.kid {base : Nat} {w wr w5 : World} {nb : Nat} {v0 v kv kv' : Value} {ns acc : List VN} {ks : List Int} {cs : List Value} {KV0 IV0 KV IV : Nat → Value} {o : Obj} {q : Int} (h : Mid base w wr nb v0 v kv ns acc ks cs KV0 IV0 KV IV)
    (hown : w5.ownsRow w.heap.size 2 1 kv' (ks.length + 1) (ks.map (.int .i64) ++ [.int .i64 q])) (hg : (wr.alloc o).grownBy w5 kv.ownBlock) (hat : kv'.ownBlock = kv.ownBlock ∨ kv'.ownBlock = some (wr.heap.size + 1)) :
    Mid base w (w5.setCell ⟨nb, 4, none⟩ kv') nb v0 v kv' ns acc (ks ++ [q]) (cs.set 4 kv') KV0 IV0 KV IV := (h.kid1 hown hg hat).put 4 kv'

/-- An empty row of kids, made now. -/
theorem Mid.kid0 {base : Nat} {w wr : World} {nb : Nat} {v0 v kv : Value} {ns acc : List VN} {ks : List Int} {cs : List Value} {KV0 IV0 KV IV : Nat → Value} (h : Mid base w wr nb v0 v kv ns acc ks cs KV0 IV0 KV IV) :
    Mid base w (wr.alloc (.cells #[] 2)) nb v0 v (.slice (some ⟨wr.heap.size, 0, none⟩) 0 0) ns acc [] cs KV0 IV0 KV IV := by
  have hg := World.grownBy_alloc wr (.cells #[] 2) none
  have nn : ∀ x : Option Nat, x = none ∨ x ≠ none := fun x => by cases x <;> simp
  have hs := h.frame.size
  refine ⟨h.hbase, h.v0b, h.nest.kept hg (nn _) (fun _ _ => nn _) (fun _ _ => nn _), h.node.kept hg (nn _), World.ownsRow_lit wr #[] 0 hs (by simp [maxLen]) rfl, h.vnb, h.frame.andThen hg (fun j hj => by cases hj), h.vat, h.old, h.new, fun j hj y hy e => ?_⟩
  have := ((h.nest.ri j (by simpa using hj)).lt y e).2
  simp [Value.ownBlock] at hy
  omega

/-- New blocks. -/
theorem Mid.grow {base : Nat} {w wr w5 : World} {nb : Nat} {v0 v kv : Value} {ns acc : List VN} {ks : List Int} {cs : List Value} {KV0 IV0 KV IV : Nat → Value} (h : Mid base w wr nb v0 v kv ns acc ks cs KV0 IV0 KV IV) (hg : wr.grownBy w5 none) :
    Mid base w w5 nb v0 v kv ns acc ks cs KV0 IV0 KV IV := by
  have nn : ∀ x : Option Nat, x = none ∨ x ≠ none := fun x => by cases x <;> simp
  exact ⟨h.hbase, h.v0b, h.nest.kept hg (nn _) (fun _ _ => nn _) (fun _ _ => nn _), h.node.kept hg (nn _), h.kids.kept hg (nn _), h.vnb, h.frame.andThen hg (fun j hj => by cases hj), h.vat, h.old, h.new, h.ki⟩

/-- The node stands at its place. -/
theorem Mid.fin {base : Nat} {w wr w6 : World} {nb : Nat} {v0 v v' kv c3 : Value} {ns acc : List VN} {ks : List Int} {cs : List Value} {KV0 IV0 KV IV : Nat → Value} {o : Obj} {x : VN} (h : Mid base w wr nb v0 v kv ns acc ks cs KV0 IV0 KV IV) (hx : x.kids = ks)
    (hk : wr.ownsRow w.heap.size 9 1 c3 x.keys.length (x.keys.map .string)) (fk : ∀ j, j < ns.length + acc.length → ∀ y, c3.ownBlock = some y → (KV j).ownBlock ≠ some y)
    (hown : w6.ownsRow base 55 5 v' ((ns ++ acc).length + 1) (nestCells (ns ++ acc) KV IV ++ [.int .i64 x.kind, .int .i64 x.n, .string x.s, c3, kv])) (hg : (wr.alloc o).grownBy w6 v.ownBlock) (hat : v'.ownBlock = v.ownBlock ∨ v'.ownBlock = some (wr.heap.size + 1)) :
    Laid base w w6 v0 v' ns (acc ++ [x]) KV0 IV0 (upd KV (ns ++ acc).length c3) (upd IV (ns ++ acc).length kv) := by
  subst hx
  have hg1 : wr.grownBy w6 v.ownBlock := (World.grownBy_alloc wr o _).trans hg
  have hsz := h.frame.size
  have hn := Nest.snoc (x := x) h.nest (own_mono hk h.hbase) (own_mono h.kids h.hbase) (fun i hi => fk i (by simpa using hi)) (fun i hi => h.ki i (by simpa using hi)) hown hg1
  refine ⟨by rw [← List.append_assoc]; exact hn, h.frame.andThen hg1 (fun j hj => ?_), ?_, fun j hj => ?_, fun j hj1 hj2 => ?_⟩
  · rcases h.vat with e | ⟨g, e, hg⟩
    · exact Or.inr (e ▸ hj)
    · rw [e] at hj; simp at hj; exact Or.inl (by omega)
  · rcases hat with e | e
    · rw [e]; exact h.vat
    · exact Or.inr ⟨_, e, by omega⟩
  · rw [upd_other _ _ (by simp; omega), upd_other _ _ (by simp; omega)]
    exact h.old j hj
  · by_cases hlt : j < ns.length + acc.length
    · rw [upd_other _ _ (by simp; omega), upd_other _ _ (by simp; omega)]
      exact h.new j hj1 hlt
    · obtain rfl : j = (ns ++ acc).length := by simp at hj2 ⊢; omega
      rw [upd_same, upd_same]
      exact ⟨fun y hy => (hk.lt y hy).1, fun y hy => (h.kids.lt y hy).1⟩

theorem Mid.keepL {base : Nat} {w wr : World} {nb : Nat} {v0 v kv : Value} {ns acc : List VN} {ks : List Int} {cs : List Value} {KV0 IV0 KV IV : Nat → Value} {B : Nat} (h : Mid base w wr nb v0 v kv ns acc ks cs KV0 IV0 KV IV) (hB : B ≤ base) : Below B w wr :=
  (Below.refl _ _).grown h.frame (by have := h.hbase; omega) (fun k hk => by have := h.v0b k hk; omega)

theorem Laid.refl {base : Nat} {w : World} {v : Value} {ns : List VN} {KV IV : Nat → Value} (h : Nest base w v ns KV IV) : Laid base w w v v ns [] KV IV KV IV :=
  ⟨by simpa using h, ⟨rfl, rfl, rfl, Nat.le_refl _, fun _ _ _ => rfl⟩, Or.inl rfl, fun _ _ => ⟨rfl, rfl⟩, fun j h1 h2 => by simp at h2; omega⟩

theorem Laid.trans {base : Nat} {w w1 w2 : World} {v v1 v2 : Value} {ns add add' : List VN} {KV IV KV1 IV1 KV2 IV2 : Nat → Value} (h : Laid base w w1 v v1 ns add KV IV KV1 IV1) (k : Laid base w1 w2 v1 v2 (ns ++ add) add' KV1 IV1 KV2 IV2) : Laid base w w2 v v2 ns (add ++ add') KV IV KV2 IV2 := by
  obtain ⟨h1, h2, h3, h4, h5⟩ := h
  obtain ⟨k1, k2, k3, k4, k5⟩ := k
  have hs := h2.size
  refine ⟨by rw [← List.append_assoc]; exact k1, h2.andThen k2 (fun j hj => ?_), ?_, fun j hj => ?_, fun j hj1 hj2 => ?_⟩
  · rcases h3 with e | ⟨g, e, hg⟩
    · exact Or.inr (e ▸ hj)
    · rw [e] at hj; simp at hj; exact Or.inl (by omega)
  · rcases k3 with e | ⟨g, e, hg⟩
    · rw [e]; exact h3
    · exact Or.inr ⟨g, e, by omega⟩
  · have e := k4 j (by simp; omega)
    have o := h4 j hj
    exact ⟨e.1.trans o.1, e.2.trans o.2⟩
  · by_cases hlt : j < ns.length + add.length
    · have e := k4 j (by simp; omega)
      rw [e.1, e.2]
      exact h5 j hj1 hlt
    · have e := k5 j (by simp; omega) (by simp at hj2 ⊢; omega)
      exact ⟨fun y hy => Nat.le_trans hs (e.1 y hy), fun y hy => Nat.le_trans hs (e.2 y hy)⟩

theorem Laid.below {base B : Nat} {w w1 : World} {v v1 : Value} {ns add : List VN} {KV IV KV1 IV1 : Nat → Value} (h : Laid base w w1 v v1 ns add KV IV KV1 IV1) (hv : ∀ y, v.ownBlock = some y → base ≤ y) (hB : B ≤ base) (hb : base ≤ w.heap.size) : Below B w w1 :=
  (Below.refl _ _).grown h.2.1 (by omega) (fun k hk => by have := hv k hk; omega)
end Go.Proofs.YtagcgnhpdmhegaaGreatDoor

/-
  What the methods kind and parts say, and a type switch's tests, one fact a pair of types. (The same facts as in CmpF and CmpE, for texts that don't reach the order: never import both.)
-/
namespace Go.Proofs.YtagcgnhpdmhegaaGreatDoor
open Go.RowKit
set_option linter.unusedSimpArgs false
set_option linter.unusedVariables false

theorem kind1_any (w : World) : Calls Tryz.prog 154 #[.agg #[]] w fun e w' => e = .returned (.int .i64 1) ∧ Below w.heap.size w w' := by
  go_enter Tryz.func154, Tryz.ntmps154
  go_wp2_with fail
  go_ret
  exact ⟨rfl, (Below.refl _ _).alloc (Nat.le_refl _) _⟩
theorem kind2_any (n : Int) (w : World) : Calls Tryz.prog 156 #[.agg #[.int .i64 n]] w fun e w' => e = .returned (.int .i64 2) ∧ Below w.heap.size w w' := by
  go_enter Tryz.func156, Tryz.ntmps156
  go_wp2_with fail
  go_ret
  exact ⟨rfl, (Below.refl _ _).alloc (Nat.le_refl _) _⟩
theorem kind3_any (n : Int) (w : World) : Calls Tryz.prog 158 #[.agg #[.int .i64 n]] w fun e w' => e = .returned (.int .i64 3) ∧ Below w.heap.size w w' := by
  go_enter Tryz.func158, Tryz.ntmps158
  go_wp2_with fail
  go_ret
  exact ⟨rfl, (Below.refl _ _).alloc (Nat.le_refl _) _⟩
theorem kind4_any (s : ByteArray) (w : World) : Calls Tryz.prog 160 #[.agg #[.string s]] w fun e w' => e = .returned (.int .i64 4) ∧ Below w.heap.size w w' := by
  go_enter Tryz.func160, Tryz.ntmps160
  go_wp2_with fail
  go_ret
  exact ⟨rfl, (Below.refl _ _).alloc (Nat.le_refl _) _⟩
theorem kind5_any (a : Option Addr) (n c : Nat) (w : World) : Calls Tryz.prog 162 #[.agg #[.slice a n c]] w fun e w' => e = .returned (.int .i64 5) ∧ Below w.heap.size w w' := by
  go_enter Tryz.func162, Tryz.ntmps162
  go_wp2_with fail
  go_ret
  exact ⟨rfl, (Below.refl _ _).alloc (Nat.le_refl _) _⟩
theorem kind6_any (a : Option Addr) (n c : Nat) (a' : Option Addr) (n' c' : Nat) (w : World) : Calls Tryz.prog 164 #[.agg #[.slice a n c, .slice a' n' c']] w fun e w' => e = .returned (.int .i64 6) ∧ Below w.heap.size w w' := by
  go_enter Tryz.func164, Tryz.ntmps164
  go_wp2_with fail
  go_ret
  exact ⟨rfl, (Below.refl _ _).alloc (Nat.le_refl _) _⟩

theorem parts1_any (w : World) : Calls Tryz.prog 155 #[.agg #[]] w fun e w' => e = .returned (.slice none 0 0) ∧ Below w.heap.size w w' := by
  go_enter Tryz.func155, Tryz.ntmps155
  go_wp2_with fail
  go_ret
  exact ⟨rfl, (Below.refl _ _).alloc (Nat.le_refl _) _⟩
theorem parts2_any (n : Int) (w : World) : Calls Tryz.prog 157 #[.agg #[.int .i64 n]] w fun e w' => e = .returned (.slice none 0 0) ∧ Below w.heap.size w w' := by
  go_enter Tryz.func157, Tryz.ntmps157
  go_wp2_with fail
  go_ret
  exact ⟨rfl, (Below.refl _ _).alloc (Nat.le_refl _) _⟩
theorem parts3_any (n : Int) (w : World) : Calls Tryz.prog 159 #[.agg #[.int .i64 n]] w fun e w' => e = .returned (.slice none 0 0) ∧ Below w.heap.size w w' := by
  go_enter Tryz.func159, Tryz.ntmps159
  go_wp2_with fail
  go_ret
  exact ⟨rfl, (Below.refl _ _).alloc (Nat.le_refl _) _⟩
theorem parts4_any (s : ByteArray) (w : World) : Calls Tryz.prog 161 #[.agg #[.string s]] w fun e w' => e = .returned (.slice none 0 0) ∧ Below w.heap.size w w' := by
  go_enter Tryz.func161, Tryz.ntmps161
  go_wp2_with fail
  go_ret
  exact ⟨rfl, (Below.refl _ _).alloc (Nat.le_refl _) _⟩
theorem parts5_any (a : Option Addr) (n c : Nat) (w : World) : Calls Tryz.prog 163 #[.agg #[.slice a n c]] w fun e w' => e = .returned (.slice a n c) ∧ Below w.heap.size w w' := by
  go_enter Tryz.func163, Tryz.ntmps163
  go_wp2_with fail
  go_ret
  exact ⟨rfl, (Below.refl _ _).alloc (Nat.le_refl _) _⟩
theorem parts6_any (a : Option Addr) (n c : Nat) (a' : Option Addr) (n' c' : Nat) (w : World) : Calls Tryz.prog 165 #[.agg #[.slice a n c, .slice a' n' c']] w fun e w' => e = .returned (.slice a' n' c') ∧ Below w.heap.size w w' := by
  go_enter Tryz.func165, Tryz.ntmps165
  go_wp2_with fail
  go_ret
  exact ⟨rfl, (Below.refl _ _).alloc (Nat.le_refl _) _⟩

theorem ta_null_bool (x : Value) (w : World) : (Instr.typeAssert (.iface 73 x) 36 77 true).run Tryz.prog w = .ok (.tuple #[.agg #[.int .i64 0], .bool false]) w := by kernel_rfl
theorem ta_null_int (x : Value) (w : World) : (Instr.typeAssert (.iface 73 x) 36 79 true).run Tryz.prog w = .ok (.tuple #[.agg #[.int .i64 0], .bool false]) w := by kernel_rfl
theorem ta_null_text (x : Value) (w : World) : (Instr.typeAssert (.iface 73 x) 36 82 true).run Tryz.prog w = .ok (.tuple #[.agg #[.string ByteArray.empty], .bool false]) w := by kernel_rfl
theorem ta_null_map (x : Value) (w : World) : (Instr.typeAssert (.iface 73 x) 36 87 true).run Tryz.prog w = .ok (.tuple #[.agg #[.slice none 0 0, .slice none 0 0], .bool false]) w := by kernel_rfl
theorem ta_bool_bool (x : Value) (w : World) : (Instr.typeAssert (.iface 77 x) 36 77 true).run Tryz.prog w = .ok (.tuple #[x, .bool true]) w := by kernel_rfl
theorem ta_int_bool (x : Value) (w : World) : (Instr.typeAssert (.iface 79 x) 36 77 true).run Tryz.prog w = .ok (.tuple #[.agg #[.int .i64 0], .bool false]) w := by kernel_rfl
theorem ta_int_int (x : Value) (w : World) : (Instr.typeAssert (.iface 79 x) 36 79 true).run Tryz.prog w = .ok (.tuple #[x, .bool true]) w := by kernel_rfl
theorem ta_text_bool (x : Value) (w : World) : (Instr.typeAssert (.iface 82 x) 36 77 true).run Tryz.prog w = .ok (.tuple #[.agg #[.int .i64 0], .bool false]) w := by kernel_rfl
theorem ta_text_int (x : Value) (w : World) : (Instr.typeAssert (.iface 82 x) 36 79 true).run Tryz.prog w = .ok (.tuple #[.agg #[.int .i64 0], .bool false]) w := by kernel_rfl
theorem ta_text_text (x : Value) (w : World) : (Instr.typeAssert (.iface 82 x) 36 82 true).run Tryz.prog w = .ok (.tuple #[x, .bool true]) w := by kernel_rfl
theorem ta_list_bool (x : Value) (w : World) : (Instr.typeAssert (.iface 84 x) 36 77 true).run Tryz.prog w = .ok (.tuple #[.agg #[.int .i64 0], .bool false]) w := by kernel_rfl
theorem ta_list_int (x : Value) (w : World) : (Instr.typeAssert (.iface 84 x) 36 79 true).run Tryz.prog w = .ok (.tuple #[.agg #[.int .i64 0], .bool false]) w := by kernel_rfl
theorem ta_list_text (x : Value) (w : World) : (Instr.typeAssert (.iface 84 x) 36 82 true).run Tryz.prog w = .ok (.tuple #[.agg #[.string ByteArray.empty], .bool false]) w := by kernel_rfl
theorem ta_list_map (x : Value) (w : World) : (Instr.typeAssert (.iface 84 x) 36 87 true).run Tryz.prog w = .ok (.tuple #[.agg #[.slice none 0 0, .slice none 0 0], .bool false]) w := by kernel_rfl
theorem ta_map_bool (x : Value) (w : World) : (Instr.typeAssert (.iface 87 x) 36 77 true).run Tryz.prog w = .ok (.tuple #[.agg #[.int .i64 0], .bool false]) w := by kernel_rfl
theorem ta_map_int (x : Value) (w : World) : (Instr.typeAssert (.iface 87 x) 36 79 true).run Tryz.prog w = .ok (.tuple #[.agg #[.int .i64 0], .bool false]) w := by kernel_rfl
theorem ta_map_text (x : Value) (w : World) : (Instr.typeAssert (.iface 87 x) 36 82 true).run Tryz.prog w = .ok (.tuple #[.agg #[.string ByteArray.empty], .bool false]) w := by kernel_rfl
theorem ta_map_map (x : Value) (w : World) : (Instr.typeAssert (.iface 87 x) 36 87 true).run Tryz.prog w = .ok (.tuple #[x, .bool true]) w := by kernel_rfl
theorem Below.next {w w1 w2 : World} (h : Below w.heap.size w w1) (k : Below w1.heap.size w1 w2) : Below w.heap.size w w2 := h.trans (k.mono h.size)
end Go.Proofs.YtagcgnhpdmhegaaGreatDoor

/-
  spec.l1Add: the nodes of a value behind those that lie there, their kids shifted.
-/
namespace Go.Proofs.YtagcgnhpdmhegaaGreatDoor
open Go.RowKit
set_option linter.unusedSimpArgs false
set_option linter.unusedVariables false

theorem take_node {vs : List VN} {k : Nat} (h : k < vs.length) : vs.take (k + 1) = vs.take k ++ [nodeAt vs k] := by
  rw [List.take_add_one, List.getElem?_eq_getElem h]
  simp [nodeAt, h]

/-- The first k kids, shifted. -/
def addKs (l : List Int) (d : Int) (k : Nat) : List Int := (l.take k).map (· + d)
theorem addKs_zero (l : List Int) (d : Int) : addKs l d 0 = [] := by simp [addKs]
theorem addKs_len {l : List Int} {d : Int} {k : Nat} (h : k ≤ l.length) : (addKs l d k).length = k := by unfold addKs; rw [List.length_map, List.length_take]; omega
theorem addKs_succ {l : List Int} {d : Int} {k : Nat} (h : k < l.length) : addKs l d (k + 1) = addKs l d k ++ [intAt l k + d] := by
  unfold addKs
  rw [List.take_add_one, List.getElem?_eq_getElem h, List.map_append, intAt_get h]
  simp
theorem addKs_all (l : List Int) (d : Int) : addKs l d l.length = l.map (· + d) := by simp [addKs]

/-- Kids and keys that are few, and near. -/
def Near (x : VN) : Prop := x.keys.length ≤ 100000 ∧ x.kids.length ≤ 100000 ∧ ∀ j, j < x.kids.length → -1000000 ≤ intAt x.kids j ∧ intAt x.kids j ≤ 1000000

theorem news5_of (w : World) (b : Nat) (c0 c1 c2 c3 c4 : Value) (hb : w.heap.size = b) : ∀ j u, [c0, c1, c2, c3, c4][j]? = some u → (w.alloc (.cells #[c0, c1, c2, c3, c4] 55)).cell? ((⟨b, 0, none⟩ : Addr).add j) = some u := by
  subst hb; exact World.news_of_block (cs := #[c0, c1, c2, c3, c4]) (heap_alloc_new w _)

set_option maxRecDepth 100000 in
set_option maxHeartbeats 6400000 in
theorem l1Add_any (B base : Nat) (v u : Value) (ns vs : List VN) (KV IV : Nat → Value) (w : World) (h : Nest base w v ns KV IV) (hu : NodesAt B w u vs) (hB : B ≤ base) (hb : base ≤ w.heap.size) (hn : ns.length + vs.length ≤ 100000) (hnear : ∀ i, i < vs.length → Near (nodeAt vs i)) :
    Calls Tryz.prog 84 #[v, u] w fun e w' => ∃ v' KV' IV', e = .returned v' ∧ Laid base w w' v v' ns (vs.map (shiftN (ns.length : Int))) KV IV KV' IV' := by
  have H := hideIt h
  have HU := hideIt hu
  have HNR := hideIt hnear
  have HV0 := hideIt (fun y hy => (h.row.lt y hy).1)
  obtain ⟨av, cv, rfl⟩ := own_slice h.row
  obtain ⟨hlen, au, cu, rfl, hcu⟩ := hu
  have HCU := hideIt hcu
  clear h hnear hcu
  obtain ⟨i0, hi0, hz0, hs0, hy0⟩ := info_parts infoNode
  obtain ⟨i1, hi1, hz1, hs1, hy1⟩ := info_parts infoStr
  obtain ⟨i2, hi2, hz2, hs2, hy2⟩ := info_parts infoInt
  obtain ⟨D, hD⟩ : ∃ D, ns.length = D := ⟨_, rfl⟩
  have HD := hideIt hD
  rw [hD] at hn ⊢
  clear hD
  go_enter Tryz.func84, Tryz.ntmps84
  go_wp2_with fail
  go_loopw [0, 6] (fun o i wr => ∃ (c : Nat) (KV' IV' : Nat → Value), c ≤ vs.length ∧ i = .int .i64 c ∧ Laid base w wr (.slice av D cv) o ns ((vs.take c).map (shiftN (D : Int))) KV IV KV' IV') (fun _ i _ => vs.length - (intOf i).toNat)
  case atStart => exact ⟨0, KV, IV, Nat.zero_le _, rfl, by have := Laid.refl H.out; rw [HD.out] at this; simpa using this⟩
  case round =>
    obtain ⟨c, KV', IV', hc, rfl, hlaid⟩ := hrel
    have HLD := hideIt hlaid
    have hbl : Below B w wr := hlaid.below (by have := HV0.out; rw [HD.out] at this; exact this) hB hb
    have zs := hbl.size
    obtain ⟨ao, co, eo⟩ := own_slice hlaid.1.row
    obtain ⟨M, hM⟩ : ∃ M, (ns ++ (vs.take c).map (shiftN (D : Int))).length = M := ⟨_, rfl⟩
    have HMM := hideIt hM
    have HM1 : Hid (M = D + c) := by rw [Hid]; rw [← hM, List.length_append, HD.out, List.length_map, List.length_take]; omega
    rw [hM] at eo
    subst eo
    clear hlaid hM
    by_cases hlt : c < vs.length
    · have hM2 : M + 1 ≤ 100000 := by have := HM1.out; omega
      obtain ⟨b0, o0, rfl, hb0, hcell⟩ := HCU.out (by omega)
      obtain ⟨ka, ki, hn1⟩ := hcell c hlt
      have hn2 := hn1.below hbl hb0
      have c0 := hn2.c0
      have c1 := hn2.c1
      have c2 := hn2.c2
      have c3 := hn2.c3
      have c4 := hn2.c4
      obtain ⟨_, _, aK, cK, eK, hkk⟩ := hn2.inn.keys
      obtain ⟨_, hkb, aI, cI, eI, hki⟩ := hn2.inn.kids
      subst eK eI
      have HKK := hideIt hkk
      have HKI := hideIt hki
      have near := HNR.out c hlt
      have HNE := hideIt near.2.2
      have hk1 := near.1
      have hk2 := near.2.1
      clear hn1 hn2 hkk hki hcell near
      obtain ⟨nK, hnK⟩ : ∃ nK, (nodeAt vs c).keys.length = nK := ⟨_, rfl⟩
      obtain ⟨nI, hnI⟩ : ∃ nI, (nodeAt vs c).kids.length = nI := ⟨_, rfl⟩
      have HNK := hideIt hnK
      have HNI := hideIt hnI
      rw [hnK] at c3 hk1
      rw [hnI] at c4 hk2
      clear hnK hnI
      obtain ⟨W1, hW1⟩ : ∃ W1, wr.alloc (.cells #[.int .i64 (nodeAt vs c).kind, .int .i64 (nodeAt vs c).n, .string (nodeAt vs c).s, .slice aK nK cK, .slice aI nI cI] 55) = W1 := ⟨_, rfl⟩
      have hm0 := Mid.start (c0 := .int .i64 (nodeAt vs c).kind) (c1 := .int .i64 (nodeAt vs c).n) (c2 := .string (nodeAt vs c).s) (c3 := .slice aK nK cK) (c4 := .slice aI nI cI) HLD.out.1 (by omega) (Below.refl _ wr) (Below.refl _ _)
      rw [hW1] at hm0
      have HM0 := hideIt hm0
      have z1 : W1.heap.size = wr.heap.size + 1 := by rw [← hW1]; simp
      have HBW : Hid (Below wr.heap.size wr W1) := by rw [Hid, ← hW1]; exact (Below.refl _ _).alloc (Nat.le_refl _) _
      have HSRC : Hid (0 < nK → ∃ ad, aK = some ad ∧ ∀ j u, ((nodeAt vs c).keys.map Value.string)[j]? = some u → (W1.alloc (.cells #[] 9)).cell? (ad.add j) = some u) := by
        intro hp
        obtain ⟨bk, ok, rfl, hbk, hck⟩ := HKK.out (by rw [HNK.out]; exact hp)
        refine ⟨_, rfl, fun j u hj => ?_⟩
        have hj' : j < (nodeAt vs c).keys.length := by have := (List.getElem?_eq_some_iff.1 hj).1; simpa using this
        rw [show (⟨bk, ok, none⟩ : Addr).add j = ⟨bk, ok + j, none⟩ by simp [Addr.add], below_cell ((Below.refl _ W1).alloc (Nat.le_refl _) _) (by omega), below_cell HBW.out (by omega), hck j hj']
        simp [hj', keyAt] at hj ⊢
        exact hj
      have HOWN : Hid ((W1.alloc (.cells #[] 9)).ownsRow wr.heap.size 9 1 (.slice (some ⟨wr.heap.size + 1, 0, none⟩) 0 0) 0 []) := by
        have := World.ownsRow_lit (base := wr.heap.size) (e := 9) (size := 1) W1 #[] 0 (by omega) (by simp [maxLen]) rfl
        rw [z1] at this
        exact this
      have y3 : W1.cell? ⟨wr.heap.size, 3, none⟩ = some (.slice aK nK cK) := HM0.out.node.cellAt 3 (by omega)
      go_wp2_with (at_builtin; refine wpList_append_src rfl _ _ 52 rfl wr.heap.size 9 i1 (.string ByteArray.empty) 1 16 Tryz.underlying52 hi1 hz1 hs1 hy1 rfl (by decide) _ 0 [] rfl HOWN.out aK nK cK ((nodeAt vs c).keys.map .string) rfl (by simp [HNK.out]) HSRC.out ?c2 ?c3 ?c4 ?c5 ?_)
      case c2 => intro u hu; first | rfl | (obtain ⟨q, _, rfl⟩ := List.mem_map.1 hu; rfl)
      case c3 => unfold maxLen; omega
      case c4 => omega
      case c5 => first | omega | (simp; omega)
      intro vk w5 hk2 hg2 hat2
      (try simp only [Nat.zero_add, List.nil_append] at hk2)
      have hgg : W1.grownBy w5 none := (World.grownBy_alloc W1 _ none).andThen hg2 (fun j hj => Or.inl (by simp [Value.ownBlock] at hj; omega))
      have hm5 := HM0.out.grow hgg
      have HFK : Hid (∀ j, j < (ns ++ (vs.take c).map (shiftN (D : Int))).length + ([] : List VN).length → ∀ y, vk.ownBlock = some y → (KV' j).ownBlock ≠ some y) := by
        intro j hj y hy e
        have h1 := ((HLD.out.1.rk j (by simpa using hj)).lt y e).2
        have h2 := (hk2.lt y hy).1
        omega
      have hkr := hk2.kept (hm5.node.stored 3 vk).2 (own_apart hk2 hm5.node (by decide))
      obtain ⟨ak, ck, hvk⟩ := own_slice hk2
      subst hvk
      have hm7 := (hm5.put 3 (.slice ak nK ck)).kid0
      have hkr7 := hkr.alloc (.cells #[] 2)
      have x3 : w5.cell? ⟨wr.heap.size, 3, none⟩ = some (.slice aK nK cK) := hm5.node.cellAt 3 (by omega)
      have f3 : w5.frozen? ⟨wr.heap.size, 3, none⟩ = false := hm5.node.frozenAt 3
      have e5 : (w5.setCell ⟨wr.heap.size, 3, none⟩ (.slice ak nK ck)).heap.size = w5.heap.size := by simp
      rw [e5] at hm7
      have HM7 := hideIt hm7
      have HKR7 := hideIt hkr7
      clear hm7 hkr7 hkr hm5 hgg hk2 hg2 hat2 y3 e5 c0 c1 c2 c3 c4
      go_wp2_with fail
      generalize ((w5.setCell ⟨wr.heap.size, 3, none⟩ (.slice ak nK ck)).alloc (.cells #[] 2)) = W7 at *
      clear x3 f3 HSRC HOWN HM0 HBW z1 hW1 hm0
      obtain ⟨W0, rfl⟩ : ∃ W0, W0 = wr := ⟨_, rfl⟩
      go_loopw [8, 9] (fun it i wr => ∃ k : Nat, k ≤ nI ∧ i = .int .i64 k ∧ Mid base W0 wr W0.heap.size (.slice ao M co) (.slice ao M co) it (ns ++ (vs.take c).map (shiftN (D : Int))) [] (addKs (nodeAt vs c).kids (D : Int) k) [.int .i64 (nodeAt vs c).kind, .int .i64 (nodeAt vs c).n, .string (nodeAt vs c).s, .slice ak nK ck, .slice aI nI cI] KV' IV' KV' IV' ∧ wr.ownsRow W0.heap.size 9 1 (.slice ak nK ck) nK ((nodeAt vs c).keys.map .string)) (fun _ i _ => nI - (intOf i).toNat)
      case atStart => exact ⟨0, Nat.zero_le _, rfl, by rw [addKs_zero]; exact HM7.out, HKR7.out⟩
      case round =>
        obtain ⟨k, hk, rfl, hm, hkr⟩ := hrel
        have HM := hideIt hm
        have HKR := hideIt hkr
        have hfs := hm.frame.size
        have hlen2 : (addKs (nodeAt vs c).kids (D : Int) k).length = k := addKs_len (by rw [HNI.out]; exact hk)
        obtain ⟨ai, ci, ei⟩ := own_slice hm.kids
        rw [hlen2] at ei
        subst ei
        have HLK := hideIt hlen2
        have y4 : wr.cell? ⟨W0.heap.size, 4, none⟩ = some (.slice aI nI cI) := HM.out.node.cellAt 4 (by omega)
        clear hm hkr hlen2
        by_cases hkk : k < nI
        · obtain ⟨bk, ok, rfl, hbk, hck⟩ := HKI.out (by rw [HNI.out]; omega)
          obtain ⟨Q, hQ⟩ : ∃ Q, intAt (nodeAt vs c).kids k = Q := ⟨_, rfl⟩
          have hcq : wr.cell? ⟨bk, ok + k, none⟩ = some (.int .i64 Q) := by rw [← hQ]; exact (below_cell (HM.out.keepL hB) hbk).trans (hck k (by rw [HNI.out]; exact hkk))
          have hQb := HNE.out k (by rw [HNI.out]; exact hkk)
          rw [hQ] at hQb
          obtain ⟨hQ1, hQ2⟩ := hQb
          have HTK : Hid (addKs (nodeAt vs c).kids (D : Int) (k + 1) = addKs (nodeAt vs c).kids (D : Int) k ++ [Q + (D : Int)]) := by rw [Hid, addKs_succ (by rw [HNI.out]; exact hkk), hQ]
          have HKD := hideIt HM.out.kids
          clear hQ hck
          go_wp2_with (at_builtin; refine wpList_append_own_at _ rfl _ _ 53 rfl W0.heap.size 2 i2 (.int .i64 0) 1 8 Tryz.underlying53 hi2 hz2 hs2 hy2 rfl (by decide) _ _ _ rfl (HKD.out.alloc _) ⟨wr.heap.size, 0, none⟩ 1 1 [.int .i64 (Q + (D : Int))] rfl rfl ?c1 ?c2 ?c3 ?c4 ?c5 ?_)
          case c1 => exact cell_one_new _ _ _
          case c2 => first | rfl | (intro u hu; simp at hu; subst hu; rfl)
          case c3 => first | omega | (rw [HLK.out]; unfold maxLen; omega)
          case c4 => first | omega | (rw [HLK.out]; omega)
          case c5 => first | omega | (simp; omega)
          intro kv' w9 hown hgrow _ hat
          have HM9 := hideIt (HM.out.kid1 hown hgrow (by simpa using hat))
          have HKR9 := hideIt (HKR.out.kept ((World.grownBy_alloc wr _ _).trans hgrow) (own_apart HKR.out HKD.out (by decide)))
          clear hown hgrow hat
          go_wp2_with fail
          go_roundw
          case rel => exact ⟨k + 1, by omega, by go_num, by rw [HTK.out]; exact HM9.out, HKR9.out⟩
          case measure => simp [intOf]; omega
        · obtain rfl : k = nI := by omega
          have HMP := hideIt (HM.out.put 4 (.slice ai k ci))
          have f4 : wr.frozen? ⟨W0.heap.size, 4, none⟩ = false := HM.out.node.frozenAt 4
          have HKRP := hideIt (HKR.out.kept (HM.out.node.stored 4 (.slice ai k ci)).2 (own_apart HKR.out HM.out.node (by decide)))
          have X0 : (wr.setCell ⟨W0.heap.size, 4, none⟩ (.slice ai k ci)).cell? ⟨W0.heap.size, 0, none⟩ = some (.int .i64 (nodeAt vs c).kind) := HMP.out.node.cellAt 0 (by omega)
          have X1 : (wr.setCell ⟨W0.heap.size, 4, none⟩ (.slice ai k ci)).cell? ⟨W0.heap.size, 1, none⟩ = some (.int .i64 (nodeAt vs c).n) := HMP.out.node.cellAt 1 (by omega)
          have X2 : (wr.setCell ⟨W0.heap.size, 4, none⟩ (.slice ai k ci)).cell? ⟨W0.heap.size, 2, none⟩ = some (.string (nodeAt vs c).s) := HMP.out.node.cellAt 2 (by omega)
          have X3 : (wr.setCell ⟨W0.heap.size, 4, none⟩ (.slice ai k ci)).cell? ⟨W0.heap.size, 3, none⟩ = some (.slice ak nK ck) := HMP.out.node.cellAt 3 (by omega)
          have X4 : (wr.setCell ⟨W0.heap.size, 4, none⟩ (.slice ai k ci)).cell? ⟨W0.heap.size, 4, none⟩ = some (.slice ai k ci) := HMP.out.node.cellAt 4 (by omega)
          have HN := hideIt (HMP.out.nest.row.alloc (.cells #[.int .i64 (nodeAt vs c).kind, .int .i64 (nodeAt vs c).n, .string (nodeAt vs c).s, .slice ak nK ck, .slice ai k ci] 55))
          rw [List.append_nil, HMM.out] at HN
          go_wp2_with (at_builtin; refine wpList_append_own_at _ rfl _ _ 24 rfl base 55 i0 zeroNode 5 80 Tryz.underlying24 hi0 hz0 hs0 hy0 rfl (by decide) _ _ _ rfl HN.out ⟨wr.heap.size, 0, none⟩ 1 1 [.int .i64 (nodeAt vs c).kind, .int .i64 (nodeAt vs c).n, .string (nodeAt vs c).s, .slice ak nK ck, .slice ai k ci] rfl rfl ?c1 ?c2 ?c3 ?c4 ?c5 ?_)
          case c1 => exact news5_of _ _ _ _ _ _ _ (by simp)
          case c2 => intro u hu; simp at hu; rcases hu with rfl | rfl | rfl | rfl | rfl <;> rfl
          case c3 => unfold maxLen; omega
          case c4 => omega
          case c5 => simp; omega
          intro v' w6 hown hgrow _ hat
          have hfin := Mid.fin (x := shiftN (D : Int) (nodeAt vs c)) HMP.out (by show (nodeAt vs c).kids.map (· + (D : Int)) = _; rw [← HNI.out, addKs_all]) (by show World.ownsRow _ _ _ _ _ (nodeAt vs c).keys.length _; rw [HNK.out]; exact HKRP.out) HFK.out (by rw [List.append_nil, HMM.out, List.map_take]; exact hown) hgrow (by simpa using hat)
          have HL := hideIt (HLD.out.trans hfin)
          have HTN : Hid ((vs.take (c + 1)).map (shiftN (D : Int)) = (vs.take c).map (shiftN (D : Int)) ++ [shiftN (D : Int) (nodeAt vs c)]) := by rw [Hid, take_node hlt, List.map_append]; rfl
          clear hown hgrow hat hfin
          go_wp2_with fail
          go_roundw
          case rel => exact ⟨c + 1, _, _, by omega, by go_num, by rw [HTN.out]; exact HL.out⟩
          case measure => simp [intOf]; omega
    · obtain rfl : c = vs.length := by omega
      go_wp2_with fail
      go_ret
      exact ⟨_, _, _, rfl, by have := HLD.out; rwa [List.take_length] at this⟩
end Go.Proofs.YtagcgnhpdmhegaaGreatDoor
