/-
  Laying nodes one behind the other in memory: what withNodes leaves, and what holds while it is under way. No walk.
-/
import Derived.Test.YtgmnihofkpjboaaGreatDoorSPart
import Derived.Maps.Range
namespace Go.Proofs.YtgmnihofkpjboaaGreatDoor
open Go.RowKit
set_option linter.unusedSimpArgs false
set_option linter.unusedVariables false

/-- What laying the nodes 'add' behind those that lie there leaves. -/
def Laid (base : Nat) (w w' : World) (v v' : Value) (ns add : List VN) (KV IV KV' IV' : Nat → Value) : Prop :=
  Nest base w' v' (ns ++ add) KV' IV' ∧ w.grownBy w' v.ownBlock ∧ (v'.ownBlock = v.ownBlock ∨ ∃ g, v'.ownBlock = some g ∧ w.heap.size ≤ g) ∧ (∀ j, j < ns.length → KV' j = KV j ∧ IV' j = IV j) ∧
    (∀ j, ns.length ≤ j → j < ns.length + add.length → (∀ y, (KV' j).ownBlock = some y → w.heap.size ≤ y) ∧ (∀ y, (IV' j).ownBlock = some y → w.heap.size ≤ y))

/-- While it is under way: the node that is being made lies in block nb, with the cells cs; its kids' row is kv. -/
structure Mid (base : Nat) (w wr : World) (nb : Nat) (v0 v kv : Value) (ns acc : List VN) (ks : List Int) (cs : List Value) (KV0 IV0 KV IV : Nat → Value) : Prop where
  hbase : base ≤ w.heap.size
  v0b : ∀ y, v0.ownBlock = some y → base ≤ y
  nest : Nest base wr v (ns ++ acc) KV IV
  node : wr.ownsRow w.heap.size 37 5 (.slice (some ⟨nb, 0, none⟩) 1 1) 1 cs
  kids : wr.ownsRow w.heap.size 2 1 kv ks.length (ks.map (.int .i64))
  vnb : v.ownBlock ≠ some nb
  frame : w.grownBy wr v0.ownBlock
  vat : v.ownBlock = v0.ownBlock ∨ ∃ g, v.ownBlock = some g ∧ w.heap.size ≤ g
  old : ∀ j, j < ns.length → KV j = KV0 j ∧ IV j = IV0 j
  new : ∀ j, ns.length ≤ j → j < ns.length + acc.length → (∀ y, (KV j).ownBlock = some y → w.heap.size ≤ y) ∧ (∀ y, (IV j).ownBlock = some y → w.heap.size ≤ y)
  ki : ∀ j, j < ns.length + acc.length → ∀ y, kv.ownBlock = some y → (IV j).ownBlock ≠ some y

theorem grownBy_of_below {w w' : World} {row : Option Nat} (h : Below w.heap.size w w') : w.grownBy w' row := ⟨h.os, h.tape, h.output, h.size, fun k hk _ => h.block k hk⟩

theorem Mid.start {base : Nat} {w w1 w2 : World} {v : Value} {ns : List VN} {KV IV : Nat → Value} {c0 c1 c2 c3 c4 : Value} (h : Nest base w v ns KV IV) (hb : base ≤ w.heap.size) (h1 : Below w.heap.size w w1)
    (h2 : Below (w1.alloc (.cells #[c0, c1, c2, c3, c4] 37)).heap.size (w1.alloc (.cells #[c0, c1, c2, c3, c4] 37)) w2) :
    Mid base w w2 w1.heap.size v v (.slice none 0 0) ns [] [] [c0, c1, c2, c3, c4] KV IV KV IV := by
  have hb2 : Below w.heap.size w w2 := (h1.alloc h1.size _).trans (h2.mono (by have := h1.size; simp; omega))
  have hn := World.ownsRow_lit (base := w.heap.size) (e := 37) (size := 5) w1 #[c0, c1, c2, c3, c4] 1 h1.size (by simp [maxLen]) rfl
  refine ⟨hb, fun y hy => (h.row.lt y hy).1, by simpa using h.below hb2, own_below hn h2 (fun x hx => ?_), World.ownsRow_nil _ _ _ _, fun e => ?_, grownBy_of_below hb2, Or.inl rfl, fun j _ => ⟨rfl, rfl⟩, fun j h1 h2 => ?_, fun j hj y hy => ?_⟩
  · simp [Value.ownBlock] at hx; subst hx; simp
  · have := (h.row.lt _ e).2
    have := h1.size
    omega
  · simp at h2; omega
  · simp [Value.ownBlock] at hy

theorem Mid.laid {base : Nat} {w wr w' : World} {nb : Nat} {v0 v v' kv : Value} {ns acc add : List VN} {ks : List Int} {cs : List Value} {KV0 IV0 KV IV KV' IV' : Nat → Value} (h : Mid base w wr nb v0 v kv ns acc ks cs KV0 IV0 KV IV)
    (l : Laid base wr w' v v' (ns ++ acc) add KV IV KV' IV') : Mid base w w' nb v0 v' kv ns (acc ++ add) ks cs KV0 IV0 KV' IV' := by
  obtain ⟨l1, l2, l3, l4, l5⟩ := l
  have hnb := (h.node.lt nb rfl).2
  have hsz := h.frame.size
  refine ⟨h.hbase, h.v0b, by rw [← List.append_assoc]; exact l1, h.node.kept l2 (Or.inr fun e => h.vnb e.symm), h.kids.kept l2 (own_apart h.kids h.nest.row (by decide)), ?_, h.frame.andThen l2 (fun j hj => ?_), ?_, fun j hj => ?_, fun j hj1 hj2 => ?_, fun j hj y hy => ?_⟩
  · rcases l3 with e | ⟨g, e, hg⟩
    · rw [e]; exact h.vnb
    · rw [e]; intro e2; simp at e2; omega
  · rcases h.vat with e | ⟨g, e, hg⟩
    · exact Or.inr (e ▸ hj)
    · rw [e] at hj; simp at hj; exact Or.inl (by omega)
  · rcases l3 with e | ⟨g, e, hg⟩
    · rw [e]; exact h.vat
    · exact Or.inr ⟨g, e, by omega⟩
  · have e := l4 j (by simp; omega)
    have o := h.old j hj
    exact ⟨e.1.trans o.1, e.2.trans o.2⟩
  · by_cases hlt : j < ns.length + acc.length
    · have e := l4 j (by simp; omega)
      rw [e.1, e.2]
      exact h.new j hj1 hlt
    · have e := l5 j (by simp; omega) (by simp at hj2 ⊢; omega)
      exact ⟨fun y hy => Nat.le_trans hsz (e.1 y hy), fun y hy => Nat.le_trans hsz (e.2 y hy)⟩
  · by_cases hlt : j < ns.length + acc.length
    · rw [(l4 j (by simp; omega)).2]
      exact h.ki j hlt y hy
    · intro e
      have := (l5 j (by simp; omega) (by simp at hj ⊢; omega)).2 y e
      have := (h.kids.lt y hy).2
      omega

theorem Mid.put {base : Nat} {w wr : World} {nb : Nat} {v0 v kv : Value} {ns acc : List VN} {ks : List Int} {cs : List Value} {KV0 IV0 KV IV : Nat → Value} (h : Mid base w wr nb v0 v kv ns acc ks cs KV0 IV0 KV IV) (j : Nat) (u : Value) :
    Mid base w (wr.setCell ⟨nb, j, none⟩ u) nb v0 v kv ns acc ks (cs.set j u) KV0 IV0 KV IV := by
  have st := h.node.stored j u
  exact ⟨h.hbase, h.v0b, h.nest.kept st.2 (Or.inr h.vnb) (fun i hi => own_apart (h.nest.rk i hi) h.node (by decide)) (fun i hi => own_apart (h.nest.ri i hi) h.node (by decide)), st.1, h.kids.kept st.2 (own_apart h.kids h.node (by decide)), h.vnb,
    h.frame.andThen st.2 (fun j hj => Or.inl (by cases hj; exact (h.node.lt nb rfl).1)), h.vat, h.old, h.new, h.ki⟩

/-- A new row of kids. -/
theorem Mid.kid1 {base : Nat} {w wr w5 : World} {nb : Nat} {v0 v kv kv' : Value} {ns acc : List VN} {ks : List Int} {cs : List Value} {KV0 IV0 KV IV : Nat → Value} {o : Obj} {q : Int} (h : Mid base w wr nb v0 v kv ns acc ks cs KV0 IV0 KV IV)
    (hown : w5.ownsRow w.heap.size 2 1 kv' (ks.length + 1) (ks.map (.int .i64) ++ [.int .i64 q])) (hg : (wr.alloc o).grownBy w5 kv.ownBlock) (hat : kv'.ownBlock = kv.ownBlock ∨ kv'.ownBlock = some (wr.heap.size + 1)) :
    Mid base w w5 nb v0 v kv' ns acc (ks ++ [q]) cs KV0 IV0 KV IV := by
  have hg1 : wr.grownBy w5 kv.ownBlock := (World.grownBy_alloc wr o _).trans hg
  have hkk : ∀ i, i < (ns ++ acc).length → (IV i).ownBlock = none ∨ (IV i).ownBlock ≠ kv.ownBlock := by
    intro i hi
    cases e : kv.ownBlock with
    | none => cases e2 : (IV i).ownBlock with
      | none => exact Or.inl rfl
      | some y => exact Or.inr (by simp)
    | some y => exact Or.inr (h.ki i (by simpa using hi) y e)
  refine ⟨h.hbase, h.v0b, h.nest.kept hg1 (own_apart h.nest.row h.kids (by decide)) (fun i hi => own_apart (h.nest.rk i hi) h.kids (by decide)) hkk, h.node.kept hg1 (own_apart h.node h.kids (by decide)), by simpa using hown, h.vnb, h.frame.andThen hg1 (fun j hj => Or.inl (h.kids.lt j hj).1), h.vat, h.old, h.new, fun j hj y hy => ?_⟩
  rcases hat with e | e
  · exact h.ki j hj y (e ▸ hy)
  · rw [e] at hy
    simp at hy
    intro e2
    have := ((h.nest.ri j (by simpa using hj)).lt y e2).2
    omega

theorem Mid.kid {base : Nat} {w wr w5 : World} {nb : Nat} {v0 v kv kv' : Value} {ns acc : List VN} {ks : List Int} {cs : List Value} {KV0 IV0 KV IV : Nat → Value} {o : Obj} {q : Int} (h : Mid base w wr nb v0 v kv ns acc ks cs KV0 IV0 KV IV)
    (hown : w5.ownsRow w.heap.size 2 1 kv' (ks.length + 1) (ks.map (.int .i64) ++ [.int .i64 q])) (hg : (wr.alloc o).grownBy w5 kv.ownBlock) (hat : kv'.ownBlock = kv.ownBlock ∨ kv'.ownBlock = some (wr.heap.size + 1)) :
    Mid base w (w5.setCell ⟨nb, 4, none⟩ kv') nb v0 v kv' ns acc (ks ++ [q]) (cs.set 4 kv') KV0 IV0 KV IV := (h.kid1 hown hg hat).put 4 kv'

/-- An empty row of kids, made now. -/
theorem Mid.kid0 {base : Nat} {w wr : World} {nb : Nat} {v0 v kv : Value} {ns acc : List VN} {ks : List Int} {cs : List Value} {KV0 IV0 KV IV : Nat → Value} (h : Mid base w wr nb v0 v kv ns acc ks cs KV0 IV0 KV IV) :
    Mid base w (wr.alloc (.cells #[] 2)) nb v0 v (.slice (some ⟨wr.heap.size, 0, none⟩) 0 0) ns acc [] cs KV0 IV0 KV IV := by
  have hg := World.grownBy_alloc wr (.cells #[] 2) none
  have nn : ∀ x : Option Nat, x = none ∨ x ≠ none := fun x => by cases x <;> simp
  have hs := h.frame.size
  refine ⟨h.hbase, h.v0b, h.nest.kept hg (nn _) (fun _ _ => nn _) (fun _ _ => nn _), h.node.kept hg (nn _), World.ownsRow_lit wr #[] 0 hs (by simp [maxLen]) rfl, h.vnb, h.frame.andThen hg (fun j hj => by cases hj), h.vat, h.old, h.new, fun j hj y hy e => ?_⟩
  have := ((h.nest.ri j (by simpa using hj)).lt y e).2
  simp [Value.ownBlock] at hy
  omega

/-- New blocks. -/
theorem Mid.grow {base : Nat} {w wr w5 : World} {nb : Nat} {v0 v kv : Value} {ns acc : List VN} {ks : List Int} {cs : List Value} {KV0 IV0 KV IV : Nat → Value} (h : Mid base w wr nb v0 v kv ns acc ks cs KV0 IV0 KV IV) (hg : wr.grownBy w5 none) :
    Mid base w w5 nb v0 v kv ns acc ks cs KV0 IV0 KV IV := by
  have nn : ∀ x : Option Nat, x = none ∨ x ≠ none := fun x => by cases x <;> simp
  exact ⟨h.hbase, h.v0b, h.nest.kept hg (nn _) (fun _ _ => nn _) (fun _ _ => nn _), h.node.kept hg (nn _), h.kids.kept hg (nn _), h.vnb, h.frame.andThen hg (fun j hj => by cases hj), h.vat, h.old, h.new, h.ki⟩

/-- The node stands at its place. -/
theorem Mid.fin {base : Nat} {w wr w6 : World} {nb : Nat} {v0 v v' kv c3 : Value} {ns acc : List VN} {ks : List Int} {cs : List Value} {KV0 IV0 KV IV : Nat → Value} {o : Obj} {x : VN} (h : Mid base w wr nb v0 v kv ns acc ks cs KV0 IV0 KV IV) (hx : x.kids = ks)
    (hk : wr.ownsRow w.heap.size 9 1 c3 x.keys.length (x.keys.map .string)) (fk : ∀ j, j < ns.length + acc.length → ∀ y, c3.ownBlock = some y → (KV j).ownBlock ≠ some y)
    (hown : w6.ownsRow base 37 5 v' ((ns ++ acc).length + 1) (nestCells (ns ++ acc) KV IV ++ [.int .i64 x.kind, .int .i64 x.n, .string x.s, c3, kv])) (hg : (wr.alloc o).grownBy w6 v.ownBlock) (hat : v'.ownBlock = v.ownBlock ∨ v'.ownBlock = some (wr.heap.size + 1)) :
    Laid base w w6 v0 v' ns (acc ++ [x]) KV0 IV0 (upd KV (ns ++ acc).length c3) (upd IV (ns ++ acc).length kv) := by
  subst hx
  have hg1 : wr.grownBy w6 v.ownBlock := (World.grownBy_alloc wr o _).trans hg
  have hsz := h.frame.size
  have hn := Nest.snoc (x := x) h.nest (own_mono hk h.hbase) (own_mono h.kids h.hbase) (fun i hi => fk i (by simpa using hi)) (fun i hi => h.ki i (by simpa using hi)) hown hg1
  refine ⟨by rw [← List.append_assoc]; exact hn, h.frame.andThen hg1 (fun j hj => ?_), ?_, fun j hj => ?_, fun j hj1 hj2 => ?_⟩
  · rcases h.vat with e | ⟨g, e, hg⟩
    · exact Or.inr (e ▸ hj)
    · rw [e] at hj; simp at hj; exact Or.inl (by omega)
  · rcases hat with e | e
    · rw [e]; exact h.vat
    · exact Or.inr ⟨_, e, by omega⟩
  · rw [upd_other _ _ (by simp; omega), upd_other _ _ (by simp; omega)]
    exact h.old j hj
  · by_cases hlt : j < ns.length + acc.length
    · rw [upd_other _ _ (by simp; omega), upd_other _ _ (by simp; omega)]
      exact h.new j hj1 hlt
    · obtain rfl : j = (ns ++ acc).length := by simp at hj2 ⊢; omega
      rw [upd_same, upd_same]
      exact ⟨fun y hy => (hk.lt y hy).1, fun y hy => (h.kids.lt y hy).1⟩

theorem Mid.keepL {base : Nat} {w wr : World} {nb : Nat} {v0 v kv : Value} {ns acc : List VN} {ks : List Int} {cs : List Value} {KV0 IV0 KV IV : Nat → Value} {B : Nat} (h : Mid base w wr nb v0 v kv ns acc ks cs KV0 IV0 KV IV) (hB : B ≤ base) : Below B w wr :=
  (Below.refl _ _).grown h.frame (by have := h.hbase; omega) (fun k hk => by have := h.v0b k hk; omega)

theorem Laid.refl {base : Nat} {w : World} {v : Value} {ns : List VN} {KV IV : Nat → Value} (h : Nest base w v ns KV IV) : Laid base w w v v ns [] KV IV KV IV :=
  ⟨by simpa using h, ⟨rfl, rfl, rfl, Nat.le_refl _, fun _ _ _ => rfl⟩, Or.inl rfl, fun _ _ => ⟨rfl, rfl⟩, fun j h1 h2 => by simp at h2; omega⟩

theorem Laid.trans {base : Nat} {w w1 w2 : World} {v v1 v2 : Value} {ns add add' : List VN} {KV IV KV1 IV1 KV2 IV2 : Nat → Value} (h : Laid base w w1 v v1 ns add KV IV KV1 IV1) (k : Laid base w1 w2 v1 v2 (ns ++ add) add' KV1 IV1 KV2 IV2) : Laid base w w2 v v2 ns (add ++ add') KV IV KV2 IV2 := by
  obtain ⟨h1, h2, h3, h4, h5⟩ := h
  obtain ⟨k1, k2, k3, k4, k5⟩ := k
  have hs := h2.size
  refine ⟨by rw [← List.append_assoc]; exact k1, h2.andThen k2 (fun j hj => ?_), ?_, fun j hj => ?_, fun j hj1 hj2 => ?_⟩
  · rcases h3 with e | ⟨g, e, hg⟩
    · exact Or.inr (e ▸ hj)
    · rw [e] at hj; simp at hj; exact Or.inl (by omega)
  · rcases k3 with e | ⟨g, e, hg⟩
    · rw [e]; exact h3
    · exact Or.inr ⟨g, e, by omega⟩
  · have e := k4 j (by simp; omega)
    have o := h4 j hj
    exact ⟨e.1.trans o.1, e.2.trans o.2⟩
  · by_cases hlt : j < ns.length + add.length
    · have e := k4 j (by simp; omega)
      rw [e.1, e.2]
      exact h5 j hj1 hlt
    · have e := k5 j (by simp; omega) (by simp at hj2 ⊢; omega)
      exact ⟨fun y hy => Nat.le_trans hs (e.1 y hy), fun y hy => Nat.le_trans hs (e.2 y hy)⟩

theorem Laid.below {base B : Nat} {w w1 : World} {v v1 : Value} {ns add : List VN} {KV IV KV1 IV1 : Nat → Value} (h : Laid base w w1 v v1 ns add KV IV KV1 IV1) (hv : ∀ y, v.ownBlock = some y → base ≤ y) (hB : B ≤ base) (hb : base ≤ w.heap.size) : Below B w w1 :=
  (Below.refl _ _).grown h.2.1 (by omega) (fun k hk => by have := hv k hk; omega)
end Go.Proofs.YtgmnihofkpjboaaGreatDoor
