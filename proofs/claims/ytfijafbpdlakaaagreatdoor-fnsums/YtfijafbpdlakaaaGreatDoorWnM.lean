/-
  The program's check of a whole value: it answers as the specification's.
-/
import Derived.Test.YtfijafbpdlakaaaGreatDoorNs
import Derived.Test.YtfijafbpdlakaaaGreatDoorImp2
import Derived.Test.YtfijafbpdlakaaaGreatDoorVAt
import Derived.Test.YtfijafbpdlakaaaGreatDoorSPart
import Derived.Maps.Range
namespace Go.Proofs.YtfijafbpdlakaaaGreatDoor
open Go.RowKit
set_option linter.unusedSimpArgs false
set_option linter.unusedVariables false

theorem infoSl : (Tryz.prog.info? 32).map (fun i => (i.zero, i.size, i.bytes)) = some (some (.slice none 0 0), 1, 24) := by kernel_rfl

def fillV (KV : Nat → Value) (k j : Nat) : Value := if j < k then KV j else .slice none 0 0
theorem fillV_step {w : World} {b t n k : Nat} {KV : Nat → Value} {v : Value} (h : w.rowIs b t n (fillV KV k)) : (w.setCell ⟨b, k, none⟩ v).rowIs b t n (fillV (fun j => if j = k then v else KV j) (k + 1)) := by
  refine (h.set k _).congr fun i _ => ?_
  unfold fillV
  by_cases e : i = k
  · subst e; rw [if_pos rfl, if_pos (by omega)]; simp
  · rw [if_neg e]; by_cases g : i < k
    · rw [if_pos g, if_pos (by omega)]; simp [e]
    · rw [if_neg g, if_neg (by omega)]

theorem tabB_size {vs : List VN} (h : vs.length < 1 ∨ 80 < vs.length) : tabB vs = false := by
  have : sizeB vs = false := by simp [sizeB]; omega
  simp [tabB, this]

theorem tabB_node {vs : List VN} {k : Nat} (hk : k < vs.length) (h : nodeB (nodeAt vs k) = false) : tabB vs = false := by
  unfold tabB
  rw [show ((List.range vs.length).all fun i => nodeB (nodeAt vs i)) = false from ?_, Bool.and_false, Bool.false_and]
  rw [List.all_eq_false]
  exact ⟨k, List.mem_range.2 hk, by simp [h]⟩

theorem tabB_all {vs : List VN} (h1 : 1 ≤ vs.length) (h2 : vs.length ≤ 80) (h : ∀ k, k < vs.length → nodeB (nodeAt vs k) = true) : tabB vs = standB (kidsOf vs) vs.length 8 := by
  unfold tabB
  rw [show ((List.range vs.length).all fun i => nodeB (nodeAt vs i)) = true from ?_]
  · rw [show sizeB vs = true by simp [sizeB, h1, h2], Bool.true_and, Bool.true_and, standB]
    have hr : rootB vs = rootK (kidsOf vs) vs.length 8 := by
      unfold rootB rootK
      cases tr (kidsOf vs) (vs.length - 1) with
      | none => rfl
      | some p =>
        have : ((p.2 : Int) ≤ 8) ↔ p.2 ≤ 8 := by omega
        simp only [this]
    rw [hr]
  · rw [List.all_eq_true]
    exact fun k hk => h k (List.mem_range.1 hk)

set_option maxRecDepth 100000 in
set_option maxHeartbeats 3200000 in
theorem implOk_any (B : Nat) (v : Value) (vs : List VN) (w : World) (h : NodesAt B w v vs) (hB : B ≤ w.heap.size) :
    Calls Tryz.prog 63 #[v] w fun e w' => e = .returned (.bool (okB vs)) ∧ Below w.heap.size w w' := by
  have HE : Hid (tabB vs = okB vs) := okB_eq vs
  obtain ⟨hlen, a, cap, rfl, hcell⟩ := h
  by_cases h1 : vs.length < 1
  · have HO : Hid (okB vs = false) := okB_size (Or.inl h1)
    have h1' : (vs.length : Int) < 1 := by omega
    go_enter Tryz.func63, Tryz.ntmps63
    go_wp2_with fail
    go_ret
    exact ⟨ret_bool HO.out.symm, Below.refl _ _⟩
  by_cases h2 : 80 < vs.length
  · have HO : Hid (okB vs = false) := okB_size (Or.inr h2)
    have h1' : ¬ (vs.length : Int) < 1 := by omega
    have h2' : (80 : Int) < (vs.length : Int) := by omega
    go_enter Tryz.func63, Tryz.ntmps63
    go_wp2_with fail
    go_ret
    exact ⟨ret_bool HO.out.symm, Below.refl _ _⟩
  have h1' : ¬ (vs.length : Int) < 1 := by omega
  have h2' : ¬ (80 : Int) < (vs.length : Int) := by omega
  obtain ⟨b0, o0, rfl, hb0, hc⟩ := hcell (by omega)
  clear hcell
  have hmk := run_make_row' (P := Tryz.prog) 129 32 (.slice none 0 0) 24 Tryz.underlying129 infoSl rfl .i64 .i64 vs.length (by omega) (by omega)
  go_enter Tryz.func63, Tryz.ntmps63
  go_wp2_with fail
  clear hmk
  have hr0 : (w.alloc (.cells (madeCells #[Value.slice none 0 0] vs.length) 32)).rowIs w.heap.size 32 vs.length (fillV (fun _ => undef) 0) := (World.rowIs_made w _ _ _).congr fun i _ => by simp [fillV]
  have hbz : Below w.heap.size w (w.alloc (.cells (madeCells #[Value.slice none 0 0] vs.length) 32)) := (Below.refl _ _).alloc (Nat.le_refl _) _
  go_loopw [19] (fun i wr => ∃ (k : Nat) (KV : Nat → Value), k ≤ vs.length ∧ i = .int .i64 k ∧ wr.rowIs w.heap.size 32 vs.length (fillV KV k) ∧ (∀ j, j < k → nodeB (nodeAt vs j) = true ∧ IntsAt B w (KV j) (kidsOf vs j)) ∧ Below w.heap.size w wr) (fun i _ => vs.length - (intOf i).toNat)
  case atStart => exact ⟨0, _, Nat.zero_le _, rfl, hr0, fun j hj => by omega, hbz⟩
  case round =>
    obtain ⟨k, KV, hk, rfl, hrow, hall, hbel⟩ := hrel
    have HA := hideIt hall
    have HC := hideIt hc
    clear hall hr0 hbz hc
    by_cases hlt : k < vs.length
    · obtain ⟨ka, ki, hn⟩ := HC.out k hlt
      have hn' := hn.below (hbel.mono hB) hb0
      have c0 := hn'.c0
      have c1 := hn'.c1
      have c2 := hn'.c2
      have c3 := hn'.c3
      have c4 := hn'.c4
      have hin := hideIt hn'.inn
      have hinw := hideIt hn.inn.kids
      have hsize := hbel.size
      have hlt0 := hrow.lt
      obtain ⟨_, _, aK, cK, eK, _⟩ := hn'.inn.keys
      obtain ⟨_, _, aI, cI, eI, _⟩ := hn'.inn.kids
      subst eK eI
      have HR := hideIt hrow
      clear hn hn' hrow
      have hbx : Below w.heap.size w (wr.alloc (.cells #[.int .i64 (nodeAt vs k).kind, .int .i64 (nodeAt vs k).n, .string (nodeAt vs k).s, .slice aK (nodeAt vs k).keys.length cK, .slice aI (nodeAt vs k).kids.length cI] 34)) := hbel.alloc hsize _
      have hba : Below wr.heap.size wr (wr.alloc (.cells #[.int .i64 (nodeAt vs k).kind, .int .i64 (nodeAt vs k).n, .string (nodeAt vs k).s, .slice aK (nodeAt vs k).keys.length cK, .slice aI (nodeAt vs k).kids.length cI] 34)) := (Below.refl _ _).alloc (Nat.le_refl _) _
      have hinx := hideIt (hin.out.below (hba.mono (by omega)))
      by_cases hu : unnamedB (nodeAt vs k) = true
      · go_wp2_with fail
        refine (unnamedZero_any B (nodeAt vs k) _ _ _ hinx.out).mono ?_
        rintro e w1 ⟨rfl, hb1⟩
        have hc1 : ∀ o, w1.cell? ⟨wr.heap.size, o, none⟩ = (wr.alloc (.cells #[.int .i64 (nodeAt vs k).kind, .int .i64 (nodeAt vs k).n, .string (nodeAt vs k).s, .slice aK (nodeAt vs k).keys.length cK, .slice aI (nodeAt vs k).kids.length cI] 34)).cell? ⟨wr.heap.size, o, none⟩ := fun o => hb1.cell (p := ⟨wr.heap.size, o, none⟩) (by simp)
        have hz1 := hb1.size
        simp only [World.size_alloc] at hz1
        have hbx1 : Below w.heap.size w w1 := hbx.trans (hb1.mono (by simp; omega))
        have hinx1 := hideIt (hinx.out.below (hb1.mono (by simp; omega)))
        by_cases hm : namedB (nodeAt vs k) = true
        · have HN : Hid (nodeB (nodeAt vs k) = true) := by rw [Hid, nodeB, hu, hm]; rfl
          go_wp2_with fail
          refine (namedOk_any B (nodeAt vs k) _ _ _ hinx1.out (by omega)).mono ?_
          rintro e w2 ⟨rfl, hb2⟩
          have hc2 : ∀ o, w2.cell? ⟨wr.heap.size, o, none⟩ = (wr.alloc (.cells #[.int .i64 (nodeAt vs k).kind, .int .i64 (nodeAt vs k).n, .string (nodeAt vs k).s, .slice aK (nodeAt vs k).keys.length cK, .slice aI (nodeAt vs k).kids.length cI] 34)).cell? ⟨wr.heap.size, o, none⟩ := fun o => (hb2.cell (p := ⟨wr.heap.size, o, none⟩) (by show wr.heap.size < w1.heap.size; omega)).trans (hc1 o)
          have hbx2 : Below w.heap.size w w2 := hbx1.trans (hb2.mono (by omega))
          have hrow2 : w2.rowIs w.heap.size 32 vs.length (fillV KV k) := rowIs_below (rowIs_below (HR.out.alloc _) hb1 (by simp; omega)) hb2 (by omega)
          have hcs := hrow2.cell hlt
          have hfs := hrow2.frozen k
          have hnew := hideIt (fillV_step (v := .slice aI (nodeAt vs k).kids.length cI) hrow2)
          have hbn := hideIt (hbx2.setCell (p := ⟨w.heap.size, k, none⟩) (Nat.le_refl _) (.slice aI (nodeAt vs k).kids.length cI))
          have HA2 : Hid (∀ j, j < k + 1 → nodeB (nodeAt vs j) = true ∧ IntsAt B w (if j = k then .slice aI (nodeAt vs k).kids.length cI else KV j) (kidsOf vs j)) := fun j hj => by
            by_cases e : j = k
            · subst e; rw [if_pos rfl]; exact ⟨HN.out, hinw.out⟩
            · rw [if_neg e]; exact HA.out j (by omega)
          clear hrow2
          go_wp2_with fail
          go_roundw
          case rel => exact ⟨k + 1, _, by omega, by go_num, hnew.out, HA2.out, hbn.out⟩
          case measure => simp [intOf]; omega
        · have hm' : namedB (nodeAt vs k) = false := by simpa using hm
          have HO : Hid (okB vs = false) := okB_node hlt (by rw [nodeB, hm', Bool.and_false])
          clear hm
          go_wp2_with fail
          refine (namedOk_any B (nodeAt vs k) _ _ _ hinx1.out (by omega)).mono ?_
          rintro e w2 ⟨rfl, hb2⟩
          go_wp2_with fail
          go_ret
          exact ⟨ret_bool HO.out.symm, hbx1.trans (hb2.mono (by omega))⟩
      · have hu' : unnamedB (nodeAt vs k) = false := by simpa using hu
        have HO : Hid (okB vs = false) := okB_node hlt (by rw [nodeB, hu', Bool.false_and])
        clear hu
        go_wp2_with fail
        refine (unnamedZero_any B (nodeAt vs k) _ _ _ hinx.out).mono ?_
        rintro e w1 ⟨rfl, hb1⟩
        go_wp2_with fail
        go_ret
        exact ⟨ret_bool HO.out.symm, hbx.trans (hb1.mono (by simp; omega))⟩
    · obtain rfl : k = vs.length := by omega
      have HO : Hid (okB vs = standB (kidsOf vs) vs.length 8) := HE.out.symm.trans (tabB_all (by omega) (by omega) (fun j hj => (HA.out j hj).1))
      have hlt0 := hrow.lt
      have HR := hideIt hrow
      clear hrow
      go_wp2_with fail
      refine (nodesStand_any 8 (w.heap.size + 1) w.heap.size vs.length (kidsOf vs) KV _ (by omega) (by omega) (by omega) (by omega) (fun i hi => ⟨?_, ?_⟩)).mono ?_
      · rw [HR.out.cell hi, fillV, if_pos hi]
      · exact ((HA.out i hi).2.below (hbel.mono hB)).wide (by omega)
      · rintro e w1 ⟨rfl, hb1⟩
        go_wp2_with fail
        go_ret
        exact ⟨ret_bool HO.out.symm, hbel.trans (hb1.mono (by omega))⟩
end Go.Proofs.YtfijafbpdlakaaaGreatDoor

/-
  impl.valueOf: the value of right nodes.
-/
namespace Go.Proofs.YtfijafbpdlakaaaGreatDoor
open Go.RowKit
set_option linter.unusedSimpArgs false
set_option linter.unusedVariables false

set_option maxRecDepth 100000 in
set_option maxHeartbeats 1600000 in
theorem valueOf_no (B : Nat) (v : Value) (vs : List VN) (w : World) (h : NodesAt B w v vs) (hB : B ≤ w.heap.size) (hno : okB vs = false) :
    Calls Tryz.prog 32 #[v] w fun e w' => e = .returned (.tuple #[.nilIface, .bool false]) ∧ Below w.heap.size w w' := by
  have HV := hideIt h
  obtain ⟨_, a, cap, rfl, _⟩ := h
  go_enter Tryz.func32, Tryz.ntmps32
  go_wp2_with fail
  refine (implOk_any B _ vs _ HV.out hB).mono ?_
  rintro e w1 ⟨rfl, hb1⟩
  go_wp2_with fail
  go_ret2
  exact ⟨rfl, hb1⟩

set_option maxRecDepth 100000 in
set_option maxHeartbeats 1600000 in
theorem valueOf_yes (B : Nat) (v : Value) (vs : List VN) (w : World) (h : NodesAt B w v vs) (hB : B ≤ w.heap.size) (hyes : okB vs = true) :
    Calls Tryz.prog 32 #[v] w fun e w' => ∃ lo t x, e = .returned (.tuple #[.iface t x, .bool true]) ∧ w.heap.size ≤ lo ∧ lo < w'.heap.size ∧ ValIs lo w'.heap.size w' vs vs.length (vs.length - 1) (.iface t x) ∧ Below w.heap.size w w' := by
  have HV := hideIt h
  obtain ⟨_, a, cap, rfl, _⟩ := h
  obtain ⟨⟨hn1, hn2⟩, hok, _, hkn⟩ := okB_parts hyes
  have HOK := hideIt hok
  have HKN := hideIt hkn
  clear hok hkn
  go_enter Tryz.func32, Tryz.ntmps32
  go_wp2_with fail
  refine (implOk_any B _ vs _ HV.out hB).mono ?_
  rintro e w1 ⟨rfl, hb1⟩
  have z1 := hb1.size
  go_wp2_with fail
  refine (valuesAt_any B _ vs _ (HV.out.below (hb1.mono hB)) (by omega) hn1 hn2 HOK.out HKN.out).mono ?_
  rintro e w2 ⟨VV, rfl, hrow, hvals, hb2⟩
  have z2 := hb2.size
  obtain ⟨t, x, hx⟩ := (hvals (vs.length - 1) (by omega)).iface
  have hc : w2.cell? ⟨w1.heap.size, vs.length - 1, none⟩ = some (.iface t x) := by rw [hrow.cell (by omega), hx]
  have hlt := hrow.lt
  have hval := hvals (vs.length - 1) (by omega)
  rw [hx] at hval
  have HVL := hideIt hval
  have p0 : ((vs.length : Int) - 1).toNat = vs.length - 1 := by omega
  clear hrow hvals hx hval
  go_wp2_with fail
  go_ret2
  exact ⟨w1.heap.size, t, x, rfl, by omega, hlt, ValIs.more (by omega) HVL.out, hb1.trans (hb2.mono z1)⟩
end Go.Proofs.YtfijafbpdlakaaaGreatDoor

/-
  Laying nodes one behind the other in memory: what withNodes leaves, and what holds while it is under way. No walk.
-/
namespace Go.Proofs.YtfijafbpdlakaaaGreatDoor
open Go.RowKit
set_option linter.unusedSimpArgs false
set_option linter.unusedVariables false

/-- What laying the nodes 'add' behind those that lie there leaves. -/
def Laid (base : Nat) (w w' : World) (v v' : Value) (ns add : List VN) (KV IV KV' IV' : Nat → Value) : Prop :=
  Nest base w' v' (ns ++ add) KV' IV' ∧ w.grownBy w' v.ownBlock ∧ (v'.ownBlock = v.ownBlock ∨ ∃ g, v'.ownBlock = some g ∧ w.heap.size ≤ g) ∧ (∀ j, j < ns.length → KV' j = KV j ∧ IV' j = IV j) ∧
    (∀ j, ns.length ≤ j → j < ns.length + add.length → (∀ y, (KV' j).ownBlock = some y → w.heap.size ≤ y) ∧ (∀ y, (IV' j).ownBlock = some y → w.heap.size ≤ y))

/-- While it is under way: the node that is being made lies in block nb, with the cells cs; its kids' row is kv. -/
structure Mid (base : Nat) (w wr : World) (nb : Nat) (v0 v kv : Value) (ns acc : List VN) (ks : List Int) (cs : List Value) (KV0 IV0 KV IV : Nat → Value) : Prop where
  hbase : base ≤ w.heap.size
  v0b : ∀ y, v0.ownBlock = some y → base ≤ y
  nest : Nest base wr v (ns ++ acc) KV IV
  node : wr.ownsRow w.heap.size 34 5 (.slice (some ⟨nb, 0, none⟩) 1 1) 1 cs
  kids : wr.ownsRow w.heap.size 2 1 kv ks.length (ks.map (.int .i64))
  vnb : v.ownBlock ≠ some nb
  frame : w.grownBy wr v0.ownBlock
  vat : v.ownBlock = v0.ownBlock ∨ ∃ g, v.ownBlock = some g ∧ w.heap.size ≤ g
  old : ∀ j, j < ns.length → KV j = KV0 j ∧ IV j = IV0 j
  new : ∀ j, ns.length ≤ j → j < ns.length + acc.length → (∀ y, (KV j).ownBlock = some y → w.heap.size ≤ y) ∧ (∀ y, (IV j).ownBlock = some y → w.heap.size ≤ y)
  ki : ∀ j, j < ns.length + acc.length → ∀ y, kv.ownBlock = some y → (IV j).ownBlock ≠ some y

theorem grownBy_of_below {w w' : World} {row : Option Nat} (h : Below w.heap.size w w') : w.grownBy w' row := ⟨h.os, h.tape, h.output, h.size, fun k hk _ => h.block k hk⟩

theorem Mid.start {base : Nat} {w w1 w2 : World} {v : Value} {ns : List VN} {KV IV : Nat → Value} {c0 c1 c2 c3 c4 : Value} (h : Nest base w v ns KV IV) (hb : base ≤ w.heap.size) (h1 : Below w.heap.size w w1)
    (h2 : Below (w1.alloc (.cells #[c0, c1, c2, c3, c4] 34)).heap.size (w1.alloc (.cells #[c0, c1, c2, c3, c4] 34)) w2) :
    Mid base w w2 w1.heap.size v v (.slice none 0 0) ns [] [] [c0, c1, c2, c3, c4] KV IV KV IV := by
  have hb2 : Below w.heap.size w w2 := (h1.alloc h1.size _).trans (h2.mono (by have := h1.size; simp; omega))
  have hn := World.ownsRow_lit (base := w.heap.size) (e := 34) (size := 5) w1 #[c0, c1, c2, c3, c4] 1 h1.size (by simp [maxLen]) rfl
  refine ⟨hb, fun y hy => (h.row.lt y hy).1, by simpa using h.below hb2, own_below hn h2 (fun x hx => ?_), World.ownsRow_nil _ _ _ _, fun e => ?_, grownBy_of_below hb2, Or.inl rfl, fun j _ => ⟨rfl, rfl⟩, fun j h1 h2 => ?_, fun j hj y hy => ?_⟩
  · simp [Value.ownBlock] at hx; subst hx; simp
  · have := (h.row.lt _ e).2
    have := h1.size
    omega
  · simp at h2; omega
  · simp [Value.ownBlock] at hy

theorem Mid.laid {base : Nat} {w wr w' : World} {nb : Nat} {v0 v v' kv : Value} {ns acc add : List VN} {ks : List Int} {cs : List Value} {KV0 IV0 KV IV KV' IV' : Nat → Value} (h : Mid base w wr nb v0 v kv ns acc ks cs KV0 IV0 KV IV)
    (l : Laid base wr w' v v' (ns ++ acc) add KV IV KV' IV') : Mid base w w' nb v0 v' kv ns (acc ++ add) ks cs KV0 IV0 KV' IV' := by
  obtain ⟨l1, l2, l3, l4, l5⟩ := l
  have hnb := (h.node.lt nb rfl).2
  have hsz := h.frame.size
  refine ⟨h.hbase, h.v0b, by rw [← List.append_assoc]; exact l1, h.node.kept l2 (Or.inr fun e => h.vnb e.symm), h.kids.kept l2 (own_apart h.kids h.nest.row (by decide)), ?_, h.frame.andThen l2 (fun j hj => ?_), ?_, fun j hj => ?_, fun j hj1 hj2 => ?_, fun j hj y hy => ?_⟩
  · rcases l3 with e | ⟨g, e, hg⟩
    · rw [e]; exact h.vnb
    · rw [e]; intro e2; simp at e2; omega
  · rcases h.vat with e | ⟨g, e, hg⟩
    · exact Or.inr (e ▸ hj)
    · rw [e] at hj; simp at hj; exact Or.inl (by omega)
  · rcases l3 with e | ⟨g, e, hg⟩
    · rw [e]; exact h.vat
    · exact Or.inr ⟨g, e, by omega⟩
  · have e := l4 j (by simp; omega)
    have o := h.old j hj
    exact ⟨e.1.trans o.1, e.2.trans o.2⟩
  · by_cases hlt : j < ns.length + acc.length
    · have e := l4 j (by simp; omega)
      rw [e.1, e.2]
      exact h.new j hj1 hlt
    · have e := l5 j (by simp; omega) (by simp at hj2 ⊢; omega)
      exact ⟨fun y hy => Nat.le_trans hsz (e.1 y hy), fun y hy => Nat.le_trans hsz (e.2 y hy)⟩
  · by_cases hlt : j < ns.length + acc.length
    · rw [(l4 j (by simp; omega)).2]
      exact h.ki j hlt y hy
    · intro e
      have := (l5 j (by simp; omega) (by simp at hj ⊢; omega)).2 y e
      have := (h.kids.lt y hy).2
      omega

theorem Mid.put {base : Nat} {w wr : World} {nb : Nat} {v0 v kv : Value} {ns acc : List VN} {ks : List Int} {cs : List Value} {KV0 IV0 KV IV : Nat → Value} (h : Mid base w wr nb v0 v kv ns acc ks cs KV0 IV0 KV IV) (j : Nat) (u : Value) :
    Mid base w (wr.setCell ⟨nb, j, none⟩ u) nb v0 v kv ns acc ks (cs.set j u) KV0 IV0 KV IV := by
  have st := h.node.stored j u
  exact ⟨h.hbase, h.v0b, h.nest.kept st.2 (Or.inr h.vnb) (fun i hi => own_apart (h.nest.rk i hi) h.node (by decide)) (fun i hi => own_apart (h.nest.ri i hi) h.node (by decide)), st.1, h.kids.kept st.2 (own_apart h.kids h.node (by decide)), h.vnb,
    h.frame.andThen st.2 (fun j hj => Or.inl (by cases hj; exact (h.node.lt nb rfl).1)), h.vat, h.old, h.new, h.ki⟩

/-- A new row of kids. -/
theorem Mid.kid1 {base : Nat} {w wr w5 : World} {nb : Nat} {v0 v kv kv' : Value} {ns acc : List VN} {ks : List Int} {cs : List Value} {KV0 IV0 KV IV : Nat → Value} {o : Obj} {q : Int} (h : Mid base w wr nb v0 v kv ns acc ks cs KV0 IV0 KV IV)
    (hown : w5.ownsRow w.heap.size 2 1 kv' (ks.length + 1) (ks.map (.int .i64) ++ [.int .i64 q])) (hg : (wr.alloc o).grownBy w5 kv.ownBlock) (hat : kv'.ownBlock = kv.ownBlock ∨ kv'.ownBlock = some (wr.heap.size + 1)) :
    Mid base w w5 nb v0 v kv' ns acc (ks ++ [q]) cs KV0 IV0 KV IV := by
  have hg1 : wr.grownBy w5 kv.ownBlock := (World.grownBy_alloc wr o _).trans hg
  have hkk : ∀ i, i < (ns ++ acc).length → (IV i).ownBlock = none ∨ (IV i).ownBlock ≠ kv.ownBlock := by
    intro i hi
    cases e : kv.ownBlock with
    | none => cases e2 : (IV i).ownBlock with
      | none => exact Or.inl rfl
      | some y => exact Or.inr (by simp)
    | some y => exact Or.inr (h.ki i (by simpa using hi) y e)
  refine ⟨h.hbase, h.v0b, h.nest.kept hg1 (own_apart h.nest.row h.kids (by decide)) (fun i hi => own_apart (h.nest.rk i hi) h.kids (by decide)) hkk, h.node.kept hg1 (own_apart h.node h.kids (by decide)), by simpa using hown, h.vnb, h.frame.andThen hg1 (fun j hj => Or.inl (h.kids.lt j hj).1), h.vat, h.old, h.new, fun j hj y hy => ?_⟩
  rcases hat with e | e
  · exact h.ki j hj y (e ▸ hy)
  · rw [e] at hy
    simp at hy
    intro e2
    have := ((h.nest.ri j (by simpa using hj)).lt y e2).2
    omega

theorem Mid.kid {base : Nat} {w wr w5 : World} {nb : Nat} {v0 v kv kv' : Value} {ns acc : List VN} {ks : List Int} {cs : List Value} {KV0 IV0 KV IV : Nat → Value} {o : Obj} {q : Int} (h : Mid base w wr nb v0 v kv ns acc ks cs KV0 IV0 KV IV)
    (hown : w5.ownsRow w.heap.size 2 1 kv' (ks.length + 1) (ks.map (.int .i64) ++ [.int .i64 q])) (hg : (wr.alloc o).grownBy w5 kv.ownBlock) (hat : kv'.ownBlock = kv.ownBlock ∨ kv'.ownBlock = some (wr.heap.size + 1)) :
    Mid base w (w5.setCell ⟨nb, 4, none⟩ kv') nb v0 v kv' ns acc (ks ++ [q]) (cs.set 4 kv') KV0 IV0 KV IV := (h.kid1 hown hg hat).put 4 kv'

/-- An empty row of kids, made now. -/
theorem Mid.kid0 {base : Nat} {w wr : World} {nb : Nat} {v0 v kv : Value} {ns acc : List VN} {ks : List Int} {cs : List Value} {KV0 IV0 KV IV : Nat → Value} (h : Mid base w wr nb v0 v kv ns acc ks cs KV0 IV0 KV IV) :
    Mid base w (wr.alloc (.cells #[] 2)) nb v0 v (.slice (some ⟨wr.heap.size, 0, none⟩) 0 0) ns acc [] cs KV0 IV0 KV IV := by
  have hg := World.grownBy_alloc wr (.cells #[] 2) none
  have nn : ∀ x : Option Nat, x = none ∨ x ≠ none := fun x => by cases x <;> simp
  have hs := h.frame.size
  refine ⟨h.hbase, h.v0b, h.nest.kept hg (nn _) (fun _ _ => nn _) (fun _ _ => nn _), h.node.kept hg (nn _), World.ownsRow_lit wr #[] 0 hs (by simp [maxLen]) rfl, h.vnb, h.frame.andThen hg (fun j hj => by cases hj), h.vat, h.old, h.new, fun j hj y hy e => ?_⟩
  have := ((h.nest.ri j (by simpa using hj)).lt y e).2
  simp [Value.ownBlock] at hy
  omega

/-- New blocks. -/
theorem Mid.grow {base : Nat} {w wr w5 : World} {nb : Nat} {v0 v kv : Value} {ns acc : List VN} {ks : List Int} {cs : List Value} {KV0 IV0 KV IV : Nat → Value} (h : Mid base w wr nb v0 v kv ns acc ks cs KV0 IV0 KV IV) (hg : wr.grownBy w5 none) :
    Mid base w w5 nb v0 v kv ns acc ks cs KV0 IV0 KV IV := by
  have nn : ∀ x : Option Nat, x = none ∨ x ≠ none := fun x => by cases x <;> simp
  exact ⟨h.hbase, h.v0b, h.nest.kept hg (nn _) (fun _ _ => nn _) (fun _ _ => nn _), h.node.kept hg (nn _), h.kids.kept hg (nn _), h.vnb, h.frame.andThen hg (fun j hj => by cases hj), h.vat, h.old, h.new, h.ki⟩

/-- The node stands at its place. -/
theorem Mid.fin {base : Nat} {w wr w6 : World} {nb : Nat} {v0 v v' kv c3 : Value} {ns acc : List VN} {ks : List Int} {cs : List Value} {KV0 IV0 KV IV : Nat → Value} {o : Obj} {x : VN} (h : Mid base w wr nb v0 v kv ns acc ks cs KV0 IV0 KV IV) (hx : x.kids = ks)
    (hk : wr.ownsRow w.heap.size 9 1 c3 x.keys.length (x.keys.map .string)) (fk : ∀ j, j < ns.length + acc.length → ∀ y, c3.ownBlock = some y → (KV j).ownBlock ≠ some y)
    (hown : w6.ownsRow base 34 5 v' ((ns ++ acc).length + 1) (nestCells (ns ++ acc) KV IV ++ [.int .i64 x.kind, .int .i64 x.n, .string x.s, c3, kv])) (hg : (wr.alloc o).grownBy w6 v.ownBlock) (hat : v'.ownBlock = v.ownBlock ∨ v'.ownBlock = some (wr.heap.size + 1)) :
    Laid base w w6 v0 v' ns (acc ++ [x]) KV0 IV0 (upd KV (ns ++ acc).length c3) (upd IV (ns ++ acc).length kv) := by
  subst hx
  have hg1 : wr.grownBy w6 v.ownBlock := (World.grownBy_alloc wr o _).trans hg
  have hsz := h.frame.size
  have hn := Nest.snoc (x := x) h.nest (own_mono hk h.hbase) (own_mono h.kids h.hbase) (fun i hi => fk i (by simpa using hi)) (fun i hi => h.ki i (by simpa using hi)) hown hg1
  refine ⟨by rw [← List.append_assoc]; exact hn, h.frame.andThen hg1 (fun j hj => ?_), ?_, fun j hj => ?_, fun j hj1 hj2 => ?_⟩
  · rcases h.vat with e | ⟨g, e, hg⟩
    · exact Or.inr (e ▸ hj)
    · rw [e] at hj; simp at hj; exact Or.inl (by omega)
  · rcases hat with e | e
    · rw [e]; exact h.vat
    · exact Or.inr ⟨_, e, by omega⟩
  · rw [upd_other _ _ (by simp; omega), upd_other _ _ (by simp; omega)]
    exact h.old j hj
  · by_cases hlt : j < ns.length + acc.length
    · rw [upd_other _ _ (by simp; omega), upd_other _ _ (by simp; omega)]
      exact h.new j hj1 hlt
    · obtain rfl : j = (ns ++ acc).length := by simp at hj2 ⊢; omega
      rw [upd_same, upd_same]
      exact ⟨fun y hy => (hk.lt y hy).1, fun y hy => (h.kids.lt y hy).1⟩

theorem Mid.keepL {base : Nat} {w wr : World} {nb : Nat} {v0 v kv : Value} {ns acc : List VN} {ks : List Int} {cs : List Value} {KV0 IV0 KV IV : Nat → Value} {B : Nat} (h : Mid base w wr nb v0 v kv ns acc ks cs KV0 IV0 KV IV) (hB : B ≤ base) : Below B w wr :=
  (Below.refl _ _).grown h.frame (by have := h.hbase; omega) (fun k hk => by have := h.v0b k hk; omega)

theorem Laid.refl {base : Nat} {w : World} {v : Value} {ns : List VN} {KV IV : Nat → Value} (h : Nest base w v ns KV IV) : Laid base w w v v ns [] KV IV KV IV :=
  ⟨by simpa using h, ⟨rfl, rfl, rfl, Nat.le_refl _, fun _ _ _ => rfl⟩, Or.inl rfl, fun _ _ => ⟨rfl, rfl⟩, fun j h1 h2 => by simp at h2; omega⟩

theorem Laid.trans {base : Nat} {w w1 w2 : World} {v v1 v2 : Value} {ns add add' : List VN} {KV IV KV1 IV1 KV2 IV2 : Nat → Value} (h : Laid base w w1 v v1 ns add KV IV KV1 IV1) (k : Laid base w1 w2 v1 v2 (ns ++ add) add' KV1 IV1 KV2 IV2) : Laid base w w2 v v2 ns (add ++ add') KV IV KV2 IV2 := by
  obtain ⟨h1, h2, h3, h4, h5⟩ := h
  obtain ⟨k1, k2, k3, k4, k5⟩ := k
  have hs := h2.size
  refine ⟨by rw [← List.append_assoc]; exact k1, h2.andThen k2 (fun j hj => ?_), ?_, fun j hj => ?_, fun j hj1 hj2 => ?_⟩
  · rcases h3 with e | ⟨g, e, hg⟩
    · exact Or.inr (e ▸ hj)
    · rw [e] at hj; simp at hj; exact Or.inl (by omega)
  · rcases k3 with e | ⟨g, e, hg⟩
    · rw [e]; exact h3
    · exact Or.inr ⟨g, e, by omega⟩
  · have e := k4 j (by simp; omega)
    have o := h4 j hj
    exact ⟨e.1.trans o.1, e.2.trans o.2⟩
  · by_cases hlt : j < ns.length + add.length
    · have e := k4 j (by simp; omega)
      rw [e.1, e.2]
      exact h5 j hj1 hlt
    · have e := k5 j (by simp; omega) (by simp at hj2 ⊢; omega)
      exact ⟨fun y hy => Nat.le_trans hs (e.1 y hy), fun y hy => Nat.le_trans hs (e.2 y hy)⟩

theorem Laid.below {base B : Nat} {w w1 : World} {v v1 : Value} {ns add : List VN} {KV IV KV1 IV1 : Nat → Value} (h : Laid base w w1 v v1 ns add KV IV KV1 IV1) (hv : ∀ y, v.ownBlock = some y → base ≤ y) (hB : B ≤ base) (hb : base ≤ w.heap.size) : Below B w w1 :=
  (Below.refl _ _).grown h.2.1 (by omega) (fun k hk => by have := hv k hk; omega)
end Go.Proofs.YtfijafbpdlakaaaGreatDoor
