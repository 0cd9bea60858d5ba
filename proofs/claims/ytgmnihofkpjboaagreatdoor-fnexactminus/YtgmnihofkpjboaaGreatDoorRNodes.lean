/-
  The program's check of a whole value: it answers as the specification's.
-/
import Derived.Test.YtgmnihofkpjboaaGreatDoorImp1
import Derived.Test.YtgmnihofkpjboaaGreatDoorImp2
import Derived.Test.YtgmnihofkpjboaaGreatDoorVAt
import Derived.Test.YtgmnihofkpjboaaGreatDoorWn6
import Derived.Test.YtgmnihofkpjboaaGreatDoorKi
namespace Go.Proofs.YtgmnihofkpjboaaGreatDoor
open Go.RowKit
set_option linter.unusedSimpArgs false
set_option linter.unusedVariables false

theorem infoSl : (Tryz.prog.info? 33).map (fun i => (i.zero, i.size, i.bytes)) = some (some (.slice none 0 0), 1, 24) := by kernel_rfl

def fillV (KV : Nat → Value) (k j : Nat) : Value := if j < k then KV j else .slice none 0 0
theorem fillV_step {w : World} {b t n k : Nat} {KV : Nat → Value} {v : Value} (h : w.rowIs b t n (fillV KV k)) : (w.setCell ⟨b, k, none⟩ v).rowIs b t n (fillV (fun j => if j = k then v else KV j) (k + 1)) := by
  refine (h.set k _).congr fun i _ => ?_
  unfold fillV
  by_cases e : i = k
  · subst e; rw [if_pos rfl, if_pos (by omega)]; simp
  · rw [if_neg e]; by_cases g : i < k
    · rw [if_pos g, if_pos (by omega)]; simp [e]
    · rw [if_neg g, if_neg (by omega)]

theorem tabB_size {vs : List VN} (h : vs.length < 1 ∨ 80 < vs.length) : tabB vs = false := by
  have : sizeB vs = false := by simp [sizeB]; omega
  simp [tabB, this]

theorem tabB_node {vs : List VN} {k : Nat} (hk : k < vs.length) (h : nodeB (nodeAt vs k) = false) : tabB vs = false := by
  unfold tabB
  rw [show ((List.range vs.length).all fun i => nodeB (nodeAt vs i)) = false from ?_, Bool.and_false, Bool.false_and]
  rw [List.all_eq_false]
  exact ⟨k, List.mem_range.2 hk, by simp [h]⟩

theorem tabB_all {vs : List VN} (h1 : 1 ≤ vs.length) (h2 : vs.length ≤ 80) (h : ∀ k, k < vs.length → nodeB (nodeAt vs k) = true) : tabB vs = standB (kidsOf vs) vs.length 8 := by
  unfold tabB
  rw [show ((List.range vs.length).all fun i => nodeB (nodeAt vs i)) = true from ?_]
  · rw [show sizeB vs = true by simp [sizeB, h1, h2], Bool.true_and, Bool.true_and, standB]
    have hr : rootB vs = rootK (kidsOf vs) vs.length 8 := by
      unfold rootB rootK
      cases tr (kidsOf vs) (vs.length - 1) with
      | none => rfl
      | some p =>
        have : ((p.2 : Int) ≤ 8) ↔ p.2 ≤ 8 := by omega
        simp only [this]
    rw [hr]
  · rw [List.all_eq_true]
    exact fun k hk => h k (List.mem_range.1 hk)

set_option maxRecDepth 100000 in
set_option maxHeartbeats 3200000 in
theorem implOk_any (B : Nat) (v : Value) (vs : List VN) (w : World) (h : NodesAt B w v vs) (hB : B ≤ w.heap.size) :
    Calls Tryz.prog 46 #[v] w fun e w' => e = .returned (.bool (okB vs)) ∧ Below w.heap.size w w' := by
  have HE : Hid (tabB vs = okB vs) := okB_eq vs
  obtain ⟨hlen, a, cap, rfl, hcell⟩ := h
  by_cases h1 : vs.length < 1
  · have HO : Hid (okB vs = false) := okB_size (Or.inl h1)
    have h1' : (vs.length : Int) < 1 := by omega
    go_enter Tryz.func46, Tryz.ntmps46
    go_wp2_with fail
    go_ret
    exact ⟨ret_bool HO.out.symm, Below.refl _ _⟩
  by_cases h2 : 80 < vs.length
  · have HO : Hid (okB vs = false) := okB_size (Or.inr h2)
    have h1' : ¬ (vs.length : Int) < 1 := by omega
    have h2' : (80 : Int) < (vs.length : Int) := by omega
    go_enter Tryz.func46, Tryz.ntmps46
    go_wp2_with fail
    go_ret
    exact ⟨ret_bool HO.out.symm, Below.refl _ _⟩
  have h1' : ¬ (vs.length : Int) < 1 := by omega
  have h2' : ¬ (80 : Int) < (vs.length : Int) := by omega
  obtain ⟨b0, o0, rfl, hb0, hc⟩ := hcell (by omega)
  clear hcell
  have hmk := run_make_row' (P := Tryz.prog) 95 33 (.slice none 0 0) 24 Tryz.underlying95 infoSl rfl .i64 .i64 vs.length (by omega) (by omega)
  go_enter Tryz.func46, Tryz.ntmps46
  go_wp2_with fail
  clear hmk
  have hr0 : (w.alloc (.cells (madeCells #[Value.slice none 0 0] vs.length) 33)).rowIs w.heap.size 33 vs.length (fillV (fun _ => undef) 0) := (World.rowIs_made w _ _ _).congr fun i _ => by simp [fillV]
  have hbz : Below w.heap.size w (w.alloc (.cells (madeCells #[Value.slice none 0 0] vs.length) 33)) := (Below.refl _ _).alloc (Nat.le_refl _) _
  go_loopw [19] (fun i wr => ∃ (k : Nat) (KV : Nat → Value), k ≤ vs.length ∧ i = .int .i64 k ∧ wr.rowIs w.heap.size 33 vs.length (fillV KV k) ∧ (∀ j, j < k → nodeB (nodeAt vs j) = true ∧ IntsAt B w (KV j) (kidsOf vs j)) ∧ Below w.heap.size w wr) (fun i _ => vs.length - (intOf i).toNat)
  case atStart => exact ⟨0, _, Nat.zero_le _, rfl, hr0, fun j hj => by omega, hbz⟩
  case round =>
    obtain ⟨k, KV, hk, rfl, hrow, hall, hbel⟩ := hrel
    have HA := hideIt hall
    have HC := hideIt hc
    clear hall hr0 hbz hc
    by_cases hlt : k < vs.length
    · obtain ⟨ka, ki, hn⟩ := HC.out k hlt
      have hn' := hn.below (hbel.mono hB) hb0
      have c0 := hn'.c0
      have c1 := hn'.c1
      have c2 := hn'.c2
      have c3 := hn'.c3
      have c4 := hn'.c4
      have hin := hideIt hn'.inn
      have hinw := hideIt hn.inn.kids
      have hsize := hbel.size
      have hlt0 := hrow.lt
      obtain ⟨_, _, aK, cK, eK, _⟩ := hn'.inn.keys
      obtain ⟨_, _, aI, cI, eI, _⟩ := hn'.inn.kids
      subst eK eI
      have HR := hideIt hrow
      clear hn hn' hrow
      have hbx : Below w.heap.size w (wr.alloc (.cells #[.int .i64 (nodeAt vs k).kind, .int .i64 (nodeAt vs k).n, .string (nodeAt vs k).s, .slice aK (nodeAt vs k).keys.length cK, .slice aI (nodeAt vs k).kids.length cI] 37)) := hbel.alloc hsize _
      have hba : Below wr.heap.size wr (wr.alloc (.cells #[.int .i64 (nodeAt vs k).kind, .int .i64 (nodeAt vs k).n, .string (nodeAt vs k).s, .slice aK (nodeAt vs k).keys.length cK, .slice aI (nodeAt vs k).kids.length cI] 37)) := (Below.refl _ _).alloc (Nat.le_refl _) _
      have hinx := hideIt (hin.out.below (hba.mono (by omega)))
      by_cases hu : unnamedB (nodeAt vs k) = true
      · go_wp2_with fail
        refine (unnamedZero_any B (nodeAt vs k) _ _ _ hinx.out).mono ?_
        rintro e w1 ⟨rfl, hb1⟩
        have hc1 : ∀ o, w1.cell? ⟨wr.heap.size, o, none⟩ = (wr.alloc (.cells #[.int .i64 (nodeAt vs k).kind, .int .i64 (nodeAt vs k).n, .string (nodeAt vs k).s, .slice aK (nodeAt vs k).keys.length cK, .slice aI (nodeAt vs k).kids.length cI] 37)).cell? ⟨wr.heap.size, o, none⟩ := fun o => hb1.cell (p := ⟨wr.heap.size, o, none⟩) (by simp)
        have hz1 := hb1.size
        simp only [World.size_alloc] at hz1
        have hbx1 : Below w.heap.size w w1 := hbx.trans (hb1.mono (by simp; omega))
        have hinx1 := hideIt (hinx.out.below (hb1.mono (by simp; omega)))
        by_cases hm : namedB (nodeAt vs k) = true
        · have HN : Hid (nodeB (nodeAt vs k) = true) := by rw [Hid, nodeB, hu, hm]; rfl
          go_wp2_with fail
          refine (namedOk_any B (nodeAt vs k) _ _ _ hinx1.out (by omega)).mono ?_
          rintro e w2 ⟨rfl, hb2⟩
          have hc2 : ∀ o, w2.cell? ⟨wr.heap.size, o, none⟩ = (wr.alloc (.cells #[.int .i64 (nodeAt vs k).kind, .int .i64 (nodeAt vs k).n, .string (nodeAt vs k).s, .slice aK (nodeAt vs k).keys.length cK, .slice aI (nodeAt vs k).kids.length cI] 37)).cell? ⟨wr.heap.size, o, none⟩ := fun o => (hb2.cell (p := ⟨wr.heap.size, o, none⟩) (by show wr.heap.size < w1.heap.size; omega)).trans (hc1 o)
          have hbx2 : Below w.heap.size w w2 := hbx1.trans (hb2.mono (by omega))
          have hrow2 : w2.rowIs w.heap.size 33 vs.length (fillV KV k) := rowIs_below (rowIs_below (HR.out.alloc _) hb1 (by simp; omega)) hb2 (by omega)
          have hcs := hrow2.cell hlt
          have hfs := hrow2.frozen k
          have hnew := hideIt (fillV_step (v := .slice aI (nodeAt vs k).kids.length cI) hrow2)
          have hbn := hideIt (hbx2.setCell (p := ⟨w.heap.size, k, none⟩) (Nat.le_refl _) (.slice aI (nodeAt vs k).kids.length cI))
          have HA2 : Hid (∀ j, j < k + 1 → nodeB (nodeAt vs j) = true ∧ IntsAt B w (if j = k then .slice aI (nodeAt vs k).kids.length cI else KV j) (kidsOf vs j)) := fun j hj => by
            by_cases e : j = k
            · subst e; rw [if_pos rfl]; exact ⟨HN.out, hinw.out⟩
            · rw [if_neg e]; exact HA.out j (by omega)
          clear hrow2
          go_wp2_with fail
          go_roundw
          case rel => exact ⟨k + 1, _, by omega, by go_num, hnew.out, HA2.out, hbn.out⟩
          case measure => simp [intOf]; omega
        · have hm' : namedB (nodeAt vs k) = false := by simpa using hm
          have HO : Hid (okB vs = false) := okB_node hlt (by rw [nodeB, hm', Bool.and_false])
          clear hm
          go_wp2_with fail
          refine (namedOk_any B (nodeAt vs k) _ _ _ hinx1.out (by omega)).mono ?_
          rintro e w2 ⟨rfl, hb2⟩
          go_wp2_with fail
          go_ret
          exact ⟨ret_bool HO.out.symm, hbx1.trans (hb2.mono (by omega))⟩
      · have hu' : unnamedB (nodeAt vs k) = false := by simpa using hu
        have HO : Hid (okB vs = false) := okB_node hlt (by rw [nodeB, hu', Bool.false_and])
        clear hu
        go_wp2_with fail
        refine (unnamedZero_any B (nodeAt vs k) _ _ _ hinx.out).mono ?_
        rintro e w1 ⟨rfl, hb1⟩
        go_wp2_with fail
        go_ret
        exact ⟨ret_bool HO.out.symm, hbx.trans (hb1.mono (by simp; omega))⟩
    · obtain rfl : k = vs.length := by omega
      have HO : Hid (okB vs = standB (kidsOf vs) vs.length 8) := HE.out.symm.trans (tabB_all (by omega) (by omega) (fun j hj => (HA.out j hj).1))
      have hlt0 := hrow.lt
      have HR := hideIt hrow
      clear hrow
      go_wp2_with fail
      refine (nodesStand_any 8 (w.heap.size + 1) w.heap.size vs.length (kidsOf vs) KV _ (by omega) (by omega) (by omega) (by omega) (fun i hi => ⟨?_, ?_⟩)).mono ?_
      · rw [HR.out.cell hi, fillV, if_pos hi]
      · exact ((HA.out i hi).2.below (hbel.mono hB)).wide (by omega)
      · rintro e w1 ⟨rfl, hb1⟩
        go_wp2_with fail
        go_ret
        exact ⟨ret_bool HO.out.symm, hbel.trans (hb1.mono (by omega))⟩
end Go.Proofs.YtgmnihofkpjboaaGreatDoor

/-
  impl.valueOf: the value of right nodes.
-/
namespace Go.Proofs.YtgmnihofkpjboaaGreatDoor
open Go.RowKit
set_option linter.unusedSimpArgs false
set_option linter.unusedVariables false

set_option maxRecDepth 100000 in
set_option maxHeartbeats 1600000 in
theorem valueOf_no (B : Nat) (v : Value) (vs : List VN) (w : World) (h : NodesAt B w v vs) (hB : B ≤ w.heap.size) (hno : okB vs = false) :
    Calls Tryz.prog 35 #[v] w fun e w' => e = .returned (.tuple #[.nilIface, .bool false]) ∧ Below w.heap.size w w' := by
  have HV := hideIt h
  obtain ⟨_, a, cap, rfl, _⟩ := h
  go_enter Tryz.func35, Tryz.ntmps35
  go_wp2_with fail
  refine (implOk_any B _ vs _ HV.out hB).mono ?_
  rintro e w1 ⟨rfl, hb1⟩
  go_wp2_with fail
  go_ret2
  exact ⟨rfl, hb1⟩

set_option maxRecDepth 100000 in
set_option maxHeartbeats 1600000 in
theorem valueOf_yes (B : Nat) (v : Value) (vs : List VN) (w : World) (h : NodesAt B w v vs) (hB : B ≤ w.heap.size) (hyes : okB vs = true) :
    Calls Tryz.prog 35 #[v] w fun e w' => ∃ lo t x, e = .returned (.tuple #[.iface t x, .bool true]) ∧ w.heap.size ≤ lo ∧ lo < w'.heap.size ∧ ValIs lo w'.heap.size w' vs vs.length (vs.length - 1) (.iface t x) ∧ Below w.heap.size w w' := by
  have HV := hideIt h
  obtain ⟨_, a, cap, rfl, _⟩ := h
  obtain ⟨⟨hn1, hn2⟩, hok, _, hkn⟩ := okB_parts hyes
  have HOK := hideIt hok
  have HKN := hideIt hkn
  clear hok hkn
  go_enter Tryz.func35, Tryz.ntmps35
  go_wp2_with fail
  refine (implOk_any B _ vs _ HV.out hB).mono ?_
  rintro e w1 ⟨rfl, hb1⟩
  have z1 := hb1.size
  go_wp2_with fail
  refine (valuesAt_any B _ vs _ (HV.out.below (hb1.mono hB)) (by omega) hn1 hn2 HOK.out HKN.out).mono ?_
  rintro e w2 ⟨VV, rfl, hrow, hvals, hb2⟩
  have z2 := hb2.size
  obtain ⟨t, x, hx⟩ := (hvals (vs.length - 1) (by omega)).iface
  have hc : w2.cell? ⟨w1.heap.size, vs.length - 1, none⟩ = some (.iface t x) := by rw [hrow.cell (by omega), hx]
  have hlt := hrow.lt
  have hval := hvals (vs.length - 1) (by omega)
  rw [hx] at hval
  have HVL := hideIt hval
  have p0 : ((vs.length : Int) - 1).toNat = vs.length - 1 := by omega
  clear hrow hvals hx hval
  go_wp2_with fail
  go_ret2
  exact ⟨w1.heap.size, t, x, rfl, by omega, hlt, ValIs.more (by omega) HVL.out, hb1.trans (hb2.mono z1)⟩
end Go.Proofs.YtgmnihofkpjboaaGreatDoor

/-
  impl.rightNodes: the nodes of a value, if these are right.
-/
namespace Go.Proofs.YtgmnihofkpjboaaGreatDoor
open Go.RowKit
set_option linter.unusedSimpArgs false
set_option linter.unusedVariables false

theorem TreeAt.iface {B : Nat} {w : World} {f : Nat} {t : VT} {v : Value} (h : TreeAt B w f t v) : ∃ ty x, v = .iface ty x := by
  cases f with
  | zero => exact h.elim
  | succ f =>
    obtain ⟨kind, n, s, keys, kids⟩ := t
    rcases h with ⟨_, _, _, _, _, rfl⟩ | ⟨_, _, _, _, rfl⟩ | ⟨_, _, _, _, rfl⟩ | ⟨_, _, _, _, rfl⟩ | ⟨_, _, _, _, it, rfl, _⟩ | ⟨_, _, _, ks, it, rfl, _⟩ <;> exact ⟨_, _, rfl⟩

def rightNs (ns : List VN) : List VN := if okB ns = true then ns else []

set_option maxRecDepth 100000 in
set_option maxHeartbeats 3200000 in
theorem rightNodes_any (f : Nat) (t : VT) (x : Value) (ns : List VN) (w : World) (ht : TreeAt w.heap.size w f t x) (hns : layT f t 0 = ns) (hn : ns.length ≤ 100000) (hf : ∀ i, i < ns.length → Fits (nodeAt ns i)) :
    Calls Tryz.prog 50 #[x] w fun e w' => ∃ r base KV IV, e = .returned (.tuple #[r, .bool (okB ns)]) ∧ w.heap.size ≤ base ∧ base ≤ w'.heap.size ∧ Nest base w' r (rightNs ns) KV IV ∧ Below w.heap.size w w' := by
  obtain ⟨ty, xv, rfl⟩ := ht.iface
  have HT := hideIt ht
  have HNS := hideIt hns
  have HF := hideIt hf
  have HRN : Hid (rightNs ns = if okB ns = true then ns else []) := rfl
  clear ht hns hf
  go_enter Tryz.func50, Tryz.ntmps50
  go_wp2_with fail
  refine (withNodes_any w.heap.size w.heap.size (Nat.le_refl _) f t (.iface ty xv) (.slice none 0 0) [] (fun _ => undef) (fun _ => undef) w (Nest.nil _ _ _ _) HT.out (Nat.le_refl _) (by rw [List.length_nil, HNS.out]; omega)).mono ?_
  rintro e w1 ⟨r, K, I, rfl, hl1⟩
  have hn1 : Nest w.heap.size w1 r ns K I := by have := hl1.1; rw [List.nil_append, List.length_nil, HNS.out] at this; exact this
  have hb1 : Below w.heap.size w w1 := (Below.refl _ _).grown hl1.2.1 (Nat.le_refl _) (fun k hk => by simp [Value.ownBlock] at hk)
  have z1 := hb1.size
  have HN1 := hideIt hn1
  have HB1 := hideIt hb1
  obtain ⟨ar, cr, er⟩ := own_slice hn1.row
  obtain ⟨N, hN⟩ : ∃ N, ns.length = N := ⟨_, rfl⟩
  rw [hN] at er
  subst er
  clear hn1 hb1 hN hl1
  go_wp2_with fail
  refine (implOk_any w1.heap.size _ ns _ (HN1.out.nodes (by omega) HF.out) (Nat.le_refl _)).mono ?_
  rintro e w2 ⟨rfl, hb2⟩
  have z2 := hb2.size
  have HN2 := hideIt (HN1.out.below hb2)
  have HB2 := hideIt (HB1.out.trans (hb2.mono z1))
  clear hb2
  cases ok1 : okB ns
  · go_wp2_with fail
    go_ret2
    exact ⟨.slice none 0 0, w.heap.size, fun _ => undef, fun _ => undef, by rw [ok1]; rfl, Nat.le_refl _, by omega, by rw [HRN.out, ok1]; exact Nest.nil _ _ _ _, HB2.out⟩
  · go_wp2_with fail
    go_ret2
    exact ⟨.slice ar N cr, w.heap.size, K, I, by rw [ok1]; rfl, Nat.le_refl _, by omega, by rw [HRN.out, ok1]; exact HN2.out, HB2.out⟩
end Go.Proofs.YtgmnihofkpjboaaGreatDoor
