/-
  impl.valuesAt: the values of all nodes.
-/
import Derived.Test.YtgmnihofkpjboaaGreatDoorTree
namespace Go.Proofs.YtgmnihofkpjboaaGreatDoor
open Go.RowKit
set_option linter.unusedSimpArgs false
set_option linter.unusedVariables false

/-- One more value is laid. -/
theorem valStep {s N k : Nat} {w W0 W : World} {vs : List VN} {VV : Nat → Value} {u : Value} (hrow : W.rowIs s 59 N (fillI VV k)) (hall : ∀ j, j < k → ValIs s W0.heap.size W0 vs (j + 1) j (VV j)) (hk : Keep s W0.heap.size W0 W) (hsz : W0.heap.size ≤ W.heap.size) (hs : s < W0.heap.size) (hb : Below s w W)
    (hv : ValIs s W.heap.size W vs (k + 1) k u) :
    (W.setCell ⟨s, k, none⟩ u).rowIs s 59 N (fillI (fun j => if j = k then u else VV j) (k + 1)) ∧ (∀ j, j < k + 1 → ValIs s (W.setCell ⟨s, k, none⟩ u).heap.size (W.setCell ⟨s, k, none⟩ u) vs (j + 1) j (if j = k then u else VV j)) ∧ Below s w (W.setCell ⟨s, k, none⟩ u) := by
  have hsz2 : (W.setCell ⟨s, k, none⟩ u).heap.size = W.heap.size := World.size_setCell _ _ _
  refine ⟨fillI_step hrow, fun j hj => ?_, hb.setCell (Nat.le_refl _) _⟩
  by_cases e : j = k
  · subst e
    rw [if_pos rfl]
    exact ValIs.keep (Keep.setCell W u) (by omega) (by omega) hv
  · rw [if_neg e]
    exact ValIs.keep (hk.trans (Keep.setCell W u)) (by omega) (by omega) (hall j (by omega))

set_option maxRecDepth 100000 in
set_option maxHeartbeats 6400000 in
theorem valuesAt_any (B : Nat) (v : Value) (vs : List VN) (w : World) (h : NodesAt B w v vs) (hB : B ≤ w.heap.size) (hn1 : 1 ≤ vs.length) (hn80 : vs.length ≤ 80) (hok : ∀ k, k < vs.length → nodeB (nodeAt vs k) = true ∧ kidsIn vs k = true) (hkn : ∀ k, k < vs.length → (nodeAt vs k).kids.length ≤ k) :
    Calls Tryz.prog 47 #[v] w fun e w' => ∃ VV : Nat → Value, e = .returned (.slice (some ⟨w.heap.size, 0, none⟩) vs.length vs.length) ∧
      w'.rowIs w.heap.size 59 vs.length VV ∧ (∀ j, j < vs.length → ValIs w.heap.size w'.heap.size w' vs (j + 1) j (VV j)) ∧ Below w.heap.size w w' := by
  obtain ⟨hlen, a, cap, rfl, hcell⟩ := h
  obtain ⟨b0, o0, rfl, hb0, hc⟩ := hcell (by omega)
  clear hcell
  have HOK := hideIt hok
  have HC := hideIt hc
  clear hok hc
  have hmk := run_make_row' (P := Tryz.prog) 71 59 .nilIface 16 Tryz.underlying71 infoVal rfl .i64 .i64 vs.length (by omega) (by omega)
  obtain ⟨i0, hi, hz0, hz1, hz2⟩ := info_parts infoVal
  go_enter Tryz.func47, Tryz.ntmps47
  go_wp2_with fail
  clear hmk
  have hr0 : (w.alloc (.cells (madeCells #[Value.nilIface] vs.length) 59)).rowIs w.heap.size 59 vs.length (fillI (fun _ => undef) 0) := (World.rowIs_made w _ _ _).congr fun i _ => by simp [fillI]
  have hbz : Below w.heap.size w (w.alloc (.cells (madeCells #[Value.nilIface] vs.length) 59)) := (Below.refl _ _).alloc (Nat.le_refl _) _
  go_loopw [14] (fun i wr => ∃ (k : Nat) (VV : Nat → Value), k ≤ vs.length ∧ i = .int .i64 k ∧ wr.rowIs w.heap.size 59 vs.length (fillI VV k) ∧ (∀ j, j < k → ValIs w.heap.size wr.heap.size wr vs (j + 1) j (VV j)) ∧ Below w.heap.size w wr) (fun i _ => vs.length - (intOf i).toNat)
  case atStart => exact ⟨0, _, Nat.zero_le _, rfl, hr0, fun j hj => by omega, hbz⟩
  case round =>
    obtain ⟨k, VV, hk, rfl, hrow, hall, hbel⟩ := hrel
    obtain ⟨W0, rfl⟩ : ∃ W0, W0 = wr := ⟨_, rfl⟩
    have HA := hideIt hall
    clear hall hr0 hbz
    by_cases hlt : k < vs.length
    · obtain ⟨ka, ki, hn⟩ := HC.out k hlt
      have hn' := hn.below (hbel.mono hB) hb0
      have c0 := hn'.c0
      have c1 := hn'.c1
      have c2 := hn'.c2
      have c3 := hn'.c3
      have c4 := hn'.c4
      have hsize := hbel.size
      have hlt0 := hrow.lt
      have HK := hideIt hn.inn.keys
      obtain ⟨_, _, aK, cK, eK, _⟩ := hn'.inn.keys
      obtain ⟨hkl, hkb, aI, cI, eI, hkc⟩ := hn'.inn.kids
      subst eK eI
      have HR := hideIt hrow
      clear hn hn' hrow
      go_wp2_with fail
      have x0 : (W0.alloc (.cells #[.int .i64 (nodeAt vs k).kind, .int .i64 (nodeAt vs k).n, .string (nodeAt vs k).s, .slice aK (nodeAt vs k).keys.length cK, .slice aI (nodeAt vs k).kids.length cI] 37)).cell? ⟨W0.heap.size, 0, none⟩ = some (.int .i64 (nodeAt vs k).kind) := by simp
      have x1 : (W0.alloc (.cells #[.int .i64 (nodeAt vs k).kind, .int .i64 (nodeAt vs k).n, .string (nodeAt vs k).s, .slice aK (nodeAt vs k).keys.length cK, .slice aI (nodeAt vs k).kids.length cI] 37)).cell? ⟨W0.heap.size, 1, none⟩ = some (.int .i64 (nodeAt vs k).n) := by simp
      have x2 : (W0.alloc (.cells #[.int .i64 (nodeAt vs k).kind, .int .i64 (nodeAt vs k).n, .string (nodeAt vs k).s, .slice aK (nodeAt vs k).keys.length cK, .slice aI (nodeAt vs k).kids.length cI] 37)).cell? ⟨W0.heap.size, 2, none⟩ = some (.string (nodeAt vs k).s) := by simp
      have x3 : (W0.alloc (.cells #[.int .i64 (nodeAt vs k).kind, .int .i64 (nodeAt vs k).n, .string (nodeAt vs k).s, .slice aK (nodeAt vs k).keys.length cK, .slice aI (nodeAt vs k).kids.length cI] 37)).cell? ⟨W0.heap.size, 3, none⟩ = some (.slice aK (nodeAt vs k).keys.length cK) := by simp
      have sW1 : (W0.alloc (.cells #[.int .i64 (nodeAt vs k).kind, .int .i64 (nodeAt vs k).n, .string (nodeAt vs k).s, .slice aK (nodeAt vs k).keys.length cK, .slice aI (nodeAt vs k).kids.length cI] 37)).heap.size = W0.heap.size + 1 := by simp
      have bW1 : Below W0.heap.size W0 (W0.alloc (.cells #[.int .i64 (nodeAt vs k).kind, .int .i64 (nodeAt vs k).n, .string (nodeAt vs k).s, .slice aK (nodeAt vs k).keys.length cK, .slice aI (nodeAt vs k).kids.length cI] 37)) := (Below.refl _ _).alloc (Nat.le_refl _) _
      have rW1 := hideIt (HR.out.alloc (.cells #[.int .i64 (nodeAt vs k).kind, .int .i64 (nodeAt vs k).n, .string (nodeAt vs k).s, .slice aK (nodeAt vs k).keys.length cK, .slice aI (nodeAt vs k).kids.length cI] 37))
      generalize (W0.alloc (.cells #[.int .i64 (nodeAt vs k).kind, .int .i64 (nodeAt vs k).n, .string (nodeAt vs k).s, .slice aK (nodeAt vs k).keys.length cK, .slice aI (nodeAt vs k).kids.length cI] 37)) = W1 at *
      have HsW := hideIt sW1
      have hW1gt : W0.heap.size < W1.heap.size := by omega
      have HX := hideIt (And.intro x0 (And.intro x1 (And.intro x2 x3)))
      have hsub : Below w.heap.size w W1 := hbel.trans (bW1.mono hsize)
      clear sW1 x0 x1 x2 x3 c0 c1 c2 c3 c4
      go_loopw [6, 22] (fun it i wr => ∃ c : Nat, c ≤ (nodeAt vs k).kids.length ∧ i = .int .i64 c ∧ wr.ownsRow W1.heap.size 59 1 it c ((List.range c).map fun j => VV (intAt (nodeAt vs k).kids j).toNat) ∧ Below W1.heap.size W1 wr) (fun _ i _ => (nodeAt vs k).kids.length - (intOf i).toNat)
      case atStart => exact ⟨0, Nat.zero_le _, rfl, World.ownsRow_nil _ _ _ _, Below.refl _ _⟩
      case round =>
        obtain ⟨c, hcl, rfl, hown, hb2⟩ := hrel
        by_cases hcc : c < (nodeAt vs k).kids.length
        · obtain ⟨b1, o1, rfl, hb1', hkc1⟩ := hkc (by omega)
          have hkr := kidsIn_get (HOK.out k hlt).2 hcc
          obtain ⟨q, hq⟩ : ∃ q : Nat, intAt (nodeAt vs k).kids c = (q : Int) := ⟨(intAt (nodeAt vs k).kids c).toNat, by omega⟩
          have hqk : q < k := by omega
          have hck : wr.cell? ⟨b1, o1 + c, none⟩ = some (.int .i64 (q : Int)) := by
            rw [← hq]; exact (below_cell hb2 (by omega)).trans ((below_cell bW1 (by omega)).trans (hkc1 c hcc))
          obtain ⟨tq, xq, hvq⟩ := (HA.out q hqk).iface
          have hcq : wr.cell? ⟨w.heap.size, q, none⟩ = some (.iface tq xq) := by
            refine (below_cell hb2 (by omega)).trans ?_
            rw [rW1.out.cell (by omega), fillI, if_pos hqk, hvq]
          have hqN : (q : Int) < (vs.length : Int) := by omega
          have HQ : Hid ((List.range (c + 1)).map (fun j => VV (intAt (nodeAt vs k).kids j).toNat) = (List.range c).map (fun j => VV (intAt (nodeAt vs k).kids j).toNat) ++ [.iface tq xq]) := by
            rw [Hid, List.range_succ, List.map_append]
            simp [hq, hvq]
          have hb2s := hb2.size
          have HB2 := hideIt hb2
          have h80 : (nodeAt vs k).kids.length ≤ 80 := by have := hkn k hlt; omega
          clear hkc hkc1 hq hkr hvq
          go_wp2_with (at_builtin; refine wpList_append_own _ rfl _ _ 71 rfl W1.heap.size 59 i0 .nilIface 1 16 Tryz.underlying71 hi hz0 hz1 hz2 rfl (by decide) _ _ _ rfl (hown.alloc _) ⟨wr.heap.size, 0, none⟩ 1 1 [.iface tq xq] rfl rfl ?c1 ?c2 ?c3 ?c4 ?c5 ?_)
          case c1 =>
            intro j u hj
            match j, hj with
            | 0, hj => simp at hj; subst hj; simp [Addr.add]
          case c2 => intro u hu; simp at hu; subst hu; rfl
          case c3 => unfold maxLen; omega
          case c4 => omega
          case c5 => simp; omega
          intro v' w3 hown' hgrow _
          have hb3 : Below W1.heap.size W1 w3 := (HB2.out.alloc hb2s _).grown hgrow (by simp; omega) (fun r hr => by
            rcases hown.2 with ⟨rfl, _⟩ | ⟨g, cp, cu, rfl, hbg, _⟩
            · simp [Value.ownBlock] at hr
            · simp [Value.ownBlock] at hr; omega)
          rw [← HQ.out] at hown'
          clear hgrow hown
          go_wp2_with fail
          go_roundw
          case rel => exact ⟨c + 1, by omega, by go_num, hown', hb3⟩
          case measure => simp [intOf]; omega
        · obtain rfl : c = (nodeAt vs k).kids.length := by omega
          have hb2s := hb2.size
          have hIt := hideIt (items_of_own (lo := w.heap.size) (P := fun j u => ValIs w.heap.size wr.heap.size wr vs k (intAt (nodeAt vs k).kids j).toNat u) hown (by omega) (fun j hj => by
            have hkr := kidsIn_get (HOK.out k hlt).2 hj
            obtain ⟨t, x, e⟩ := (HA.out (intAt (nodeAt vs k).kids j).toNat (by omega)).iface
            refine ⟨t, x, e, ?_⟩
            rw [← e]
            exact ValIs.more (by omega) (ValIs.keep ((Keep.of_below (bW1)).trans (Keep.of_below (hb2.mono (by omega)))) (by omega) (by omega) (HA.out _ (by omega)))))
          have hitv := hIt.out
          obtain ⟨ait, cpt, rfl, _⟩ := hitv
          have y0 : wr.cell? ⟨W0.heap.size, 0, none⟩ = some (.int .i64 (nodeAt vs k).kind) := (below_cell hb2 (by omega)).trans HX.out.1
          have y1 : wr.cell? ⟨W0.heap.size, 1, none⟩ = some (.int .i64 (nodeAt vs k).n) := (below_cell hb2 (by omega)).trans HX.out.2.1
          have y2 : wr.cell? ⟨W0.heap.size, 2, none⟩ = some (.string (nodeAt vs k).s) := (below_cell hb2 (by omega)).trans HX.out.2.2.1
          have y3 : wr.cell? ⟨W0.heap.size, 3, none⟩ = some (.slice aK (nodeAt vs k).keys.length cK) := (below_cell hb2 (by omega)).trans HX.out.2.2.2
          have rwr := rowIs_below rW1.out hb2 (by omega)
          have z0 := rwr.cell hlt
          have z1 := rwr.frozen k
          have HRW := hideIt rwr
          have HKE : Hid (Keep w.heap.size W0.heap.size W0 wr) := (Keep.of_below (bW1)).trans (Keep.of_below (hb2.mono (by omega)))
          have HBE : Hid (Below w.heap.size w wr) := hsub.trans (hb2.mono (by omega))
          have hszz : W0.heap.size ≤ wr.heap.size := by omega
          have HKY : Hid (StrsAt w.heap.size wr (.slice aK (nodeAt vs k).keys.length cK) (nodeAt vs k).keys) := (HK.out.wide hB).below HBE.out
          have HNB := hideIt (HOK.out k hlt).1
          clear hown rwr
          by_cases g2 : (nodeAt vs k).kind = 2
          · have S := valStep (u := .iface 97 (.agg #[.int .i64 (nodeAt vs k).n])) HRW.out HA.out HKE.out hszz hlt0 HBE.out (Or.inr (Or.inl ⟨g2, rfl⟩))
            have HS := hideIt S
            clear S
            go_wp2_with fail
            go_roundw
            case rel => exact ⟨k + 1, _, by omega, by go_num, HS.out.1, HS.out.2.1, HS.out.2.2⟩
            case measure => simp [intOf]; omega
          by_cases g3 : (nodeAt vs k).kind = 3
          · have S := valStep (u := .iface 69 (.agg #[.int .i64 (nodeAt vs k).n])) HRW.out HA.out HKE.out hszz hlt0 HBE.out (Or.inr (Or.inr (Or.inl ⟨g3, rfl⟩)))
            have HS := hideIt S
            clear S g2
            go_wp2_with fail
            go_roundw
            case rel => exact ⟨k + 1, _, by omega, by go_num, HS.out.1, HS.out.2.1, HS.out.2.2⟩
            case measure => simp [intOf]; omega
          by_cases g4 : (nodeAt vs k).kind = 4
          · have S := valStep (u := .iface 99 (.agg #[.string (nodeAt vs k).s])) HRW.out HA.out HKE.out hszz hlt0 HBE.out (Or.inr (Or.inr (Or.inr (Or.inl ⟨g4, rfl⟩))))
            have HS := hideIt S
            clear S g2 g3
            go_wp2_with fail
            go_roundw
            case rel => exact ⟨k + 1, _, by omega, by go_num, HS.out.1, HS.out.2.1, HS.out.2.2⟩
            case measure => simp [intOf]; omega
          by_cases g5 : (nodeAt vs k).kind = 5
          · have S := valStep (u := .iface 73 (.agg #[.slice ait (nodeAt vs k).kids.length cpt])) HRW.out HA.out HKE.out hszz hlt0 HBE.out (Or.inr (Or.inr (Or.inr (Or.inr (Or.inl ⟨g5, _, rfl, hIt.out⟩)))))
            have HS := hideIt S
            clear S g2 g3 g4
            go_wp2_with fail
            go_roundw
            case rel => exact ⟨k + 1, _, by omega, by go_num, HS.out.1, HS.out.2.1, HS.out.2.2⟩
            case measure => simp [intOf]; omega
          by_cases g6 : (nodeAt vs k).kind = 6
          · have S := valStep (u := .iface 101 (.agg #[.slice aK (nodeAt vs k).keys.length cK, .slice ait (nodeAt vs k).kids.length cpt])) HRW.out HA.out HKE.out hszz hlt0 HBE.out (Or.inr (Or.inr (Or.inr (Or.inr (Or.inr ⟨g6, _, _, rfl, HKY.out, hIt.out⟩)))))
            have HS := hideIt S
            clear S g2 g3 g4 g5
            go_wp2_with fail
            go_roundw
            case rel => exact ⟨k + 1, _, by omega, by go_num, HS.out.1, HS.out.2.1, HS.out.2.2⟩
            case measure => simp [intOf]; omega
          · have g1 : (nodeAt vs k).kind = 1 := by
              have := HNB.out
              unfold nodeB namedB at this
              by_cases e1 : (nodeAt vs k).kind = 1
              · exact e1
              · simp [e1, g2, g3, g4, g5, g6] at this
            have S := valStep (u := .iface 103 (.agg #[])) HRW.out HA.out HKE.out hszz hlt0 HBE.out (Or.inl ⟨g1, rfl⟩)
            have HS := hideIt S
            clear S g2 g3 g4 g5 g6
            go_wp2_with fail
            go_roundw
            case rel => exact ⟨k + 1, _, by omega, by go_num, HS.out.1, HS.out.2.1, HS.out.2.2⟩
            case measure => simp [intOf]; omega
    · obtain rfl : k = vs.length := by omega
      go_wp2_with fail
      go_ret
      exact ⟨VV, rfl, hrow.congr fun i hi => by simp [fillI, hi], HA.out, hbel⟩
end Go.Proofs.YtgmnihofkpjboaaGreatDoor
