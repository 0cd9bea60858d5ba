/-
  impl.valuesAt: the values of all nodes.
-/
import Derived.Test.YtpakfgonemiebaaTree
import Derived.Test.YtpakfgonemiebaaFind
namespace Go.Proofs.Ytpakfgonemiebaa
open Go.RowKit
set_option linter.unusedSimpArgs false
set_option linter.unusedVariables false

/-- One more value is laid. -/
theorem valStep {s N k : Nat} {w W0 W : World} {vs : List VN} {VV : Nat → Value} {u : Value} (hrow : W.rowIs s 62 N (fillI VV k)) (hall : ∀ j, j < k → ValIs s W0.heap.size W0 vs (j + 1) j (VV j)) (hk : Keep s W0.heap.size W0 W) (hsz : W0.heap.size ≤ W.heap.size) (hs : s < W0.heap.size) (hb : Below s w W)
    (hv : ValIs s W.heap.size W vs (k + 1) k u) :
    (W.setCell ⟨s, k, none⟩ u).rowIs s 62 N (fillI (fun j => if j = k then u else VV j) (k + 1)) ∧ (∀ j, j < k + 1 → ValIs s (W.setCell ⟨s, k, none⟩ u).heap.size (W.setCell ⟨s, k, none⟩ u) vs (j + 1) j (if j = k then u else VV j)) ∧ Below s w (W.setCell ⟨s, k, none⟩ u) := by
  have hsz2 : (W.setCell ⟨s, k, none⟩ u).heap.size = W.heap.size := World.size_setCell _ _ _
  refine ⟨fillI_step hrow, fun j hj => ?_, hb.setCell (Nat.le_refl _) _⟩
  by_cases e : j = k
  · subst e
    rw [if_pos rfl]
    exact ValIs.keep (Keep.setCell W u) (by omega) (by omega) hv
  · rw [if_neg e]
    exact ValIs.keep (hk.trans (Keep.setCell W u)) (by omega) (by omega) (hall j (by omega))

set_option maxRecDepth 100000 in
set_option maxHeartbeats 6400000 in
theorem valuesAt_any (B : Nat) (v : Value) (vs : List VN) (w : World) (h : NodesAt B w v vs) (hB : B ≤ w.heap.size) (hn1 : 1 ≤ vs.length) (hn80 : vs.length ≤ 80) (hok : ∀ k, k < vs.length → nodeB (nodeAt vs k) = true ∧ kidsIn vs k = true) (hkn : ∀ k, k < vs.length → (nodeAt vs k).kids.length ≤ k) :
    Calls Try.prog 78 #[v] w fun e w' => ∃ VV : Nat → Value, e = .returned (.slice (some ⟨w.heap.size, 0, none⟩) vs.length vs.length) ∧
      w'.rowIs w.heap.size 62 vs.length VV ∧ (∀ j, j < vs.length → ValIs w.heap.size w'.heap.size w' vs (j + 1) j (VV j)) ∧ Below w.heap.size w w' := by
  obtain ⟨hlen, a, cap, rfl, hcell⟩ := h
  obtain ⟨b0, o0, rfl, hb0, hc⟩ := hcell (by omega)
  clear hcell
  have HOK := hideIt hok
  have HC := hideIt hc
  clear hok hc
  have hmk := run_make_row' (P := Try.prog) 84 62 .nilIface 16 Try.underlying84 infoVal rfl .i64 .i64 vs.length (by omega) (by omega)
  obtain ⟨i0, hi, hz0, hz1, hz2⟩ := info_parts infoVal
  go_enter Try.func78, Try.ntmps78
  go_wp2_with fail
  clear hmk
  have hr0 : (w.alloc (.cells (madeCells #[Value.nilIface] vs.length) 62)).rowIs w.heap.size 62 vs.length (fillI (fun _ => undef) 0) := (World.rowIs_made w _ _ _).congr fun i _ => by simp [fillI]
  have hbz : Below w.heap.size w (w.alloc (.cells (madeCells #[Value.nilIface] vs.length) 62)) := (Below.refl _ _).alloc (Nat.le_refl _) _
  go_loopw [14] (fun i wr => ∃ (k : Nat) (VV : Nat → Value), k ≤ vs.length ∧ i = .int .i64 k ∧ wr.rowIs w.heap.size 62 vs.length (fillI VV k) ∧ (∀ j, j < k → ValIs w.heap.size wr.heap.size wr vs (j + 1) j (VV j)) ∧ Below w.heap.size w wr) (fun i _ => vs.length - (intOf i).toNat)
  case atStart => exact ⟨0, _, Nat.zero_le _, rfl, hr0, fun j hj => by omega, hbz⟩
  case round =>
    obtain ⟨k, VV, hk, rfl, hrow, hall, hbel⟩ := hrel
    obtain ⟨W0, rfl⟩ : ∃ W0, W0 = wr := ⟨_, rfl⟩
    have HA := hideIt hall
    clear hall hr0 hbz
    by_cases hlt : k < vs.length
    · obtain ⟨ka, ki, hn⟩ := HC.out k hlt
      have hn' := hn.below (hbel.mono hB) hb0
      have c0 := hn'.c0
      have c1 := hn'.c1
      have c2 := hn'.c2
      have c3 := hn'.c3
      have c4 := hn'.c4
      have hsize := hbel.size
      have hlt0 := hrow.lt
      have HK := hideIt hn.inn.keys
      obtain ⟨_, _, aK, cK, eK, _⟩ := hn'.inn.keys
      obtain ⟨hkl, hkb, aI, cI, eI, hkc⟩ := hn'.inn.kids
      subst eK eI
      have HR := hideIt hrow
      clear hn hn' hrow
      go_wp2_with fail
      have x0 : (W0.alloc (.cells #[.int .i64 (nodeAt vs k).kind, .int .i64 (nodeAt vs k).n, .string (nodeAt vs k).s, .slice aK (nodeAt vs k).keys.length cK, .slice aI (nodeAt vs k).kids.length cI] 78)).cell? ⟨W0.heap.size, 0, none⟩ = some (.int .i64 (nodeAt vs k).kind) := by simp
      have x1 : (W0.alloc (.cells #[.int .i64 (nodeAt vs k).kind, .int .i64 (nodeAt vs k).n, .string (nodeAt vs k).s, .slice aK (nodeAt vs k).keys.length cK, .slice aI (nodeAt vs k).kids.length cI] 78)).cell? ⟨W0.heap.size, 1, none⟩ = some (.int .i64 (nodeAt vs k).n) := by simp
      have x2 : (W0.alloc (.cells #[.int .i64 (nodeAt vs k).kind, .int .i64 (nodeAt vs k).n, .string (nodeAt vs k).s, .slice aK (nodeAt vs k).keys.length cK, .slice aI (nodeAt vs k).kids.length cI] 78)).cell? ⟨W0.heap.size, 2, none⟩ = some (.string (nodeAt vs k).s) := by simp
      have x3 : (W0.alloc (.cells #[.int .i64 (nodeAt vs k).kind, .int .i64 (nodeAt vs k).n, .string (nodeAt vs k).s, .slice aK (nodeAt vs k).keys.length cK, .slice aI (nodeAt vs k).kids.length cI] 78)).cell? ⟨W0.heap.size, 3, none⟩ = some (.slice aK (nodeAt vs k).keys.length cK) := by simp
      have sW1 : (W0.alloc (.cells #[.int .i64 (nodeAt vs k).kind, .int .i64 (nodeAt vs k).n, .string (nodeAt vs k).s, .slice aK (nodeAt vs k).keys.length cK, .slice aI (nodeAt vs k).kids.length cI] 78)).heap.size = W0.heap.size + 1 := by simp
      have bW1 : Below W0.heap.size W0 (W0.alloc (.cells #[.int .i64 (nodeAt vs k).kind, .int .i64 (nodeAt vs k).n, .string (nodeAt vs k).s, .slice aK (nodeAt vs k).keys.length cK, .slice aI (nodeAt vs k).kids.length cI] 78)) := (Below.refl _ _).alloc (Nat.le_refl _) _
      have rW1 := hideIt (HR.out.alloc (.cells #[.int .i64 (nodeAt vs k).kind, .int .i64 (nodeAt vs k).n, .string (nodeAt vs k).s, .slice aK (nodeAt vs k).keys.length cK, .slice aI (nodeAt vs k).kids.length cI] 78))
      generalize (W0.alloc (.cells #[.int .i64 (nodeAt vs k).kind, .int .i64 (nodeAt vs k).n, .string (nodeAt vs k).s, .slice aK (nodeAt vs k).keys.length cK, .slice aI (nodeAt vs k).kids.length cI] 78)) = W1 at *
      have HsW := hideIt sW1
      have hW1gt : W0.heap.size < W1.heap.size := by omega
      have HX := hideIt (And.intro x0 (And.intro x1 (And.intro x2 x3)))
      have hsub : Below w.heap.size w W1 := hbel.trans (bW1.mono hsize)
      clear sW1 x0 x1 x2 x3 c0 c1 c2 c3 c4
      go_loopw [6, 22] (fun it i wr => ∃ c : Nat, c ≤ (nodeAt vs k).kids.length ∧ i = .int .i64 c ∧ wr.ownsRow W1.heap.size 62 1 it c ((List.range c).map fun j => VV (intAt (nodeAt vs k).kids j).toNat) ∧ Below W1.heap.size W1 wr) (fun _ i _ => (nodeAt vs k).kids.length - (intOf i).toNat)
      case atStart => exact ⟨0, Nat.zero_le _, rfl, World.ownsRow_nil _ _ _ _, Below.refl _ _⟩
      case round =>
        obtain ⟨c, hcl, rfl, hown, hb2⟩ := hrel
        by_cases hcc : c < (nodeAt vs k).kids.length
        · obtain ⟨b1, o1, rfl, hb1', hkc1⟩ := hkc (by omega)
          have hkr := kidsIn_get (HOK.out k hlt).2 hcc
          obtain ⟨q, hq⟩ : ∃ q : Nat, intAt (nodeAt vs k).kids c = (q : Int) := ⟨(intAt (nodeAt vs k).kids c).toNat, by omega⟩
          have hqk : q < k := by omega
          have hck : wr.cell? ⟨b1, o1 + c, none⟩ = some (.int .i64 (q : Int)) := by
            rw [← hq]; exact (below_cell hb2 (by omega)).trans ((below_cell bW1 (by omega)).trans (hkc1 c hcc))
          obtain ⟨tq, xq, hvq⟩ := (HA.out q hqk).iface
          have hcq : wr.cell? ⟨w.heap.size, q, none⟩ = some (.iface tq xq) := by
            refine (below_cell hb2 (by omega)).trans ?_
            rw [rW1.out.cell (by omega), fillI, if_pos hqk, hvq]
          have hqN : (q : Int) < (vs.length : Int) := by omega
          have HQ : Hid ((List.range (c + 1)).map (fun j => VV (intAt (nodeAt vs k).kids j).toNat) = (List.range c).map (fun j => VV (intAt (nodeAt vs k).kids j).toNat) ++ [.iface tq xq]) := by
            rw [Hid, List.range_succ, List.map_append]
            simp [hq, hvq]
          have hb2s := hb2.size
          have HB2 := hideIt hb2
          have h80 : (nodeAt vs k).kids.length ≤ 80 := by have := hkn k hlt; omega
          clear hkc hkc1 hq hkr hvq
          go_wp2_with (at_builtin; refine wpList_append_own _ rfl _ _ 84 rfl W1.heap.size 62 i0 .nilIface 1 16 Try.underlying84 hi hz0 hz1 hz2 rfl (by decide) _ _ _ rfl (hown.alloc _) ⟨wr.heap.size, 0, none⟩ 1 1 [.iface tq xq] rfl rfl ?c1 ?c2 ?c3 ?c4 ?c5 ?_)
          case c1 =>
            intro j u hj
            match j, hj with
            | 0, hj => simp at hj; subst hj; simp [Addr.add]
          case c2 => intro u hu; simp at hu; subst hu; rfl
          case c3 => unfold maxLen; omega
          case c4 => omega
          case c5 => simp; omega
          intro v' w3 hown' hgrow _
          have hb3 : Below W1.heap.size W1 w3 := (HB2.out.alloc hb2s _).grown hgrow (by simp; omega) (fun r hr => by
            rcases hown.2 with ⟨rfl, _⟩ | ⟨g, cp, cu, rfl, hbg, _⟩
            · simp [Value.ownBlock] at hr
            · simp [Value.ownBlock] at hr; omega)
          rw [← HQ.out] at hown'
          clear hgrow hown
          go_wp2_with fail
          go_roundw
          case rel => exact ⟨c + 1, by omega, by go_num, hown', hb3⟩
          case measure => simp [intOf]; omega
        · obtain rfl : c = (nodeAt vs k).kids.length := by omega
          have hb2s := hb2.size
          have hIt := hideIt (items_of_own (lo := w.heap.size) (P := fun j u => ValIs w.heap.size wr.heap.size wr vs k (intAt (nodeAt vs k).kids j).toNat u) hown (by omega) (fun j hj => by
            have hkr := kidsIn_get (HOK.out k hlt).2 hj
            obtain ⟨t, x, e⟩ := (HA.out (intAt (nodeAt vs k).kids j).toNat (by omega)).iface
            refine ⟨t, x, e, ?_⟩
            rw [← e]
            exact ValIs.more (by omega) (ValIs.keep ((Keep.of_below (bW1)).trans (Keep.of_below (hb2.mono (by omega)))) (by omega) (by omega) (HA.out _ (by omega)))))
          have hitv := hIt.out
          obtain ⟨ait, cpt, rfl, _⟩ := hitv
          have y0 : wr.cell? ⟨W0.heap.size, 0, none⟩ = some (.int .i64 (nodeAt vs k).kind) := (below_cell hb2 (by omega)).trans HX.out.1
          have y1 : wr.cell? ⟨W0.heap.size, 1, none⟩ = some (.int .i64 (nodeAt vs k).n) := (below_cell hb2 (by omega)).trans HX.out.2.1
          have y2 : wr.cell? ⟨W0.heap.size, 2, none⟩ = some (.string (nodeAt vs k).s) := (below_cell hb2 (by omega)).trans HX.out.2.2.1
          have y3 : wr.cell? ⟨W0.heap.size, 3, none⟩ = some (.slice aK (nodeAt vs k).keys.length cK) := (below_cell hb2 (by omega)).trans HX.out.2.2.2
          have rwr := rowIs_below rW1.out hb2 (by omega)
          have z0 := rwr.cell hlt
          have z1 := rwr.frozen k
          have HRW := hideIt rwr
          have HKE : Hid (Keep w.heap.size W0.heap.size W0 wr) := (Keep.of_below (bW1)).trans (Keep.of_below (hb2.mono (by omega)))
          have HBE : Hid (Below w.heap.size w wr) := hsub.trans (hb2.mono (by omega))
          have hszz : W0.heap.size ≤ wr.heap.size := by omega
          have HKY : Hid (StrsAt w.heap.size wr (.slice aK (nodeAt vs k).keys.length cK) (nodeAt vs k).keys) := (HK.out.wide hB).below HBE.out
          have HNB := hideIt (HOK.out k hlt).1
          clear hown rwr
          by_cases g2 : (nodeAt vs k).kind = 2
          · have S := valStep (u := .iface 140 (.agg #[.int .i64 (nodeAt vs k).n])) HRW.out HA.out HKE.out hszz hlt0 HBE.out (Or.inr (Or.inl ⟨g2, rfl⟩))
            have HS := hideIt S
            clear S
            go_wp2_with fail
            go_roundw
            case rel => exact ⟨k + 1, _, by omega, by go_num, HS.out.1, HS.out.2.1, HS.out.2.2⟩
            case measure => simp [intOf]; omega
          by_cases g3 : (nodeAt vs k).kind = 3
          · have S := valStep (u := .iface 141 (.agg #[.int .i64 (nodeAt vs k).n])) HRW.out HA.out HKE.out hszz hlt0 HBE.out (Or.inr (Or.inr (Or.inl ⟨g3, rfl⟩)))
            have HS := hideIt S
            clear S g2
            go_wp2_with fail
            go_roundw
            case rel => exact ⟨k + 1, _, by omega, by go_num, HS.out.1, HS.out.2.1, HS.out.2.2⟩
            case measure => simp [intOf]; omega
          by_cases g4 : (nodeAt vs k).kind = 4
          · have S := valStep (u := .iface 143 (.agg #[.string (nodeAt vs k).s])) HRW.out HA.out HKE.out hszz hlt0 HBE.out (Or.inr (Or.inr (Or.inr (Or.inl ⟨g4, rfl⟩))))
            have HS := hideIt S
            clear S g2 g3
            go_wp2_with fail
            go_roundw
            case rel => exact ⟨k + 1, _, by omega, by go_num, HS.out.1, HS.out.2.1, HS.out.2.2⟩
            case measure => simp [intOf]; omega
          by_cases g5 : (nodeAt vs k).kind = 5
          · have S := valStep (u := .iface 124 (.agg #[.slice ait (nodeAt vs k).kids.length cpt])) HRW.out HA.out HKE.out hszz hlt0 HBE.out (Or.inr (Or.inr (Or.inr (Or.inr (Or.inl ⟨g5, _, rfl, hIt.out⟩)))))
            have HS := hideIt S
            clear S g2 g3 g4
            go_wp2_with fail
            go_roundw
            case rel => exact ⟨k + 1, _, by omega, by go_num, HS.out.1, HS.out.2.1, HS.out.2.2⟩
            case measure => simp [intOf]; omega
          by_cases g6 : (nodeAt vs k).kind = 6
          · have S := valStep (u := .iface 120 (.agg #[.slice aK (nodeAt vs k).keys.length cK, .slice ait (nodeAt vs k).kids.length cpt])) HRW.out HA.out HKE.out hszz hlt0 HBE.out (Or.inr (Or.inr (Or.inr (Or.inr (Or.inr ⟨g6, _, _, rfl, HKY.out, hIt.out⟩)))))
            have HS := hideIt S
            clear S g2 g3 g4 g5
            go_wp2_with fail
            go_roundw
            case rel => exact ⟨k + 1, _, by omega, by go_num, HS.out.1, HS.out.2.1, HS.out.2.2⟩
            case measure => simp [intOf]; omega
          · have g1 : (nodeAt vs k).kind = 1 := by
              have := HNB.out
              unfold nodeB namedB at this
              by_cases e1 : (nodeAt vs k).kind = 1
              · exact e1
              · simp [e1, g2, g3, g4, g5, g6] at this
            have S := valStep (u := .iface 150 (.agg #[])) HRW.out HA.out HKE.out hszz hlt0 HBE.out (Or.inl ⟨g1, rfl⟩)
            have HS := hideIt S
            clear S g2 g3 g4 g5 g6
            go_wp2_with fail
            go_roundw
            case rel => exact ⟨k + 1, _, by omega, by go_num, HS.out.1, HS.out.2.1, HS.out.2.2⟩
            case measure => simp [intOf]; omega
    · obtain rfl : k = vs.length := by omega
      go_wp2_with fail
      go_ret
      exact ⟨VV, rfl, hrow.congr fun i hi => by simp [fillI, hi], HA.out, hbel⟩
end Go.Proofs.Ytpakfgonemiebaa

/-
  (*impl.treePart).value: the value of a part, built anew.
-/
namespace Go.Proofs.Ytpakfgonemiebaa
open Go.RowKit
set_option linter.unusedSimpArgs false
set_option linter.unusedVariables false

def TKItems (lo B : Nat) (w : World) (it : Value) (n : Nat) (P : Nat → Value → Prop) : Prop :=
  n ≤ 100000 ∧ ∃ a cap, it = .slice a n cap ∧ (0 < n → ∃ b, a = some ⟨b, 0, none⟩ ∧ lo ≤ b ∧ b < B ∧ ∀ j, j < n → ∃ t x, w.cell? ⟨b, j, none⟩ = some (.iface t x) ∧ P j (.iface t x))

/-- The value of a tree; its rows of values lie between the blocks lo and B, its keys below K. -/
def TK (K lo B : Nat) (w : World) : Nat → VT → Value → Prop
  | 0, _, _ => False
  | f + 1, .mk kind n s keys kids, v =>
    (kind = 1 ∧ n = 0 ∧ s = ByteArray.empty ∧ keys = [] ∧ kids = [] ∧ v = .iface 150 (.agg #[])) ∨
    (kind = 2 ∧ s = ByteArray.empty ∧ keys = [] ∧ kids = [] ∧ v = .iface 140 (.agg #[.int .i64 n])) ∨
    (kind = 3 ∧ s = ByteArray.empty ∧ keys = [] ∧ kids = [] ∧ v = .iface 141 (.agg #[.int .i64 n])) ∨
    (kind = 4 ∧ n = 0 ∧ keys = [] ∧ kids = [] ∧ v = .iface 143 (.agg #[.string s])) ∨
    (kind = 5 ∧ n = 0 ∧ s = ByteArray.empty ∧ keys = [] ∧ ∃ it, v = .iface 124 (.agg #[it]) ∧ TKItems lo B w it kids.length (fun j u => TK K lo B w f (kidT kids j) u)) ∨
    (kind = 6 ∧ n = 0 ∧ s = ByteArray.empty ∧ ∃ ks it, v = .iface 120 (.agg #[ks, it]) ∧ StrsAt K w ks keys ∧ TKItems lo B w it kids.length (fun j u => TK K lo B w f (kidT kids j) u))

theorem TK.iface {K lo B : Nat} {w : World} {f : Nat} {t : VT} {v : Value} (h : TK K lo B w f t v) : ∃ ty x, v = .iface ty x := by
  cases f with
  | zero => exact h.elim
  | succ f =>
    obtain ⟨kind, n, s, keys, kids⟩ := t
    rcases h with ⟨_, _, _, _, _, rfl⟩ | ⟨_, _, _, _, rfl⟩ | ⟨_, _, _, _, rfl⟩ | ⟨_, _, _, _, rfl⟩ | ⟨_, _, _, _, it, rfl, _⟩ | ⟨_, _, _, ks, it, rfl, _⟩ <;> exact ⟨_, _, rfl⟩

theorem TK.move {K lo B lo' B' : Nat} {w w' : World} (h1 : ∀ k, k < K → w'.heap[k]? = w.heap[k]?) (h2 : ∀ k, lo ≤ k → k < B → w'.heap[k]? = w.heap[k]?) (hl : lo' ≤ lo) (hB : B ≤ B') : ∀ {f : Nat} {t : VT} {v : Value}, TK K lo B w f t v → TK K lo' B' w' f t v := by
  intro f
  induction f with
  | zero => intro t v h; exact h.elim
  | succ f ih =>
    intro t v h
    obtain ⟨kind, n, s, keys, kids⟩ := t
    have hit : ∀ it, TKItems lo B w it kids.length (fun j u => TK K lo B w f (kidT kids j) u) → TKItems lo' B' w' it kids.length (fun j u => TK K lo' B' w' f (kidT kids j) u) := by
      rintro it ⟨h0, a, cap, e, hx⟩
      refine ⟨h0, a, cap, e, fun hn => ?_⟩
      obtain ⟨b, ea, h3, h4, h5⟩ := hx hn
      refine ⟨b, ea, by omega, by omega, fun j hj => ?_⟩
      obtain ⟨t, x, hc, hv⟩ := h5 j hj
      exact ⟨t, x, (World.cell?_of_block (h2 b h3 h4)).trans hc, ih hv⟩
    rcases h with h | h | h | h | ⟨g1, g2, g3, g4, it, e, hi⟩ | ⟨g1, g2, g3, ks, it, e, hs, hi⟩
    · exact Or.inl h
    · exact Or.inr (Or.inl h)
    · exact Or.inr (Or.inr (Or.inl h))
    · exact Or.inr (Or.inr (Or.inr (Or.inl h)))
    · exact Or.inr (Or.inr (Or.inr (Or.inr (Or.inl ⟨g1, g2, g3, g4, it, e, hit it hi⟩))))
    · exact Or.inr (Or.inr (Or.inr (Or.inr (Or.inr ⟨g1, g2, g3, ks, it, e, hs.keep (lo := K) (B := K) (fun k _ hk' => h1 k hk') (Nat.le_refl _), hit it hi⟩))))

theorem TK.tree {K lo B X : Nat} {w : World} (hK : K ≤ X) (hB : B ≤ X) : ∀ {f : Nat} {t : VT} {v : Value}, TK K lo B w f t v → TreeAt X w f t v := by
  intro f
  induction f with
  | zero => intro t v h; exact h.elim
  | succ f ih =>
    intro t v h
    obtain ⟨kind, n, s, keys, kids⟩ := t
    have hit : ∀ it, TKItems lo B w it kids.length (fun j u => TK K lo B w f (kidT kids j) u) → TItems X w it kids.length (fun j u => TreeAt X w f (kidT kids j) u) := by
      rintro it ⟨h0, a, cap, e, hx⟩
      refine ⟨h0, a, cap, e, fun hn => ?_⟩
      obtain ⟨b, ea, h3, h4, h5⟩ := hx hn
      refine ⟨b, ea, by omega, fun j hj => ?_⟩
      obtain ⟨t, x, hc, hv⟩ := h5 j hj
      exact ⟨t, x, hc, ih hv⟩
    rcases h with h | h | h | h | ⟨g1, g2, g3, g4, it, e, hi⟩ | ⟨g1, g2, g3, ks, it, e, hs, hi⟩
    · exact Or.inl h
    · exact Or.inr (Or.inl h)
    · exact Or.inr (Or.inr (Or.inl h))
    · exact Or.inr (Or.inr (Or.inr (Or.inl h)))
    · exact Or.inr (Or.inr (Or.inr (Or.inr (Or.inl ⟨g1, g2, g3, g4, it, e, hit it hi⟩))))
    · exact Or.inr (Or.inr (Or.inr (Or.inr (Or.inr ⟨g1, g2, g3, ks, it, e, hs.wide hK, hit it hi⟩))))

/-- The first k values of parts: a row of their own, each value between two blocks. -/
structure TVals (K base : Nat) (w : World) (v : Value) (k f : Nat) (T : Nat → VT) (V : Nat → Value) (lo hi : Nat → Nat) : Prop where
  row : w.ownsRow base 62 1 v k ((List.range k).map V)
  is : ∀ j, j < k → TK K (lo j) (hi j) w f (T j) (V j)
  ord : ∀ j, j < k → base ≤ lo j ∧ lo j ≤ hi j ∧ hi j ≤ w.heap.size
  far : ∀ j, j < k → ∀ x, v.ownBlock = some x → x < lo j ∨ hi j ≤ x

theorem TVals.start (K base : Nat) (w : World) (f : Nat) (T : Nat → VT) : TVals K base w (.slice none 0 0) 0 f T (fun _ => undef) (fun _ => 0) (fun _ => 0) :=
  ⟨World.ownsRow_nil _ _ _ _, fun j hj => absurd hj (by omega), fun j hj => absurd hj (by omega), fun j hj => absurd hj (by omega)⟩

theorem TVals.snoc {K base : Nat} {w w1 w5 : World} {v v' x : Value} {k f : Nat} {T : Nat → VT} {V : Nat → Value} {lo hi : Nat → Nat} {o : Obj} (h : TVals K base w v k f T V lo hi) (hK : K ≤ base) (hbase : base ≤ w.heap.size) (hb : Below w.heap.size w w1)
    (hv : TK K w.heap.size w1.heap.size w1 f (T k) x)
    (hown : w5.ownsRow base 62 1 v' (k + 1) ((List.range k).map V ++ [x])) (hg : (w1.alloc o).grownBy w5 v.ownBlock) (hor : v'.ownBlock = v.ownBlock ∨ v'.ownBlock = some (w1.heap.size + 1)) :
    TVals K base w5 v' (k + 1) f T (updF V k x) (updF lo k w.heap.size) (updF hi k w1.heap.size) := by
  have hs := hb.size
  have hgs2 : w1.heap.size + 1 ≤ w5.heap.size := by simpa using hg.size
  have hlt := h.row.lt
  have kp1 : ∀ c, c < w1.heap.size → v.ownBlock ≠ some c → w5.heap[c]? = w1.heap[c]? := fun c h1 h2 =>
    (hg.block c (by simp; omega) (fun e => h2 e.symm)).trans (Below.block ((Below.refl w1.heap.size w1).alloc (Nat.le_refl _) o) c h1)
  have kp : ∀ c, c < w.heap.size → v.ownBlock ≠ some c → w5.heap[c]? = w.heap[c]? := fun c h1 h2 => (kp1 c (by omega) h2).trans (hb.block c h1)
  refine ⟨by rw [range_map_snoc]; exact hown, fun j hj => ?_, fun j hj => ?_, fun j hj y hy => ?_⟩
  · by_cases e : j = k
    · subst e
      rw [updF_same, updF_same, updF_same]
      exact hv.move (fun c hc => kp1 c (by omega) (fun e => by have := hlt c e; omega)) (fun c h3 h4 => kp1 c h4 (fun e => by have := hlt c e; omega)) (Nat.le_refl _) (Nat.le_refl _)
    · rw [updF_other _ _ e, updF_other _ _ e, updF_other _ _ e]
      have ho := h.ord j (by omega)
      exact (h.is j (by omega)).move (fun c hc => kp c (by omega) (fun e => by have := hlt c e; omega)) (fun c h3 h4 => kp c (by omega) (fun e => by have := h.far j (by omega) c e; omega)) (Nat.le_refl _) (Nat.le_refl _)
  · by_cases e : j = k
    · subst e
      rw [updF_same, updF_same]
      omega
    · rw [updF_other _ _ e, updF_other _ _ e]
      have ho := h.ord j (by omega)
      omega
  · rcases hor with e2 | e2
    · rw [e2] at hy
      have h3 := hlt y hy
      by_cases e : j = k
      · subst e
        rw [updF_same, updF_same]
        omega
      · rw [updF_other _ _ e, updF_other _ _ e]
        exact h.far j (by omega) y hy
    · rw [e2] at hy
      have h3 : w1.heap.size + 1 = y := by simpa using hy
      by_cases e : j = k
      · subst e
        rw [updF_same, updF_same]
        omega
      · rw [updF_other _ _ e, updF_other _ _ e]
        have ho := h.ord j (by omega)
        omega

theorem TVals.items {K base : Nat} {w : World} {v : Value} {m f : Nat} {T : Nat → VT} {V : Nat → Value} {lo hi : Nat → Nat} (h : TVals K base w v m f T V lo hi) (hm : m ≤ 100000) :
    TKItems base w.heap.size w v m (fun j u => TK K base w.heap.size w f (T j) u) := by
  obtain ⟨a, c, e⟩ := own_slice h.row
  subst e
  refine ⟨hm, a, c, rfl, fun hp => ?_⟩
  obtain ⟨g, cap, e, hge, hlt⟩ := h.row.form hp
  cases e
  refine ⟨g, rfl, hge, hlt, fun j hj => ?_⟩
  obtain ⟨t, x, hx⟩ := (h.is j hj).iface
  have ho := h.ord j hj
  refine ⟨t, x, by rw [h.row.cellAt j (by omega)]; simp [hj, hx], ?_⟩
  rw [← hx]
  exact (h.is j hj).move (fun _ _ => rfl) (fun _ _ _ => rfl) ho.1 ho.2.2

theorem PT.ptr {B : Nat} {w : World} {f : Nat} {t : VT} {lo hi : Nat} {v : Value} (h : PT B w f t lo hi v) : ∃ p, v = .pointer (some ⟨p, 0, none⟩) := by
  cases f with
  | zero => exact h.elim
  | succ f =>
    obtain ⟨kind, n, s, keys, kids⟩ := t
    obtain ⟨_, p, _, _, _, _, _, e, _⟩ := h
    exact ⟨p, e⟩

/-- What value answers, at every tree of that height. -/
def Values (B K f : Nat) : Prop :=
  ∀ (t : VT) (lo hi : Nat) (v : Value) (w : World), PT B w f t lo hi v → hi ≤ K → B ≤ K → K ≤ w.heap.size →
    Calls Try.prog 41 #[v] w fun e w' => ∃ ty x, e = .returned (.iface ty x) ∧ TK K w.heap.size w'.heap.size w' f t (.iface ty x) ∧ Below w.heap.size w w'

set_option maxRecDepth 100000 in
set_option maxHeartbeats 6400000 in
theorem value_any (B K : Nat) : ∀ f, Values B K f := by
  intro f
  induction f with
  | zero => intro t lo hi v w h; exact h.elim
  | succ f ih =>
    intro t lo hi v w h hh hBK hK
    obtain ⟨kind, n, s, keys, kids⟩ := t
    obtain ⟨sv, p, ks, it, ps, ls, hs, rfl, ht, hp⟩ := h
    have hkn : kids.length ≤ 100000 := by
      rcases ht with ⟨_, _, _, _, rfl, _⟩ | ⟨_, _, _, rfl, _⟩ | ⟨_, _, _, rfl, _⟩ | ⟨_, _, _, rfl, _⟩ | ⟨_, _, _, _, _, _, hi⟩ | ⟨_, _, _, _, _, _, _, hi⟩
      · simp
      · simp
      · simp
      · simp
      · exact hi.1
      · exact hi.1
    obtain ⟨M, hM2⟩ : ∃ M, kids.length = M := ⟨_, rfl⟩
    have HM := hideIt hM2
    rw [hM2] at hkn hp
    clear hM2
    have HP := hideIt hp
    have HT := hideIt ht
    have hpl := (hp.lt (Or.inl rfl)).2
    have c2 : w.cell? ⟨p, 2, none⟩ = some it := by rw [hp.node.cellAt 2 (by omega)]; rfl
    obtain ⟨ai, ci, eit⟩ := own_slice hp.kidsR
    subst eit
    clear hp ht
    obtain ⟨i0, hi0, hz0, hs0, hy0⟩ := info_parts infoVal
    go_enter Try.func41, Try.ntmps41
    go_wp2_with fail
    go_loopw [3, 11] (fun o i wr => ∃ (k : Nat) (V : Nat → Value) (l h : Nat → Nat), k ≤ M ∧ i = .int .i64 k ∧ TVals K w.heap.size wr o k f (kidT kids) V l h ∧ Below w.heap.size w wr) (fun _ i _ => M - (intOf i).toNat)
    case atStart => exact ⟨0, _, _, _, Nat.zero_le _, rfl, TVals.start _ _ _ _ _, Below.refl _ _⟩
    case round =>
      obtain ⟨k, V, l, h, hk, rfl, hvals, hbl⟩ := hrel
      have HV := hideIt hvals
      have zs := hbl.size
      obtain ⟨ao, co, eo⟩ := own_slice hvals.row
      subst eo
      clear hvals
      by_cases hlt : k < M
      · obtain ⟨gi, capi, ei, _, hgl⟩ := HP.out.kidsR.form (by omega)
        cases ei
        have d3 : wr.cell? ⟨gi, k, none⟩ = some (ps k) := (below_cell hbl hgl).trans (by rw [HP.out.kidsR.cellAt k (by omega)]; simp [hlt])
        have hkid := HP.out.kid k hlt
        have hrng := HP.out.rng k hlt
        have HKD := hideIt (hkid.move (w' := wr) (fun c hc => hbl.block c (by omega)) (Nat.le_refl _) (Nat.le_refl _) (fun c _ hc => hbl.block c (by omega)))
        obtain ⟨p2, ep2⟩ := hkid.ptr
        rw [ep2] at d3 HKD
        clear hkid ep2
        go_wp2_with fail
        refine (ih (kidT kids k) (ls k) (hs k) _ _ HKD.out (by omega) hBK (by omega)).mono ?_
        rintro e w1 ⟨ty, x, rfl, htk, hb1⟩
        have z1 := hb1.size
        have HTK := hideIt htk
        have HB1 := hideIt hb1
        have HROW := hideIt (own_below HV.out.row hb1 (fun x hx => (HV.out.row.lt x hx).2))
        clear htk hb1
        go_wp2_with (at_builtin; refine wpList_append_own_at _ rfl _ _ 84 rfl w.heap.size 62 i0 .nilIface 1 16 Try.underlying84 hi0 hz0 hs0 hy0 rfl (by decide) _ _ _ rfl (HROW.out.alloc _) ⟨w1.heap.size, 0, none⟩ 1 1 [.iface ty x] rfl rfl ?c1 ?c2 ?c3 ?c4 ?c5 ?_)
        case c1 => exact cell_one_new _ _ _
        case c2 => intro u hu; simp at hu; subst hu; rfl
        case c3 => unfold maxLen; omega
        case c4 => omega
        case c5 => simp; omega
        intro v' w5 hown hgrow _ hor
        have HV5 := hideIt (HV.out.snoc hK zs HB1.out HTK.out hown hgrow hor)
        have HB5 : Hid (Below w.heap.size w w5) := ((hbl.trans (HB1.out.mono zs)).alloc (by omega) _).grown hgrow (by simp; omega) (fun x hx => (HROW.out.lt x hx).1)
        clear hown hgrow hor
        go_wp2_with fail
        go_roundw
        case rel => exact ⟨k + 1, _, _, _, by omega, by go_num, HV5.out, HB5.out⟩
        case measure => simp [intOf]; omega
      · obtain rfl : k = M := by omega
        have c0 : wr.cell? ⟨p, 0, none⟩ = some sv := (below_cell hbl hpl).trans (by rw [HP.out.node.cellAt 0 (by omega)]; rfl)
        have c1 : wr.cell? ⟨p, 1, none⟩ = some ks := (below_cell hbl hpl).trans (by rw [HP.out.node.cellAt 1 (by omega)]; rfl)
        have HITS := hideIt (HV.out.items hkn)
        have ht := HT.out
        clear HT c2
        rcases ht with ⟨rfl, rfl, rfl, rfl, rfl, rfl⟩ | ⟨rfl, rfl, rfl, rfl, rfl⟩ | ⟨rfl, rfl, rfl, rfl, rfl⟩ | ⟨rfl, rfl, rfl, rfl, rfl⟩ | ⟨rfl, rfl, rfl, rfl, itv, rfl, hi⟩ | ⟨rfl, rfl, rfl, kv, itv, rfl, hs6, hi⟩
        · have t1 := taf_null_list (.agg #[])
          have t2 := ta_null_map (.agg #[])
          go_wp2_with fail
          go_ret
          exact ⟨_, _, rfl, Or.inl ⟨rfl, rfl, rfl, rfl, rfl, rfl⟩, hbl⟩
        · have t1 := taf_bool_list (.agg #[.int .i64 n])
          have t2 := ta_bool_map (.agg #[.int .i64 n])
          go_wp2_with fail
          go_ret
          exact ⟨_, _, rfl, Or.inr (Or.inl ⟨rfl, rfl, rfl, rfl, rfl⟩), hbl⟩
        · have t1 := taf_int_list (.agg #[.int .i64 n])
          have t2 := ta_int_map (.agg #[.int .i64 n])
          go_wp2_with fail
          go_ret
          exact ⟨_, _, rfl, Or.inr (Or.inr (Or.inl ⟨rfl, rfl, rfl, rfl, rfl⟩)), hbl⟩
        · have t1 := taf_text_list (.agg #[.string s])
          have t2 := ta_text_map (.agg #[.string s])
          go_wp2_with fail
          go_ret
          exact ⟨_, _, rfl, Or.inr (Or.inr (Or.inr (Or.inl ⟨rfl, rfl, rfl, rfl, rfl⟩))), hbl⟩
        · have t1 := taf_list_list (.agg #[itv])
          have t2 := ta_list_map (.agg #[itv])
          clear hi
          go_wp2_with fail
          go_ret
          exact ⟨_, _, rfl, Or.inr (Or.inr (Or.inr (Or.inr (Or.inl ⟨rfl, rfl, rfl, rfl, _, rfl, by rw [HM.out]; exact HITS.out⟩)))), hbl⟩
        · have t1 := taf_map_list (.agg #[kv, itv])
          have t2 := ta_map_map (.agg #[kv, itv])
          have HKS : Hid (StrsAt K wr ks keys) := by
            have h1 := own_strs HP.out.keysR hs6.1 hs6.2.1
            obtain ⟨g1, g2, ak, ck, rfl, g3⟩ := h1
            refine ⟨g1, g2, ak, ck, rfl, fun hpos => ?_⟩
            obtain ⟨b, o, rfl, hb, hc⟩ := g3 hpos
            have hbt := HP.out.top b (Or.inr (Or.inl rfl))
            exact ⟨b, o, rfl, by omega, fun i hi => (below_cell hbl (by omega)).trans (hc i hi)⟩
          obtain ⟨aks, cks, eks⟩ := own_slice HP.out.keysR
          subst eks
          clear hi hs6
          go_wp2_with fail
          go_ret
          exact ⟨_, _, rfl, Or.inr (Or.inr (Or.inr (Or.inr (Or.inr ⟨rfl, rfl, rfl, _, _, rfl, HKS.out, by rw [HM.out]; exact HITS.out⟩)))), hbl⟩
end Go.Proofs.Ytpakfgonemiebaa
