/-
  spec.Got: the nodes of the part to which the steps lead.
-/
import Derived.Test.YtfijafbpdlakaaaGreatDoorRd
import Derived.Test.YtfijafbpdlakaaaGreatDoorFollow
import Derived.Test.YtfijafbpdlakaaaGreatDoorVal
import Derived.Test.YtfijafbpdlakaaaGreatDoorSPart
import Derived.Deep.RegionWith
import Derived.Test.YtfijafbpdlakaaaGreatDoorIPlsM
import Derived.Test.YtfijafbpdlakaaaGreatDoorPartQ
import Derived.Test.YtfijafbpdlakaaaGreatDoorSSort
import Derived.Deep.Slices
import Derived.Test.YtfijafbpdlakaaaGreatDoorBSrch
namespace Go.Proofs.YtfijafbpdlakaaaGreatDoor
open Go.RowKit
set_option linter.unusedSimpArgs false
set_option linter.unusedVariables false

def kidR (o : Option Nat) : Int := match o with
  | none => -1
  | some k => k

set_option maxRecDepth 100000 in
set_option maxHeartbeats 1600000 in
theorem l6Kid_any (B : Nat) (x : VN) (ka ki : Value) (s : PS) (w : World) (h : NodeIn B w x ka ki) (hB : B ≤ w.heap.size) (h6 : x.kind = 6 → Rise x.keys ∧ x.keys.length ≤ 80) (hs : s.named = true ∨ 0 ≤ s.pl) (hl : x.kids.length ≤ 1048576) (hpl : -9223372036854775808 ≤ s.pl ∧ s.pl ≤ 9223372036854775807) :
    Calls Tryz.prog 59 #[.agg #[.int .i64 x.kind, .int .i64 x.n, .string x.s, ka, ki], .agg #[.bool s.named, .string s.key, .int .i64 s.pl]] w fun e w' => e = .returned (.int .i64 (kidR (stepN x s))) ∧ Below w.heap.size w w' := by
  obtain ⟨hkn, hks, a1, c1, e1, hkc⟩ := h.keys
  obtain ⟨_, _, a2, c2, e2, _⟩ := h.kids
  have HKC := hideIt hkc
  have H6 := hideIt h6
  subst e1 e2
  clear h hkc h6
  obtain ⟨nm, ky, pl⟩ := s
  simp only at hs hpl ⊢
  obtain ⟨hp1, hp2⟩ := hpl
  have hba : Below w.heap.size w ((w.alloc (.cells #[.int .i64 x.kind, .int .i64 x.n, .string x.s, .slice a1 x.keys.length c1, .slice a2 x.kids.length c2] 34)).alloc (.cells #[.bool nm, .string ky, .int .i64 pl] 100)) := ((Below.refl _ _).alloc (Nat.le_refl _) _).alloc (by simp) _
  cases nm
  · have h0 : 0 ≤ pl := by rcases hs with e | e; cases e; exact e
    by_cases h5 : x.kind = 5
    · by_cases hlt : pl < (x.kids.length : Int)
      · have HR : Hid (kidR (stepN x ⟨false, ky, pl⟩) = pl) := by unfold Hid stepN stepTo; simp [h5, hlt, kidR]; omega
        go_enter Tryz.func59, Tryz.ntmps59
        go_wp2_with fail
        go_ret
        exact ⟨ret_int HR.out.symm, ((Below.refl _ _).alloc (Nat.le_refl _) _).alloc (by simp) _⟩
      · have HR : Hid (kidR (stepN x ⟨false, ky, pl⟩) = -1) := by unfold Hid stepN stepTo; simp [hlt, kidR]
        go_enter Tryz.func59, Tryz.ntmps59
        go_wp2_with fail
        go_ret
        exact ⟨ret_int HR.out.symm, ((Below.refl _ _).alloc (Nat.le_refl _) _).alloc (by simp) _⟩
    · have HR : Hid (kidR (stepN x ⟨false, ky, pl⟩) = -1) := by unfold Hid stepN stepTo; simp [h5, kidR]
      have h5' : (x.kind == 5) = false := by simpa using h5
      go_enter Tryz.func59, Tryz.ntmps59
      go_wp2_with fail
      go_ret
      exact ⟨ret_int HR.out.symm, hba⟩
  · have HBA := hideIt hba
    have x0 : ((w.alloc (.cells #[.int .i64 x.kind, .int .i64 x.n, .string x.s, .slice a1 x.keys.length c1, .slice a2 x.kids.length c2] 34)).alloc (.cells #[.bool true, .string ky, .int .i64 pl] 100)).cell? ⟨w.heap.size, 0, none⟩ = some (.int .i64 x.kind) := by simp
    have x3 : ((w.alloc (.cells #[.int .i64 x.kind, .int .i64 x.n, .string x.s, .slice a1 x.keys.length c1, .slice a2 x.kids.length c2] 34)).alloc (.cells #[.bool true, .string ky, .int .i64 pl] 100)).cell? ⟨w.heap.size, 3, none⟩ = some (.slice a1 x.keys.length c1) := by simp
    have y1 : ((w.alloc (.cells #[.int .i64 x.kind, .int .i64 x.n, .string x.s, .slice a1 x.keys.length c1, .slice a2 x.kids.length c2] 34)).alloc (.cells #[.bool true, .string ky, .int .i64 pl] 100)).cell? ⟨w.heap.size + 1, 1, none⟩ = some (.string ky) := by simp
    have sz : ((w.alloc (.cells #[.int .i64 x.kind, .int .i64 x.n, .string x.s, .slice a1 x.keys.length c1, .slice a2 x.kids.length c2] 34)).alloc (.cells #[.bool true, .string ky, .int .i64 pl] 100)).heap.size = w.heap.size + 1 + 1 := by simp
    clear hba
    go_enter Tryz.func59, Tryz.ntmps59
    go_wp2_with fail
    generalize ((w.alloc (.cells #[.int .i64 x.kind, .int .i64 x.n, .string x.s, .slice a1 x.keys.length c1, .slice a2 x.kids.length c2] 34)).alloc (.cells #[.bool true, .string ky, .int .i64 pl] 100)) = W1 at *
    have hW : w.heap.size + 1 < W1.heap.size := by omega
    have HX := hideIt (And.intro x0 (And.intro x3 y1))
    clear x0 x3 y1 sz
    go_loopw [5] (fun i wr => ∃ (k : Nat), i = .int .i64 k ∧ (x.kind = 6 → k ≤ x.keys.length) ∧ Hid (∀ j, j < k → (keyAt x.keys j).toList ≠ ky.toList) ∧ Below W1.heap.size W1 wr) (fun i _ => x.keys.length + 1 - (intOf i).toNat)
    case atStart => exact ⟨0, rfl, fun _ => Nat.zero_le _, fun j hj => by omega, Below.refl _ _⟩
    case round =>
      obtain ⟨k, rfl, hk, HF, hbl⟩ := hrel
      have z0 : wr.cell? ⟨w.heap.size, 0, none⟩ = some (.int .i64 x.kind) := (below_cell hbl (by omega)).trans HX.out.1
      have z3 : wr.cell? ⟨w.heap.size, 3, none⟩ = some (.slice a1 x.keys.length c1) := (below_cell hbl (by omega)).trans HX.out.2.1
      have z1 : wr.cell? ⟨w.heap.size + 1, 1, none⟩ = some (.string ky) := (below_cell hbl (by omega)).trans HX.out.2.2
      have HB2 : Hid (Below w.heap.size w wr) := HBA.out.trans (hbl.mono (by omega))
      by_cases e6 : x.kind = 6
      · have hk6 := hk e6
        by_cases hlt : k < x.keys.length
        · obtain ⟨b, o, rfl, hbB, hc⟩ := HKC.out (by omega)
          have hck : wr.cell? ⟨b, o + k, none⟩ = some (.string (keyAt x.keys k)) := (below_cell hbl (by omega)).trans ((below_cell HBA.out (by omega)).trans (hc k hlt))
          clear hc hk
          by_cases he : (keyAt x.keys k).toList = ky.toList
          · have HR : Hid (kidR (stepN x ⟨true, ky, pl⟩) = (k : Int)) := by
              obtain ⟨g1, g2⟩ := hasK_first (H6.out e6).1 hlt he HF.out
              unfold Hid stepN stepTo
              simp [e6, g1, g2, kidR]
            have hz : ((keyAt x.keys k).toList == ky.toList) = true := by simp [he]
            go_wp2_with fail
            go_quiet (fail)
            go_wp2_with fail
            go_ret
            exact ⟨ret_int HR.out.symm, below_drewN HB2.out nq⟩
          · have HF2 : Hid (∀ j, j < k + 1 → (keyAt x.keys j).toList ≠ ky.toList) := fun j hj => by
              by_cases e : j = k
              · subst e; exact he
              · exact HF.out j (by omega)
            have hz : ((keyAt x.keys k).toList == ky.toList) = false := by simpa using he
            go_wp2_with fail
            go_quiet (fail)
            go_wp2_with fail
            go_roundw
            case rel => exact ⟨k + 1, by go_num, fun _ => by omega, HF2, below_drewN hbl nq⟩
            case measure => simp [intOf]; omega
        · obtain rfl : k = x.keys.length := by omega
          have HR : Hid (kidR (stepN x ⟨true, ky, pl⟩) = -1) := by unfold Hid stepN stepTo; simp [hasK_none HF.out, kidR]
          have hlt' : ¬ ((x.keys.length : Int) < (x.keys.length : Int)) := by omega
          go_wp2_with fail
          go_ret
          exact ⟨ret_int HR.out.symm, HB2.out⟩
      · have HR : Hid (kidR (stepN x ⟨true, ky, pl⟩) = -1) := by unfold Hid stepN stepTo; simp [e6, kidR]
        have e6' : (x.kind == 6) = false := by simpa using e6
        go_wp2_with fail
        go_ret
        exact ⟨ret_int HR.out.symm, HB2.out⟩

/-- The nodes that come of it. -/
def gotPart (vs : List VN) (o : Option Nat) : List VN := match o with
  | none => []
  | some q => partOf vs q
def gotB (vs : List VN) (ps : List PS) : Bool := okB vs && pathB ps && (gotN vs (vs.length - 1) ps).isSome
def gotNs (vs : List VN) (ps : List PS) : List VN := if okB vs && pathB ps then (gotPart vs (gotN vs (vs.length - 1) ps)) else []

theorem pathB_steps {ps : List PS} (h : pathB ps = true) : ∀ k, k < ps.length → stepB (stepAt ps k) = true := by
  unfold pathB at h
  simp only [Bool.and_eq_true, List.all_eq_true] at h
  exact fun k hk => h.2 k (List.mem_range.2 hk)

theorem stepB_nonneg {x : PS} (h : stepB x = true) : x.named = true ∨ 0 ≤ x.pl := by
  unfold stepB at h
  cases hnm : x.named
  · right; simp [hnm] at h; omega
  · exact Or.inl rfl

end Go.Proofs.YtfijafbpdlakaaaGreatDoor

/-
  Two maps in one, for the specification's side: what l6Kid says of a key; bounds of the joined nodes.
-/
namespace Go.Proofs.YtfijafbpdlakaaaGreatDoor
open Go.RowKit
set_option linter.unusedSimpArgs false
set_option linter.unusedVariables false

theorem kid_has {x : VN} {key : ByteArray} (h6 : x.kind = 6) : decide (kidR (stepN x ⟨true, key, 0⟩) < 0) = !hasK x.keys key := by
  unfold stepN stepTo
  simp only [h6]
  cases h : hasK x.keys key
  · simp [kidR, h]
  · simp [kidR, h]
    try omega

/-- The joined nodes, in the order that is said by ns and ps. -/
theorem join_bounds {us vs : List VN} (h1 : okB us = true) (h2 : okB vs = true) (hk1 : (rootN us).kind = 6) (hk2 : (rootN vs).kind = 6) (hfu : ∀ i, i < us.length → Fits (nodeAt us i)) (hfv : ∀ i, i < vs.length → Fits (nodeAt vs i)) {ns : List ByteArray} {ps : List Nat}
    (hs : sortIn (joinK us vs) (joinK us vs).length = some (ns, ps)) (hs1 : ∀ i, i < ns.length → (keyAt ns i).size ≤ 140737488355328) :
    joinNs us vs = makeNs 6 ns (fun j => joinL us vs (ps.getD j 0)) (joinN us vs) ∧ (∀ i, i < joinN us vs → ps.getD i 0 < joinN us vs) ∧ (joinNs us vs).length ≤ 16001 ∧ ∀ i, i < (joinNs us vs).length → Nice2 (nodeAt (joinNs us vs) i) := by
  have hl := join_len (us := us) h2 hk2
  have h160 := join_few h1 h2 hk1 hk2
  have e : joinNs us vs = makeNs 6 ns (fun j => joinL us vs (ps.getD j 0)) (joinN us vs) := by unfold joinNs; rw [hs]
  have hln := sortIn_len hs
  rw [hl] at hln
  have hp : ∀ i, i < joinN us vs → ps.getD i 0 < joinN us vs := fun i hi => by
    have := sortIn_mem hs (ps.getD i 0) (by
      rw [List.getD_eq_getElem?_getD, List.getElem?_eq_getElem (by omega)]
      exact List.getElem_mem _)
    omega
  have p1 := PL_few hfu
  have p2 := PL_few hfv
  have e1 : partsN us = (rootKids us).length := by unfold partsN; rw [if_pos h1]
  have e2 : partsN vs = (rootKids vs).length := by unfold partsN; rw [if_pos h2]
  rw [e1] at p1
  rw [e2] at p2
  refine ⟨e, hp, ?_⟩
  rw [e]
  refine make_nice2 (by omega) (fun i hi => join_okB h1 h2 hk1 _ (hp i hi)) (fun i hi => ?_) (by omega) (by omega) (by omega) hs1
  have hq := hp i hi
  unfold joinN at hq
  unfold joinL
  split
  · rename_i h; exact (p2.2 _ h).2
  · rename_i h; exact (p1.2 _ (more_lt h1 hk1 (by omega))).2
end Go.Proofs.YtfijafbpdlakaaaGreatDoor

/-
  spec.MapOf: the map's nodes, the keys in order.
-/
namespace Go.Proofs.YtfijafbpdlakaaaGreatDoor
open Go.RowKit
set_option linter.unusedSimpArgs false
set_option linter.unusedVariables false

/-- The rows' own values. -/
theorem RowsAt.cells {B : Nat} {w : World} {u : Value} {m : Nat} {L : Nat → List VN} (h : RowsAt B w u m L) : ∃ cs : Nat → Value, CellsAt B w u m cs ∧ ∀ i, i < m → NodesAt B w (cs i) (L i) := by
  obtain ⟨_, a, cap, rfl, hx⟩ := h
  by_cases hp : 0 < m
  · obtain ⟨b, rfl, hb, hc⟩ := hx hp
    refine ⟨fun i => if h : i < m then Classical.choose (hc i h) else undef, ⟨_, cap, rfl, fun i hi => ?_, fun _ => ⟨b, 0, rfl, hb, fun i hi => ?_⟩⟩, fun i hi => ?_⟩
    · simp only [dif_pos hi]
      obtain ⟨_, a, c, e, _⟩ := (Classical.choose_spec (hc i hi)).2
      exact ⟨_, _, _, e⟩
    · simp only [dif_pos hi]
      rw [Nat.zero_add]
      exact (Classical.choose_spec (hc i hi)).1
    · simp only [dif_pos hi]
      exact (Classical.choose_spec (hc i hi)).2
  · exact ⟨fun _ => undef, ⟨a, cap, rfl, fun i hi => absurd hi (by omega), fun h => absurd h hp⟩, fun i hi => absurd hi (by omega)⟩

/-- The rows in another order. -/
theorem rows_perm {base B : Nat} {w : World} {v : Value} {ps : List Nat} {cs : Nat → Value} {L : Nat → List VN} {m : Nat} (h : w.ownsRow base 24 1 v ps.length (ps.map cs)) (hl : ps.length = m) (hm : m ≤ 1048576) (hB : B ≤ w.heap.size) (hps : ∀ x ∈ ps, x < m) (hc : ∀ i, i < m → NodesAt B w (cs i) (L i)) : RowsAt w.heap.size w v m (fun j => L (ps.getD j 0)) := by
  obtain ⟨a, c, e⟩ := own_slice h
  subst e
  rw [hl] at h ⊢
  refine ⟨hm, a, c, rfl, fun hp => ?_⟩
  obtain ⟨g, c', e, _, hg⟩ := h.form hp
  cases e
  refine ⟨g, rfl, hg, fun i hi => ⟨cs (ps.getD i 0), ?_, ?_⟩⟩
  · rw [h.cellAt i (by omega)]
    rw [List.getElem?_map, List.getElem?_eq_getElem (by omega), List.getD_eq_getElem?_getD, List.getElem?_eq_getElem (by omega)]
    rfl
  · refine (hc _ ?_).wide hB
    apply hps
    rw [List.getD_eq_getElem?_getD, List.getElem?_eq_getElem (by omega)]
    exact List.getElem_mem _

end Go.Proofs.YtfijafbpdlakaaaGreatDoor

/-
  spec.l8Plus at two maps.
-/
namespace Go.Proofs.YtfijafbpdlakaaaGreatDoor
open Go.RowKit
set_option linter.unusedSimpArgs false
set_option linter.unusedVariables false

theorem call_kid (u v : Value) : ∀ w, (callFunc 59 #[u, v]).run Tryz.prog w = .ok (.enter 59 #[u, v]) w := fun w => by kernel_rfl

/-- A root's cells, and what they lead to. -/
theorem root_in {B : Nat} {w : World} {v : Value} {us : List VN} (h : NodesAt B w v us) (hl : 0 < us.length) : ∃ b o c aK cK aI cI, v = .slice (some ⟨b, o, none⟩) us.length c ∧ b < B ∧ NodeIn B w (rootN us) (.slice aK (rootN us).keys.length cK) (.slice aI (rootN us).kids.length cI) ∧ w.cell? ⟨b, o + (us.length - 1) * 5, none⟩ = some (.int .i64 (rootN us).kind) ∧ w.cell? ⟨b, o + (us.length - 1) * 5 + 1, none⟩ = some (.int .i64 (rootN us).n) ∧ w.cell? ⟨b, o + (us.length - 1) * 5 + 2, none⟩ = some (.string (rootN us).s) ∧ w.cell? ⟨b, o + (us.length - 1) * 5 + 3, none⟩ = some (.slice aK (rootN us).keys.length cK) ∧ w.cell? ⟨b, o + (us.length - 1) * 5 + 4, none⟩ = some (.slice aI (rootN us).kids.length cI) := by
  obtain ⟨_, a, c, rfl, hc⟩ := h
  obtain ⟨b, o, rfl, hb, hcc⟩ := hc hl
  obtain ⟨ka, ki, hn⟩ := hcc (us.length - 1) (by omega)
  have hin := hn.inn
  obtain ⟨_, _, aK, cK, eK, _⟩ := hn.inn.keys
  obtain ⟨_, _, aI, cI, eI, _⟩ := hn.inn.kids
  subst eK eI
  exact ⟨b, o, c, aK, cK, aI, cI, rfl, hb, hin, hn.c0, hn.c1, hn.c2, hn.c3, hn.c4⟩
end Go.Proofs.YtfijafbpdlakaaaGreatDoor

/-
  Two rows, one of keys and one of rows of nodes, each laid by appending, beside what stands.
-/
namespace Go.Proofs.YtfijafbpdlakaaaGreatDoor
open Go.RowKit
set_option linter.unusedSimpArgs false
set_option linter.unusedVariables false

theorem add_off (g j : Nat) : (⟨g, 0, none⟩ : Addr).add j = ⟨g, j, none⟩ := by simp [Addr.add]; intro h; exact h.symm
theorem own_only {P : Nat → Prop} {w w' : World} {base e s n : Nat} {v : Value} {xs : List Value} (h : w.ownsRow base e s v n xs) (ho : Only P w w') (hP : ∀ x, v.ownBlock = some x → ¬ P x) : w'.ownsRow base e s v n xs := by
  refine ⟨h.1, ?_⟩
  rcases h.2 with hn | ⟨g, cap, cur, rfl, hg, hgg, rest⟩
  · exact .inl hn
  · exact .inr ⟨g, cap, cur, rfl, hg, (ho.2 g (h.lt g rfl).2 (hP g rfl)).trans hgg, rest⟩
theorem Nest.only {P : Nat → Prop} {base : Nat} {w w' : World} {v : Value} {vs : List VN} {KV IV : Nat → Value} (h : Nest base w v vs KV IV) (ho : Only P w w') (hP : ∀ x, InNest v vs.length KV IV x → ¬ P x) : Nest base w' v vs KV IV :=
  ⟨own_only h.row ho fun x hx => hP x (.inl hx), fun i hi => own_only (h.rk i hi) ho fun x hx => hP x (.inr ⟨i, hi, .inl hx⟩), fun i hi => own_only (h.ri i hi) ho fun x hx => hP x (.inr ⟨i, hi, .inr hx⟩), h.dkk, h.dii⟩
theorem own_belowJ {w w' : World} {base e s n : Nat} {v : Value} {xs : List Value} (h : w.ownsRow base e s v n xs) (hb : Below w.heap.size w w') : w'.ownsRow base e s v n xs := own_from h ((From.refl base w).below hb)

/-- The blocks that the two rows had at first. -/
def TwoJ (kb lb : Value) (c : Nat) : Prop := kb.ownBlock = some c ∨ lb.ownBlock = some c
/-- The two rows while they grow: 'w3' the world at first. -/
structure Jn (base : Nat) (w3 : World) (kb lb : Value) (KS : List ByteArray) (RS : List Value) (kv lv : Value) (wr : World) : Prop where
  krow : wr.ownsRow base 9 1 kv KS.length (KS.map .string)
  lrow : wr.ownsRow base 24 1 lv RS.length RS
  only : Only (TwoJ kb lb) w3 wr
  kat : ∀ x, kv.ownBlock = some x → TwoJ kb lb x ∨ w3.heap.size ≤ x
  lat : ∀ x, lv.ownBlock = some x → TwoJ kb lb x ∨ w3.heap.size ≤ x
theorem Jn.below {base : Nat} {w3 wr w' : World} {kb lb kv lv : Value} {KS : List ByteArray} {RS : List Value} (h : Jn base w3 kb lb KS RS kv lv wr) (hb : Below wr.heap.size wr w') : Jn base w3 kb lb KS RS kv lv w' :=
  ⟨own_belowJ h.krow hb, own_belowJ h.lrow hb, h.only.trans (Only.of_below hb), h.kat, h.lat⟩
theorem only_grown {P : Nat → Prop} {w3 wr w5 : World} {o : Obj} {row : Option Nat} (h : Only P w3 wr) (hg : (wr.alloc o).grownBy w5 row) (hr : ∀ x, row = some x → P x ∨ w3.heap.size ≤ x) : Only P w3 w5 := by
  have z := hg.size
  have z2 := h.1
  simp at z
  refine ⟨by omega, fun c hc hp => ?_⟩
  rw [hg.block c (by simp; omega) (fun e => by rcases hr c e.symm with q | q; exact hp q; omega), Below.heap_alloc _ _ _ (by omega)]
  exact h.2 c hc hp
theorem at_grown {P : Nat → Prop} {w3 wr : World} {v v' : Value} (h : w3.heap.size ≤ wr.heap.size) (hv : ∀ x, v.ownBlock = some x → P x ∨ w3.heap.size ≤ x) (hat : v'.ownBlock = v.ownBlock ∨ v'.ownBlock = some (wr.heap.size + 1)) : ∀ x, v'.ownBlock = some x → P x ∨ w3.heap.size ≤ x := by
  intro x hx
  rcases hat with e | e
  · exact hv x (e ▸ hx)
  · rw [e] at hx
    injection hx with hx
    exact .inr (by omega)
theorem Jn.pushK {base : Nat} {w3 wr w5 : World} {o : Obj} {kb lb kv lv kv' : Value} {KS : List ByteArray} {RS : List Value} {s : ByteArray} (h : Jn base w3 kb lb KS RS kv lv wr)
    (hown : w5.ownsRow base 9 1 kv' (KS.length + 1) (KS.map .string ++ [.string s])) (hg : (wr.alloc o).grownBy w5 kv.ownBlock) (hat : kv'.ownBlock = kv.ownBlock ∨ kv'.ownBlock = some (wr.heap.size + 1)) : Jn base w3 kb lb (KS ++ [s]) RS kv' lv w5 :=
  ⟨by simpa using hown, (h.lrow.alloc o).kept hg (own_apart h.lrow h.krow (by decide)), only_grown h.only hg h.kat, at_grown h.only.1 h.kat hat, h.lat⟩
theorem Jn.pushL {base : Nat} {w3 wr w5 : World} {o : Obj} {kb lb kv lv lv' : Value} {KS : List ByteArray} {RS : List Value} {r : Value} (h : Jn base w3 kb lb KS RS kv lv wr)
    (hown : w5.ownsRow base 24 1 lv' (RS.length + 1) (RS ++ [r])) (hg : (wr.alloc o).grownBy w5 lv.ownBlock) (hat : lv'.ownBlock = lv.ownBlock ∨ lv'.ownBlock = some (wr.heap.size + 1)) : Jn base w3 kb lb KS (RS ++ [r]) kv lv' w5 :=
  ⟨(h.krow.alloc o).kept hg (own_apart h.krow h.lrow (by decide)), by simpa using hown, only_grown h.only hg h.lat, h.kat, at_grown h.only.1 h.lat hat⟩

/-- The keys, and the rows, when the first 'i' have been asked. -/
def jK (us vs : List VN) (i : Nat) : List ByteArray := (rootN vs).keys ++ (moreIx us vs i).map (keyAt (rootN us).keys)
def jR (us vs : List VN) (rs1 rs2 : Nat → Value) (i : Nat) : List Value := (List.range (rootKids vs).length).map rs2 ++ (moreIx us vs i).map rs1
theorem more_zero (us vs : List VN) : moreIx us vs 0 = [] := rfl
theorem more_yes {us vs : List VN} {i : Nat} (h : hasK (rootN vs).keys (keyAt (rootN us).keys i) = false) : moreIx us vs (i + 1) = moreIx us vs i ++ [i] := by
  unfold moreIx; rw [pickIx, h]; rfl
theorem more_no {us vs : List VN} {i : Nat} (h : hasK (rootN vs).keys (keyAt (rootN us).keys i) = true) : moreIx us vs (i + 1) = moreIx us vs i := by
  unfold moreIx; rw [pickIx, h]; rfl
theorem jK_zero (us vs : List VN) : jK us vs 0 = (rootN vs).keys := by simp [jK, more_zero]
theorem jR_zero (us vs : List VN) (rs1 rs2 : Nat → Value) : jR us vs rs1 rs2 0 = (List.range (rootKids vs).length).map rs2 := by simp [jR, more_zero]
theorem jK_yes {us vs : List VN} {i : Nat} (h : hasK (rootN vs).keys (keyAt (rootN us).keys i) = false) : jK us vs (i + 1) = jK us vs i ++ [keyAt (rootN us).keys i] := by simp [jK, more_yes h]
theorem jK_no {us vs : List VN} {i : Nat} (h : hasK (rootN vs).keys (keyAt (rootN us).keys i) = true) : jK us vs (i + 1) = jK us vs i := by simp [jK, more_no h]
theorem jR_yes {us vs : List VN} {rs1 rs2 : Nat → Value} {i : Nat} (h : hasK (rootN vs).keys (keyAt (rootN us).keys i) = false) : jR us vs rs1 rs2 (i + 1) = jR us vs rs1 rs2 i ++ [rs1 i] := by simp [jR, more_yes h]
theorem jR_no {us vs : List VN} {rs1 rs2 : Nat → Value} {i : Nat} (h : hasK (rootN vs).keys (keyAt (rootN us).keys i) = true) : jR us vs rs1 rs2 (i + 1) = jR us vs rs1 rs2 i := by simp [jR, more_no h]
theorem jK_all (us vs : List VN) : jK us vs (rootN us).keys.length = joinK us vs := rfl
theorem more_len (us vs : List VN) (i : Nat) : (moreIx us vs i).length ≤ i := by
  induction i with
  | zero => simp [more_zero]
  | succ i ih =>
    cases h : hasK (rootN vs).keys (keyAt (rootN us).keys i)
    · rw [more_yes h]; simp; omega
    · rw [more_no h]; omega
theorem jR_len (us vs : List VN) (rs1 rs2 : Nat → Value) (i : Nat) : (jR us vs rs1 rs2 i).length = (rootKids vs).length + (moreIx us vs i).length := by simp [jR]
theorem jR_get {us vs : List VN} {rs1 rs2 : Nat → Value} {i j : Nat} (hj : j < (rootKids vs).length + (moreIx us vs i).length) : (jR us vs rs1 rs2 i).getD j undef = if j < (rootKids vs).length then rs2 j else rs1 ((moreIx us vs i).getD (j - (rootKids vs).length) 0) := by
  unfold jR
  rw [List.getD_eq_getElem?_getD]
  split
  · rename_i h
    rw [List.getElem?_append_left (by simpa using h)]
    simp [h]
  · rename_i h
    rw [List.getElem?_append_right (by simp; omega)]
    simp only [List.length_map, List.length_range, List.getElem?_map]
    rw [List.getD_eq_getElem?_getD, List.getElem?_eq_getElem (by omega)]
    rfl
theorem jn_cells {w : World} {base : Nat} {v : Value} {RS : List Value} (h : w.ownsRow base 24 1 v RS.length RS) (hs : ∀ j, j < RS.length → ∃ a n c, RS.getD j undef = .slice a n c) : CellsAt w.heap.size w v RS.length (fun j => RS.getD j undef) := by
  obtain ⟨a, c, rfl⟩ := own_slice h
  refine ⟨a, c, rfl, hs, fun hp => ?_⟩
  obtain ⟨g, cap, e, hg, hlt⟩ := h.form hp
  injection e with e1 e2 e3
  refine ⟨g, 0, e1, hlt, fun i hi => ?_⟩
  have := h.cells (g := g) (by rw [e1]; rfl) i (RS.getD i undef) (by rw [List.getD_eq_getElem?_getD, List.getElem?_eq_getElem hi]; rfl)
  rw [add_off] at this
  simpa using this
end Go.Proofs.YtfijafbpdlakaaaGreatDoor
