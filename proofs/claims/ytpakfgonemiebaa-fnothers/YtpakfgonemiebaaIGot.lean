/-
  The program's check of a whole value: it answers as the specification's.
-/
import Derived.Test.YtpakfgonemiebaaPsP
import Derived.Test.YtpakfgonemiebaaImp2
import Derived.Test.YtpakfgonemiebaaBack
import Derived.Test.YtpakfgonemiebaaSS
import Derived.Test.YtpakfgonemiebaaVAt
import Derived.Test.YtpakfgonemiebaaWthP
import Derived.Test.YtpakfgonemiebaaTVal
namespace Go.Proofs.Ytpakfgonemiebaa
open Go.RowKit
set_option linter.unusedSimpArgs false
set_option linter.unusedVariables false

theorem infoSl : (Try.prog.info? 76).map (fun i => (i.zero, i.size, i.bytes)) = some (some (.slice none 0 0), 1, 24) := by kernel_rfl

def fillV (KV : Nat → Value) (k j : Nat) : Value := if j < k then KV j else .slice none 0 0
theorem fillV_step {w : World} {b t n k : Nat} {KV : Nat → Value} {v : Value} (h : w.rowIs b t n (fillV KV k)) : (w.setCell ⟨b, k, none⟩ v).rowIs b t n (fillV (fun j => if j = k then v else KV j) (k + 1)) := by
  refine (h.set k _).congr fun i _ => ?_
  unfold fillV
  by_cases e : i = k
  · subst e; rw [if_pos rfl, if_pos (by omega)]; simp
  · rw [if_neg e]; by_cases g : i < k
    · rw [if_pos g, if_pos (by omega)]; simp [e]
    · rw [if_neg g, if_neg (by omega)]

theorem tabB_size {vs : List VN} (h : vs.length < 1 ∨ 80 < vs.length) : tabB vs = false := by
  have : sizeB vs = false := by simp [sizeB]; omega
  simp [tabB, this]

theorem tabB_node {vs : List VN} {k : Nat} (hk : k < vs.length) (h : nodeB (nodeAt vs k) = false) : tabB vs = false := by
  unfold tabB
  rw [show ((List.range vs.length).all fun i => nodeB (nodeAt vs i)) = false from ?_, Bool.and_false, Bool.false_and]
  rw [List.all_eq_false]
  exact ⟨k, List.mem_range.2 hk, by simp [h]⟩

theorem tabB_all {vs : List VN} (h1 : 1 ≤ vs.length) (h2 : vs.length ≤ 80) (h : ∀ k, k < vs.length → nodeB (nodeAt vs k) = true) : tabB vs = standB (kidsOf vs) vs.length 8 := by
  unfold tabB
  rw [show ((List.range vs.length).all fun i => nodeB (nodeAt vs i)) = true from ?_]
  · rw [show sizeB vs = true by simp [sizeB, h1, h2], Bool.true_and, Bool.true_and, standB]
    have hr : rootB vs = rootK (kidsOf vs) vs.length 8 := by
      unfold rootB rootK
      cases tr (kidsOf vs) (vs.length - 1) with
      | none => rfl
      | some p =>
        have : ((p.2 : Int) ≤ 8) ↔ p.2 ≤ 8 := by omega
        simp only [this]
    rw [hr]
  · rw [List.all_eq_true]
    exact fun k hk => h k (List.mem_range.1 hk)

set_option maxRecDepth 100000 in
set_option maxHeartbeats 3200000 in
theorem implOk_any (B : Nat) (v : Value) (vs : List VN) (w : World) (h : NodesAt B w v vs) (hB : B ≤ w.heap.size) :
    Calls Try.prog 14 #[v] w fun e w' => e = .returned (.bool (okB vs)) ∧ Below w.heap.size w w' := by
  have HE : Hid (tabB vs = okB vs) := okB_eq vs
  obtain ⟨hlen, a, cap, rfl, hcell⟩ := h
  by_cases h1 : vs.length < 1
  · have HO : Hid (okB vs = false) := okB_size (Or.inl h1)
    have h1' : (vs.length : Int) < 1 := by omega
    go_enter Try.func14, Try.ntmps14
    go_wp2_with fail
    go_ret
    exact ⟨ret_bool HO.out.symm, Below.refl _ _⟩
  by_cases h2 : 80 < vs.length
  · have HO : Hid (okB vs = false) := okB_size (Or.inr h2)
    have h1' : ¬ (vs.length : Int) < 1 := by omega
    have h2' : (80 : Int) < (vs.length : Int) := by omega
    go_enter Try.func14, Try.ntmps14
    go_wp2_with fail
    go_ret
    exact ⟨ret_bool HO.out.symm, Below.refl _ _⟩
  have h1' : ¬ (vs.length : Int) < 1 := by omega
  have h2' : ¬ (80 : Int) < (vs.length : Int) := by omega
  obtain ⟨b0, o0, rfl, hb0, hc⟩ := hcell (by omega)
  clear hcell
  have hmk := run_make_row' (P := Try.prog) 79 76 (.slice none 0 0) 24 Try.underlying79 infoSl rfl .i64 .i64 vs.length (by omega) (by omega)
  go_enter Try.func14, Try.ntmps14
  go_wp2_with fail
  clear hmk
  have hr0 : (w.alloc (.cells (madeCells #[Value.slice none 0 0] vs.length) 76)).rowIs w.heap.size 76 vs.length (fillV (fun _ => undef) 0) := (World.rowIs_made w _ _ _).congr fun i _ => by simp [fillV]
  have hbz : Below w.heap.size w (w.alloc (.cells (madeCells #[Value.slice none 0 0] vs.length) 76)) := (Below.refl _ _).alloc (Nat.le_refl _) _
  go_loopw [19] (fun i wr => ∃ (k : Nat) (KV : Nat → Value), k ≤ vs.length ∧ i = .int .i64 k ∧ wr.rowIs w.heap.size 76 vs.length (fillV KV k) ∧ (∀ j, j < k → nodeB (nodeAt vs j) = true ∧ IntsAt B w (KV j) (kidsOf vs j)) ∧ Below w.heap.size w wr) (fun i _ => vs.length - (intOf i).toNat)
  case atStart => exact ⟨0, _, Nat.zero_le _, rfl, hr0, fun j hj => by omega, hbz⟩
  case round =>
    obtain ⟨k, KV, hk, rfl, hrow, hall, hbel⟩ := hrel
    have HA := hideIt hall
    have HC := hideIt hc
    clear hall hr0 hbz hc
    by_cases hlt : k < vs.length
    · obtain ⟨ka, ki, hn⟩ := HC.out k hlt
      have hn' := hn.below (hbel.mono hB) hb0
      have c0 := hn'.c0
      have c1 := hn'.c1
      have c2 := hn'.c2
      have c3 := hn'.c3
      have c4 := hn'.c4
      have hin := hideIt hn'.inn
      have hinw := hideIt hn.inn.kids
      have hsize := hbel.size
      have hlt0 := hrow.lt
      obtain ⟨_, _, aK, cK, eK, _⟩ := hn'.inn.keys
      obtain ⟨_, _, aI, cI, eI, _⟩ := hn'.inn.kids
      subst eK eI
      have HR := hideIt hrow
      clear hn hn' hrow
      have hbx : Below w.heap.size w (wr.alloc (.cells #[.int .i64 (nodeAt vs k).kind, .int .i64 (nodeAt vs k).n, .string (nodeAt vs k).s, .slice aK (nodeAt vs k).keys.length cK, .slice aI (nodeAt vs k).kids.length cI] 78)) := hbel.alloc hsize _
      have hba : Below wr.heap.size wr (wr.alloc (.cells #[.int .i64 (nodeAt vs k).kind, .int .i64 (nodeAt vs k).n, .string (nodeAt vs k).s, .slice aK (nodeAt vs k).keys.length cK, .slice aI (nodeAt vs k).kids.length cI] 78)) := (Below.refl _ _).alloc (Nat.le_refl _) _
      have hinx := hideIt (hin.out.below (hba.mono (by omega)))
      by_cases hu : unnamedB (nodeAt vs k) = true
      · go_wp2_with fail
        refine (unnamedZero_any B (nodeAt vs k) _ _ _ hinx.out).mono ?_
        rintro e w1 ⟨rfl, hb1⟩
        have hc1 : ∀ o, w1.cell? ⟨wr.heap.size, o, none⟩ = (wr.alloc (.cells #[.int .i64 (nodeAt vs k).kind, .int .i64 (nodeAt vs k).n, .string (nodeAt vs k).s, .slice aK (nodeAt vs k).keys.length cK, .slice aI (nodeAt vs k).kids.length cI] 78)).cell? ⟨wr.heap.size, o, none⟩ := fun o => hb1.cell (p := ⟨wr.heap.size, o, none⟩) (by simp)
        have hz1 := hb1.size
        simp only [World.size_alloc] at hz1
        have hbx1 : Below w.heap.size w w1 := hbx.trans (hb1.mono (by simp; omega))
        have hinx1 := hideIt (hinx.out.below (hb1.mono (by simp; omega)))
        by_cases hm : namedB (nodeAt vs k) = true
        · have HN : Hid (nodeB (nodeAt vs k) = true) := by rw [Hid, nodeB, hu, hm]; rfl
          go_wp2_with fail
          refine (namedOk_any B (nodeAt vs k) _ _ _ hinx1.out (by omega)).mono ?_
          rintro e w2 ⟨rfl, hb2⟩
          have hc2 : ∀ o, w2.cell? ⟨wr.heap.size, o, none⟩ = (wr.alloc (.cells #[.int .i64 (nodeAt vs k).kind, .int .i64 (nodeAt vs k).n, .string (nodeAt vs k).s, .slice aK (nodeAt vs k).keys.length cK, .slice aI (nodeAt vs k).kids.length cI] 78)).cell? ⟨wr.heap.size, o, none⟩ := fun o => (hb2.cell (p := ⟨wr.heap.size, o, none⟩) (by show wr.heap.size < w1.heap.size; omega)).trans (hc1 o)
          have hbx2 : Below w.heap.size w w2 := hbx1.trans (hb2.mono (by omega))
          have hrow2 : w2.rowIs w.heap.size 76 vs.length (fillV KV k) := rowIs_below (rowIs_below (HR.out.alloc _) hb1 (by simp; omega)) hb2 (by omega)
          have hcs := hrow2.cell hlt
          have hfs := hrow2.frozen k
          have hnew := hideIt (fillV_step (v := .slice aI (nodeAt vs k).kids.length cI) hrow2)
          have hbn := hideIt (hbx2.setCell (p := ⟨w.heap.size, k, none⟩) (Nat.le_refl _) (.slice aI (nodeAt vs k).kids.length cI))
          have HA2 : Hid (∀ j, j < k + 1 → nodeB (nodeAt vs j) = true ∧ IntsAt B w (if j = k then .slice aI (nodeAt vs k).kids.length cI else KV j) (kidsOf vs j)) := fun j hj => by
            by_cases e : j = k
            · subst e; rw [if_pos rfl]; exact ⟨HN.out, hinw.out⟩
            · rw [if_neg e]; exact HA.out j (by omega)
          clear hrow2
          go_wp2_with fail
          go_roundw
          case rel => exact ⟨k + 1, _, by omega, by go_num, hnew.out, HA2.out, hbn.out⟩
          case measure => simp [intOf]; omega
        · have hm' : namedB (nodeAt vs k) = false := by simpa using hm
          have HO : Hid (okB vs = false) := okB_node hlt (by rw [nodeB, hm', Bool.and_false])
          clear hm
          go_wp2_with fail
          refine (namedOk_any B (nodeAt vs k) _ _ _ hinx1.out (by omega)).mono ?_
          rintro e w2 ⟨rfl, hb2⟩
          go_wp2_with fail
          go_ret
          exact ⟨ret_bool HO.out.symm, hbx1.trans (hb2.mono (by omega))⟩
      · have hu' : unnamedB (nodeAt vs k) = false := by simpa using hu
        have HO : Hid (okB vs = false) := okB_node hlt (by rw [nodeB, hu', Bool.false_and])
        clear hu
        go_wp2_with fail
        refine (unnamedZero_any B (nodeAt vs k) _ _ _ hinx.out).mono ?_
        rintro e w1 ⟨rfl, hb1⟩
        go_wp2_with fail
        go_ret
        exact ⟨ret_bool HO.out.symm, hbx.trans (hb1.mono (by simp; omega))⟩
    · obtain rfl : k = vs.length := by omega
      have HO : Hid (okB vs = standB (kidsOf vs) vs.length 8) := HE.out.symm.trans (tabB_all (by omega) (by omega) (fun j hj => (HA.out j hj).1))
      have hlt0 := hrow.lt
      have HR := hideIt hrow
      clear hrow
      go_wp2_with fail
      refine (nodesStand_any 8 (w.heap.size + 1) w.heap.size vs.length (kidsOf vs) KV _ (by omega) (by omega) (by omega) (by omega) (fun i hi => ⟨?_, ?_⟩)).mono ?_
      · rw [HR.out.cell hi, fillV, if_pos hi]
      · exact ((HA.out i hi).2.below (hbel.mono hB)).wide (by omega)
      · rintro e w1 ⟨rfl, hb1⟩
        go_wp2_with fail
        go_ret
        exact ⟨ret_bool HO.out.symm, hbel.trans (hb1.mono (by omega))⟩
end Go.Proofs.Ytpakfgonemiebaa

/-
  impl.rightNodes: the nodes of a value, if these are right.
-/
namespace Go.Proofs.Ytpakfgonemiebaa
open Go.RowKit
set_option linter.unusedSimpArgs false
set_option linter.unusedVariables false

theorem TreeAt.iface {B : Nat} {w : World} {f : Nat} {t : VT} {v : Value} (h : TreeAt B w f t v) : ∃ ty x, v = .iface ty x := by
  cases f with
  | zero => exact h.elim
  | succ f =>
    obtain ⟨kind, n, s, keys, kids⟩ := t
    rcases h with ⟨_, _, _, _, _, rfl⟩ | ⟨_, _, _, _, rfl⟩ | ⟨_, _, _, _, rfl⟩ | ⟨_, _, _, _, rfl⟩ | ⟨_, _, _, _, it, rfl, _⟩ | ⟨_, _, _, ks, it, rfl, _⟩ <;> exact ⟨_, _, rfl⟩

def rightNs (ns : List VN) : List VN := if okB ns = true then ns else []

set_option maxRecDepth 100000 in
set_option maxHeartbeats 3200000 in
theorem rightNodes_any (f : Nat) (t : VT) (x : Value) (ns : List VN) (w : World) (ht : TreeAt w.heap.size w f t x) (hns : layT f t 0 = ns) (hn : ns.length ≤ 100000) (hf : ∀ i, i < ns.length → Fits (nodeAt ns i)) :
    Calls Try.prog 37 #[x] w fun e w' => ∃ r base KV IV, e = .returned (.tuple #[r, .bool (okB ns)]) ∧ w.heap.size ≤ base ∧ base ≤ w'.heap.size ∧ Nest base w' r (rightNs ns) KV IV ∧ Below w.heap.size w w' := by
  obtain ⟨ty, xv, rfl⟩ := ht.iface
  have HT := hideIt ht
  have HNS := hideIt hns
  have HF := hideIt hf
  have HRN : Hid (rightNs ns = if okB ns = true then ns else []) := rfl
  clear ht hns hf
  go_enter Try.func37, Try.ntmps37
  go_wp2_with fail
  refine (withNodes_any w.heap.size w.heap.size (Nat.le_refl _) f t (.iface ty xv) (.slice none 0 0) [] (fun _ => undef) (fun _ => undef) w (Nest.nil _ _ _ _) HT.out (Nat.le_refl _) (by rw [List.length_nil, HNS.out]; omega)).mono ?_
  rintro e w1 ⟨r, K, I, rfl, hl1⟩
  have hn1 : Nest w.heap.size w1 r ns K I := by have := hl1.1; rw [List.nil_append, List.length_nil, HNS.out] at this; exact this
  have hb1 : Below w.heap.size w w1 := (Below.refl _ _).grown hl1.2.1 (Nat.le_refl _) (fun k hk => by simp [Value.ownBlock] at hk)
  have z1 := hb1.size
  have HN1 := hideIt hn1
  have HB1 := hideIt hb1
  obtain ⟨ar, cr, er⟩ := own_slice hn1.row
  obtain ⟨N, hN⟩ : ∃ N, ns.length = N := ⟨_, rfl⟩
  rw [hN] at er
  subst er
  clear hn1 hb1 hN hl1
  go_wp2_with fail
  refine (implOk_any w1.heap.size _ ns _ (HN1.out.nodes (by omega) HF.out) (Nat.le_refl _)).mono ?_
  rintro e w2 ⟨rfl, hb2⟩
  have z2 := hb2.size
  have HN2 := hideIt (HN1.out.below hb2)
  have HB2 := hideIt (HB1.out.trans (hb2.mono z1))
  clear hb2
  cases ok1 : okB ns
  · go_wp2_with fail
    go_ret2
    exact ⟨.slice none 0 0, w.heap.size, fun _ => undef, fun _ => undef, by rw [ok1]; rfl, Nat.le_refl _, by omega, by rw [HRN.out, ok1]; exact Nest.nil _ _ _ _, HB2.out⟩
  · go_wp2_with fail
    go_ret2
    exact ⟨.slice ar N cr, w.heap.size, K, I, by rw [ok1]; rfl, Nat.le_refl _, by omega, by rw [HRN.out, ok1]; exact HN2.out, HB2.out⟩
end Go.Proofs.Ytpakfgonemiebaa

/-
  impl.valueOf: the value of right nodes.
-/
namespace Go.Proofs.Ytpakfgonemiebaa
open Go.RowKit
set_option linter.unusedSimpArgs false
set_option linter.unusedVariables false

set_option maxRecDepth 100000 in
set_option maxHeartbeats 1600000 in
theorem valueOf_no (B : Nat) (v : Value) (vs : List VN) (w : World) (h : NodesAt B w v vs) (hB : B ≤ w.heap.size) (hno : okB vs = false) :
    Calls Try.prog 36 #[v] w fun e w' => e = .returned (.tuple #[.nilIface, .bool false]) ∧ Below w.heap.size w w' := by
  have HV := hideIt h
  obtain ⟨_, a, cap, rfl, _⟩ := h
  go_enter Try.func36, Try.ntmps36
  go_wp2_with fail
  refine (implOk_any B _ vs _ HV.out hB).mono ?_
  rintro e w1 ⟨rfl, hb1⟩
  go_wp2_with fail
  go_ret2
  exact ⟨rfl, hb1⟩

set_option maxRecDepth 100000 in
set_option maxHeartbeats 1600000 in
theorem valueOf_yes (B : Nat) (v : Value) (vs : List VN) (w : World) (h : NodesAt B w v vs) (hB : B ≤ w.heap.size) (hyes : okB vs = true) :
    Calls Try.prog 36 #[v] w fun e w' => ∃ lo t x, e = .returned (.tuple #[.iface t x, .bool true]) ∧ w.heap.size ≤ lo ∧ lo < w'.heap.size ∧ ValIs lo w'.heap.size w' vs vs.length (vs.length - 1) (.iface t x) ∧ Below w.heap.size w w' := by
  have HV := hideIt h
  obtain ⟨_, a, cap, rfl, _⟩ := h
  obtain ⟨⟨hn1, hn2⟩, hok, _, hkn⟩ := okB_parts hyes
  have HOK := hideIt hok
  have HKN := hideIt hkn
  clear hok hkn
  go_enter Try.func36, Try.ntmps36
  go_wp2_with fail
  refine (implOk_any B _ vs _ HV.out hB).mono ?_
  rintro e w1 ⟨rfl, hb1⟩
  have z1 := hb1.size
  go_wp2_with fail
  refine (valuesAt_any B _ vs _ (HV.out.below (hb1.mono hB)) (by omega) hn1 hn2 HOK.out HKN.out).mono ?_
  rintro e w2 ⟨VV, rfl, hrow, hvals, hb2⟩
  have z2 := hb2.size
  obtain ⟨t, x, hx⟩ := (hvals (vs.length - 1) (by omega)).iface
  have hc : w2.cell? ⟨w1.heap.size, vs.length - 1, none⟩ = some (.iface t x) := by rw [hrow.cell (by omega), hx]
  have hlt := hrow.lt
  have hval := hvals (vs.length - 1) (by omega)
  rw [hx] at hval
  have HVL := hideIt hval
  have p0 : ((vs.length : Int) - 1).toNat = vs.length - 1 := by omega
  clear hrow hvals hx hval
  go_wp2_with fail
  go_ret2
  exact ⟨w1.heap.size, t, x, rfl, by omega, hlt, ValIs.more (by omega) HVL.out, hb1.trans (hb2.mono z1)⟩
end Go.Proofs.Ytpakfgonemiebaa

/-
  Got of the specification and of the program.
-/
namespace Go.Proofs.Ytpakfgonemiebaa
open Go.RowKit
set_option linter.unusedSimpArgs false
set_option linter.unusedVariables false

theorem gotN_lt {vs : List VN} (hok : okB vs = true) : ∀ (ps : List PS) (i q : Nat), i < vs.length → (∀ s ∈ ps, s.named = true ∨ 0 ≤ s.pl) → gotN vs i ps = some q → q < vs.length := by
  intro ps
  induction ps with
  | nil => intro i q hi _ h; simp [gotN] at h; omega
  | cons s r ih =>
    intro i q hi hs h
    simp only [gotN] at h
    cases e : stepN (nodeAt vs i) s with
    | none => rw [e] at h; cases h
    | some k =>
      rw [e] at h
      have hk := stepN_lt (hs s (by simp)) (fun e => (node6 hok hi e).2.1) e
      have := kidsIn_get (keys_few hok i hi).1 hk
      exact ih _ _ (by omega) (fun x hx => hs x (by simp [hx])) h

/-- The nodes that come of Got are few, and fit. -/
theorem got_few {vs : List VN} {ps : List PS} (hf : ∀ i, i < vs.length → Fits (nodeAt vs i)) : Few (gotNs vs ps) ∧ ∀ i, i < (gotNs vs ps).length → Fits (nodeAt (gotNs vs ps) i) := by
  have nil : Few ([] : List VN) ∧ ∀ i, i < ([] : List VN).length → Fits (nodeAt [] i) := ⟨⟨by simp, fun i hi => absurd hi (by simp)⟩, fun i hi => absurd hi (by simp)⟩
  unfold gotNs
  split
  · rename_i h
    simp only [Bool.and_eq_true] at h
    cases e : gotN vs (vs.length - 1) ps with
    | none => exact nil
    | some q =>
      have hl := (okB_parts h.1).1
      have hst := pathB_steps h.2
      have hq := gotN_lt h.1 ps (vs.length - 1) q (by omega) (fun s hs => by
        obtain ⟨k, hk, rfl⟩ := List.getElem_of_mem hs
        have := stepB_nonneg (hst k hk)
        simpa [stepAt, hk] using this) e
      have pf := part_fits h.1 hf hq
      have pl := (okB_parts (part_okB h.1 hq)).1
      exact ⟨⟨pl.2, fun i hi => (pf i hi).2⟩, fun i hi => (pf i hi).1⟩
  · exact nil

set_option maxRecDepth 100000 in
set_option maxHeartbeats 1600000 in
theorem treeFor_no (B : Nat) (v u : Value) (vs : List VN) (ps : List PS) (w : World) (h : NodesAt B w v vs) (hu : StepsAt B w u ps) (hB : B ≤ w.heap.size) (hno : (okB vs && pathB ps) = false) :
    Calls Try.prog 35 #[v, u] w fun e w' => e = .returned (.tuple #[.pointer none, .bool false]) ∧ Below w.heap.size w w' := by
  have HV := hideIt h
  have HU := hideIt hu
  obtain ⟨_, a, cap, rfl, _⟩ := h
  obtain ⟨_, _, au, cu, rfl, _⟩ := hu
  cases ok1 : okB vs
  · go_enter Try.func35, Try.ntmps35
    go_wp2_with fail
    refine (valueOf_no B _ vs _ HV.out hB ok1).mono ?_
    rintro e w1 ⟨rfl, hb1⟩
    go_wp2_with fail
    go_ret2
    exact ⟨rfl, hb1⟩
  · have ok2 : pathB ps = false := by rw [ok1] at hno; exact hno
    go_enter Try.func35, Try.ntmps35
    go_wp2_with fail
    refine (valueOf_yes B _ vs _ HV.out hB ok1).mono ?_
    rintro e w1 ⟨lo1, t, x, rfl, hl1, hl2, hv1, hb1⟩
    have z1 := hb1.size
    clear hv1
    go_wp2_with fail
    refine (implPathOk_any B _ ps _ (HU.out.below (hb1.mono hB)) (by omega)).mono ?_
    rintro e w2 ⟨rfl, hb2⟩
    rw [ok2]
    go_wp2_with fail
    go_ret2
    exact ⟨rfl, hb1.trans (hb2.mono z1)⟩

set_option maxRecDepth 100000 in
set_option maxHeartbeats 1600000 in
theorem treeFor_yes (B : Nat) (v u : Value) (vs : List VN) (ps : List PS) (w : World) (h : NodesAt B w v vs) (hu : StepsAt B w u ps) (hB : B ≤ w.heap.size) (ok1 : okB vs = true) (ok2 : pathB ps = true) :
    Calls Try.prog 35 #[v, u] w fun e w' => ∃ p B' lo, e = .returned (.tuple #[.pointer (some ⟨p, 0, none⟩), .bool true]) ∧ w.heap.size ≤ B' ∧ B' ≤ lo ∧ lo ≤ w'.heap.size ∧ PT B' w' vs.length (treeOf vs vs.length (vs.length - 1)) lo w'.heap.size (.pointer (some ⟨p, 0, none⟩)) ∧ Below w.heap.size w w' := by
  have HV := hideIt h
  have HU := hideIt hu
  obtain ⟨_, a, cap, rfl, _⟩ := h
  obtain ⟨_, _, au, cu, rfl, _⟩ := hu
  obtain ⟨p1, p2, _, p4⟩ := okB_parts ok1
  go_enter Try.func35, Try.ntmps35
  go_wp2_with fail
  refine (valueOf_yes B _ vs _ HV.out hB ok1).mono ?_
  rintro e w1 ⟨lo1, t, x, rfl, hl1, hl2, hv1, hb1⟩
  have z1 := hb1.size
  have HT := hideIt (ValIs.tree (by omega) p2 p4 p1.2 (by omega) hv1)
  clear hv1 p2 p4
  go_wp2_with fail
  refine (implPathOk_any B _ ps _ (HU.out.below (hb1.mono hB)) (by omega)).mono ?_
  rintro e w2 ⟨rfl, hb2⟩
  rw [ok2]
  have z2 := hb2.size
  have HT2 := hideIt (TreeAt.keep (fun c hc => hb2.block c hc) (Nat.le_refl _) HT.out)
  have HB2 := hideIt (hb1.trans (hb2.mono z1))
  clear hb1 hb2
  go_wp2_with fail
  refine (treeOf_any w1.heap.size vs.length _ _ _ HT2.out z2).mono ?_
  rintro e w3 ⟨p, rfl, hpt, hb3⟩
  have HPT := hideIt hpt
  have z3 := hb3.size
  have HB3 := hideIt (HB2.out.trans (hb3.mono (by omega)))
  clear hpt hb3
  go_wp2_with fail
  go_ret2
  exact ⟨p, w1.heap.size, w2.heap.size, rfl, z1, z2, z3, HPT.out, HB3.out⟩

set_option maxRecDepth 100000 in
set_option maxHeartbeats 3200000 in
theorem implGot_any (B : Nat) (v u : Value) (vs : List VN) (ps : List PS) (w : World) (h : NodesAt B w v vs) (hu : StepsAt B w u ps) (hB : B ≤ w.heap.size) :
    Calls Try.prog 12 #[v, u] w fun e w' => ∃ r base KV IV, e = .returned (.tuple #[r, .bool (gotB vs ps)]) ∧ w.heap.size ≤ base ∧ base ≤ w'.heap.size ∧ Nest base w' r (gotNs vs ps) KV IV ∧ Below w.heap.size w w' := by
  have HV := hideIt h
  have HU := hideIt hu
  have HFI := hideIt h.fits
  obtain ⟨_, a, cap, rfl, _⟩ := h
  obtain ⟨_, _, au, cu, rfl, _⟩ := hu
  have HGB : Hid (gotB vs ps = (okB vs && pathB ps && (gotN vs (vs.length - 1) ps).isSome)) := rfl
  have HGN : Hid (gotNs vs ps = if okB vs && pathB ps then (gotPart vs (gotN vs (vs.length - 1) ps)) else []) := rfl
  cases ok : (okB vs && pathB ps)
  · go_enter Try.func12, Try.ntmps12
    go_wp2_with fail
    refine (treeFor_no B _ _ vs ps _ HV.out HU.out hB ok).mono ?_
    rintro e w1 ⟨rfl, hb1⟩
    have z1 := hb1.size
    go_wp2_with fail
    go_ret2
    exact ⟨.slice none 0 0, w.heap.size, fun _ => undef, fun _ => undef, by rw [HGB.out, ok]; rfl, Nat.le_refl _, z1, by rw [HGN.out, ok]; exact Nest.nil _ _ _ _, hb1⟩
  · obtain ⟨ok1, ok2⟩ : okB vs = true ∧ pathB ps = true := by simpa using ok
    have hl := (okB_parts ok1).1
    have HST := hideIt (pathB_steps ok2)
    go_enter Try.func12, Try.ntmps12
    go_wp2_with fail
    refine (treeFor_yes B _ _ vs ps _ HV.out HU.out hB ok1 ok2).mono ?_
    rintro e w1 ⟨p, B', lo, rfl, hB', hlo, hlo', hpt, hb1⟩
    have HPT := hideIt hpt
    have z1 := hb1.size
    have HB1 := hideIt hb1
    have HU1 := hideIt ((HU.out.below (hb1.mono hB)).wide (B' := w1.heap.size) (by omega))
    clear hpt hb1
    go_wp2_with fail
    refine (follow_any B' vs ok1 vs.length (vs.length - 1) lo w1.heap.size p _ ps _ HPT.out (by omega) (by omega) (by omega) (Nat.le_refl _) HU1.out HST.out).mono ?_
    rintro e w2 ⟨p2, rfl, hfol, hb2⟩
    have z2 := hb2.size
    have HF := hideIt hfol
    have HB2 := hideIt (HB1.out.trans (hb2.mono z1))
    clear hfol hb2
    cases hg : gotN vs (vs.length - 1) ps with
    | none =>
      have h1 : folPtr none p2 = .pointer none := rfl
      have h2 : (none : Option Nat).isSome = false := rfl
      rw [h1, h2]
      go_wp2_with fail
      go_ret2
      exact ⟨.slice none 0 0, w.heap.size, fun _ => undef, fun _ => undef, by rw [HGB.out, ok, hg]; rfl, Nat.le_refl _, by omega, by rw [HGN.out, ok, hg]; exact Nest.nil _ _ _ _, HB2.out⟩
    | some q =>
      obtain ⟨hq, f, lo2, hi2, hqf, hhi, hpt2⟩ := HF.out q hg
      have HPT2 := hideIt hpt2
      have h1 : folPtr (some q) p2 = .pointer (some ⟨p2, 0, none⟩) := rfl
      have h2 : (some q : Option Nat).isSome = true := rfl
      have HLP := hideIt (lay_part ok1 hqf hq)
      have HPO := hideIt (part_okB ok1 hq)
      have HPF := hideIt (part_fits ok1 HFI.out hq)
      rw [h1, h2]
      clear hpt2 h1 h2
      go_wp2_with fail
      refine (value_any B' w2.heap.size f _ lo2 hi2 _ _ HPT2.out hhi (by omega) (Nat.le_refl _)).mono ?_
      rintro e w3 ⟨ty, x, rfl, htk, hb3⟩
      have z3 := hb3.size
      have HT := hideIt (htk.tree (X := w3.heap.size) z3 (Nat.le_refl _))
      have HB3 := hideIt (HB2.out.trans (hb3.mono (by omega)))
      clear htk hb3
      go_wp2_with fail
      refine (rightNodes_any f (treeOf vs f q) _ (partOf vs q) _ HT.out HLP.out.1 (by have := HLP.out.2; omega) (fun i hi => (HPF.out i hi).1)).mono ?_
      rintro e w4 ⟨r, base, KV, IV, rfl, hbs, hbs2, hn4, hb4⟩
      rw [HPO.out]
      have hrn : rightNs (partOf vs q) = partOf vs q := by unfold rightNs; rw [HPO.out]; rfl
      rw [hrn] at hn4
      have HN4 := hideIt hn4
      obtain ⟨ar, cr, er⟩ := own_slice hn4.row
      obtain ⟨N, hN⟩ : ∃ N, (partOf vs q).length = N := ⟨_, rfl⟩
      rw [hN] at er
      subst er
      have HB4 := hideIt (HB3.out.trans (hb4.mono (by omega)))
      clear hn4 hN hb4 hrn
      go_wp2_with fail
      go_ret2
      exact ⟨.slice ar N cr, base, KV, IV, by rw [HGB.out, ok, hg]; rfl, by omega, by omega, by rw [HGN.out, ok, hg]; exact HN4.out, HB4.out⟩
end Go.Proofs.Ytpakfgonemiebaa
