/-
  The specification's check of a whole value: the tree of a node, and all nodes.
-/
import Derived.Test.YtgmnihofkpjboaaGreatDoorSpc2
namespace Go.Proofs.YtgmnihofkpjboaaGreatDoor
open Go.RowKit
set_option linter.unusedSimpArgs false
set_option linter.unusedVariables false

theorem l1NodeOk_any (B : Nat) (x : VN) (ka ki : Value) (w : World) (h : NodeIn B w x ka ki) (hB : B ≤ w.heap.size) :
    Calls Tryz.prog 25 #[.agg #[.int .i64 x.kind, .int .i64 x.n, .string x.s, ka, ki]] w fun e w' => e = .returned (.bool (nodeB x)) ∧ Below w.heap.size w w' := by
  by_cases h1 : x.kind = 1
  · exact l1NodeOk_1 B x ka ki w h hB h1
  by_cases h2 : x.kind = 2
  · exact l1NodeOk_2 B x ka ki w h hB h2
  by_cases h3 : x.kind = 3
  · exact l1NodeOk_3 B x ka ki w h hB h3
  by_cases h4 : x.kind = 4
  · exact l1NodeOk_4 B x ka ki w h hB h4
  by_cases h5 : x.kind = 5
  · exact l1NodeOk_5 B x ka ki w h hB h5
  by_cases h6 : x.kind = 6
  · exact l1NodeOk_6 B x ka ki w h hB h6
  exact l1NodeOk_0 B x ka ki w h hB h1 h2 h3 h4 h5 h6

/-! ### The kids of a node from the last one on -/
def stAt (T : Nat → Option (Nat × Nat)) (kids : List Int) (n r : Nat) : Option (Nat × Nat) := ((kids.drop r).reverse).foldl (stepKid T) (some (n, 0))

theorem stAt_end (T : Nat → Option (Nat × Nat)) (kids : List Int) (n : Nat) : stAt T kids n kids.length = some (n, 0) := by simp [stAt]

theorem stAt_step (T : Nat → Option (Nat × Nat)) (kids : List Int) (n r : Nat) (h : r < kids.length) : stAt T kids n r = stepKid T (stAt T kids n (r + 1)) (intAt kids r) := by
  unfold stAt
  rw [List.drop_eq_getElem_cons h, List.reverse_cons, List.foldl_append]
  simp [intAt, h]

theorem stAt_none {T : Nat → Option (Nat × Nat)} {kids : List Int} {n : Nat} : ∀ r, r ≤ kids.length → stAt T kids n r = none → stAt T kids n 0 = none := by
  intro r
  induction r with
  | zero => intro _ h; exact h
  | succ r ih =>
    intro hr h
    apply ih (by omega)
    rw [stAt_step T kids n r (by omega), h]
    rfl

theorem tr_of_st {K : Nat → List Int} {n b h : Nat} (e : stAt (tr K) (K n) n 0 = some (b, h)) : tr K n = some (b, h + 1) := by
  rw [tr_eq]
  unfold stAt at e
  rw [List.drop_zero] at e
  rw [e]
  rfl

theorem tr_none_of {K : Nat → List Int} {n r : Nat} (hr : r ≤ (K n).length) (e : stAt (tr K) (K n) n r = none) : tr K n = none := by
  have e0 := stAt_none r hr e
  rw [tr_eq]
  unfold stAt at e0
  rw [List.drop_zero] at e0
  rw [e0]
  rfl

theorem max_if (h p : Nat) : (if h < p then (p : Int) else (h : Int)) = ((max h p : Nat) : Int) := by
  split <;> omega

def trF (o : Option (Nat × Nat)) : Int := match o with
  | some p => p.1
  | none => -1
def trD (o : Option (Nat × Nat)) : Int := match o with
  | some p => p.2
  | none => 0

theorem ret_pair {a b c d : Int} (h1 : a = c) (h2 : b = d) : Ending.returned (.tuple #[.int .i64 a, .int .i64 b]) = .returned (.tuple #[.int .i64 c, .int .i64 d]) := by rw [h1, h2]

set_option maxRecDepth 100000 in
set_option maxHeartbeats 3200000 in
theorem l1Tree_any (B : Nat) (v : Value) (vs : List VN) (N : Nat) : ∀ (n : Nat) (w : World), n < N → n < vs.length → NodesAt B w v vs →
    Calls Tryz.prog 27 #[v, .int .i64 n] w fun e w' => e = .returned (.tuple #[.int .i64 (trF (tr (kidsOf vs) n)), .int .i64 (trD (tr (kidsOf vs) n))]) ∧ w' = w := by
  induction N with
  | zero => intro n w h; omega
  | succ N ih =>
    intro n w hN hn hv
    have HV : Hid (NodesAt B w v vs) := hv
    have IH := hideIt ih
    clear ih
    obtain ⟨hlen, a, cap, rfl, hcell⟩ := hv
    obtain ⟨b0, o0, rfl, hb0, hc⟩ := hcell (by omega)
    obtain ⟨ka, ki, hnode⟩ := hc n hn
    have hc4 := hnode.c4
    obtain ⟨hkl, hkb, ak, ck, rfl, hkc⟩ := hnode.inn.kids
    clear hcell hc hnode
    have HK : Hid (kidsOf vs n = (nodeAt vs n).kids) := hideIt rfl
    generalize (nodeAt vs n).kids = kids at *
    generalize kidsOf vs = K at *
    go_enter Tryz.func27, Tryz.ntmps27
    go_wp2_with fail
    go_loopw [6, 7, 8] (fun t d i wr => ∃ (r b h : Nat) (z : Int), r ≤ kids.length ∧ i = .int .i64 z ∧ z = (r : Int) - 1 ∧ t = .int .i64 ((b : Int) - 1) ∧ d = .int .i64 h ∧ b ≤ n ∧ h ≤ n ∧ Hid (stAt (tr K) kids n r = some (b, h)) ∧ wr = w) (fun _ _ i _ => (intOf i + 1).toNat)
    case atStart => exact ⟨kids.length, n, 0, _, Nat.le_refl _, rfl, rfl, rfl, rfl, Nat.le_refl _, Nat.zero_le _, stAt_end _ _ _, rfl⟩
    case round =>
      obtain ⟨r, b, h, z, hr, rfl, hz, rfl, rfl, hbn, hhn, HS, rfl⟩ := hrel
      by_cases hr0 : r = 0
      · obtain rfl : z = -1 := by omega
        have HT : Hid (tr K n = some (b, h + 1)) := tr_of_st (by rw [HK.out, ← hr0]; exact HS.out)
        clear hz
        go_wp2_with fail
        go_ret2
        exact ⟨ret_pair (by rw [HT.out]; simp [trF]) (by rw [HT.out]; simp [trD]), rfl⟩
      · obtain ⟨q, rfl⟩ : ∃ q, r = q + 1 := ⟨r - 1, by omega⟩
        obtain rfl : z = (q : Int) := by omega
        obtain ⟨b1, o1, rfl, hb1, hkc1⟩ := hkc (by omega)
        have hck := hkc1 q (by omega)
        have hql : q < kids.length := by omega
        have HQ : Hid (stAt (tr K) kids n q = stepKid (tr K) (some (b, h)) (intAt kids q)) := by
          have := stAt_step (tr K) kids n q hql
          rw [HS.out] at this
          exact this
        clear hz hkc hkc1 hr0
        by_cases hb : b = 0
        · have HT : Hid (tr K n = none) := tr_none_of (r := q) (by rw [HK.out]; omega) (by rw [HK.out, HQ.out]; simp [stepKid, hb])
          have hneg : (b : Int) - 1 < 0 := by omega
          go_wp2_with fail
          go_ret2
          exact ⟨ret_pair (by rw [HT.out]; rfl) (by rw [HT.out]; rfl), rfl⟩
        · obtain ⟨m, rfl⟩ : ∃ m, b = m + 1 := ⟨b - 1, by omega⟩
          have hcast : (((m + 1 : Nat) : Int) - 1) = (m : Int) := by omega
          rw [hcast]
          have HC : Hid ((((m + 1 : Nat) : Int) - 1) = (m : Int)) := hcast
          clear hcast
          have hneg : ¬ (m : Int) < 0 := by omega
          by_cases hkid : intAt kids q = (m : Int)
          · have hne : (intAt kids q != (m : Int)) = false := by simp [hkid]
            have HX : Hid (stAt (tr K) kids n q = (tr K m).map (fun p => (p.1, max h p.2))) := by
              refine HQ.out.trans ?_
              simp [stepKid, hkid]
            clear hkid
            go_wp2_with fail
            refine (IH.out m _ (by omega) (by omega) HV.out).mono ?_
            rintro e w' ⟨rfl, rfl⟩
            cases htr : tr K m with
            | none =>
              have HT : Hid (tr K n = none) := tr_none_of (r := q) (by rw [HK.out]; omega) (by rw [HK.out, HX.out, htr]; rfl)
              have h1 : trF none < 0 := by decide
              simp only [trF, trD]
              go_wp2_with fail
              go_ret2
              exact ⟨ret_pair (by rw [HT.out]; rfl) (by rw [HT.out]; rfl), rfl⟩
            | some p =>
              obtain ⟨p1, p2⟩ := p
              have hd := tr_deep m _ htr
              have HY : Hid (stAt (tr K) kids n q = some (p1, max h p2)) := HX.out.trans (by rw [htr]; rfl)
              simp only [trF, trD]
              simp only at hd
              have h0 : ¬ (p1 : Int) < 0 := by omega
              clear htr
              go_wp2_with fail
              go_roundw
              case rel => exact ⟨q, p1, max h p2, _, by omega, rfl, rfl, rfl, by first | rw [max_if] | (congr 1; omega), by omega, by omega, HY, by trivial⟩
              case measure => simp [intOf]
          · have hne : (intAt kids q != (m : Int)) = true := by simp [hkid]
            have HT : Hid (tr K n = none) := tr_none_of (r := q) (by rw [HK.out]; omega) (by rw [HK.out, HQ.out]; simp [stepKid, hkid])
            clear hkid
            go_wp2_with fail
            go_ret2
            exact ⟨ret_pair (by rw [HT.out]; rfl) (by rw [HT.out]; rfl), rfl⟩

theorem intAt_get {l : List Int} {j : Nat} (h : j < l.length) : intAt l j = l[j] := by simp [intAt, h]

theorem okB_size {vs : List VN} (h : vs.length < 1 ∨ 80 < vs.length) : okB vs = false := by
  have : sizeB vs = false := by simp [sizeB]; omega
  simp [okB, this]

theorem okB_node {vs : List VN} {k : Nat} (hk : k < vs.length) (h : nodeB (nodeAt vs k) = false) : okB vs = false := by
  unfold okB
  rw [show ((List.range vs.length).all fun i => nodeB (nodeAt vs i) && kidsIn vs i) = false from ?_, Bool.and_false, Bool.false_and]
  rw [List.all_eq_false]
  exact ⟨k, List.mem_range.2 hk, by simp [h]⟩

theorem okB_kid {vs : List VN} {k j : Nat} (hk : k < vs.length) (hj : j < (nodeAt vs k).kids.length) (h : inB (intAt (nodeAt vs k).kids j) 0 ((k : Int) - 1) = false) : okB vs = false := by
  unfold okB
  rw [show ((List.range vs.length).all fun i => nodeB (nodeAt vs i) && kidsIn vs i) = false from ?_, Bool.and_false, Bool.false_and]
  rw [List.all_eq_false]
  refine ⟨k, List.mem_range.2 hk, ?_⟩
  have : kidsIn vs k = false := by
    unfold kidsIn
    rw [List.all_eq_false]
    refine ⟨intAt (nodeAt vs k).kids j, ?_, by simpa [inB] using h⟩
    unfold kidsOf
    rw [intAt_get hj]
    exact List.getElem_mem _
  simp [this]

theorem kidsIn_of {vs : List VN} {k : Nat} (h : ∀ j, j < (nodeAt vs k).kids.length → inB (intAt (nodeAt vs k).kids j) 0 ((k : Int) - 1) = true) : kidsIn vs k = true := by
  unfold kidsIn
  rw [List.all_eq_true]
  intro x hx
  obtain ⟨j, hj, rfl⟩ := List.getElem_of_mem hx
  have hj' : j < (nodeAt vs k).kids.length := hj
  have := h j hj'
  rw [intAt_get hj'] at this
  exact this

theorem okB_of {vs : List VN} (h1 : 1 ≤ vs.length) (h2 : vs.length ≤ 80) (h : ∀ k, k < vs.length → nodeB (nodeAt vs k) = true ∧ kidsIn vs k = true) : okB vs = rootB vs := by
  unfold okB
  rw [show ((List.range vs.length).all fun i => nodeB (nodeAt vs i) && kidsIn vs i) = true from ?_]
  · simp [sizeB, h1, h2]
  · rw [List.all_eq_true]
    intro k hk
    have := h k (List.mem_range.1 hk)
    simp [this.1, this.2]

set_option maxRecDepth 100000 in
set_option maxHeartbeats 3200000 in
theorem specOk_any (B : Nat) (v : Value) (vs : List VN) (w : World) (h : NodesAt B w v vs) (hB : B ≤ w.heap.size) :
    Calls Tryz.prog 12 #[v] w fun e w' => e = .returned (.bool (okB vs)) ∧ Below w.heap.size w w' := by
  have HV : Hid (NodesAt B w v vs) := h
  obtain ⟨hlen, a, cap, rfl, hcell⟩ := h
  by_cases h1 : vs.length < 1
  · have HO : Hid (okB vs = false) := okB_size (Or.inl h1)
    have h1' : (vs.length : Int) < 1 := by omega
    go_enter Tryz.func12, Tryz.ntmps12
    go_wp2_with fail
    go_ret
    exact ⟨ret_bool HO.out.symm, Below.refl _ _⟩
  by_cases h2 : 80 < vs.length
  · have HO : Hid (okB vs = false) := okB_size (Or.inr h2)
    have h1' : ¬ (vs.length : Int) < 1 := by omega
    have h2' : (80 : Int) < (vs.length : Int) := by omega
    go_enter Tryz.func12, Tryz.ntmps12
    go_wp2_with fail
    go_ret
    exact ⟨ret_bool HO.out.symm, Below.refl _ _⟩
  have h1' : ¬ (vs.length : Int) < 1 := by omega
  have h2' : ¬ (80 : Int) < (vs.length : Int) := by omega
  obtain ⟨b0, o0, rfl, hb0, hc⟩ := hcell (by omega)
  clear hcell
  go_enter Tryz.func12, Tryz.ntmps12
  go_wp2_with fail
  go_loopw [3] (fun i wr => ∃ k : Nat, k ≤ vs.length ∧ i = .int .i64 k ∧ (∀ j, j < k → nodeB (nodeAt vs j) = true ∧ kidsIn vs j = true) ∧ Below w.heap.size w wr) (fun i _ => vs.length - (intOf i).toNat)
  case atStart => exact ⟨0, Nat.zero_le _, rfl, fun j hj => by omega, Below.refl _ _⟩
  case round =>
    obtain ⟨k, hk, rfl, hall, hbel⟩ := hrel
    have HA := hideIt hall
    clear hall
    by_cases hlt : k < vs.length
    · obtain ⟨ka, ki, hn⟩ := hc k hlt
      have hn' := hn.below (hbel.mono hB) hb0
      have c0 := hn'.c0
      have c1 := hn'.c1
      have c2 := hn'.c2
      have c3 := hn'.c3
      have c4 := hn'.c4
      have hin := hideIt hn'.inn
      have hsize := hbel.size
      have HC := hideIt hc
      clear hc hn hn'
      go_wp2_with fail
      refine (l1NodeOk_any B (nodeAt vs k) ka ki _ hin.out (by omega)).mono ?_
      rintro e w1 ⟨rfl, hb1⟩
      have hbel1 : Below w.heap.size w w1 := hbel.trans (hb1.mono hsize)
      have hnode1 := (hin.out.below (hb1.mono (by omega)))
      have d4 : w1.cell? ⟨b0, o0 + k * 5 + 4, none⟩ = some ki := (below_cell hb1 (by omega)).trans c4
      obtain ⟨hkl, hkb, ak, ck, rfl, hkc⟩ := hnode1.kids
      by_cases hnb : nodeB (nodeAt vs k) = true
      · have hN := hideIt hnb
        clear hnode1
        go_wp2_with fail
        go_loopw [4] (fun i wr => ∃ q : Nat, q ≤ (nodeAt vs k).kids.length ∧ i = .int .i64 q ∧ (∀ j, j < q → inB (intAt (nodeAt vs k).kids j) 0 ((k : Int) - 1) = true) ∧ wr = w1) (fun i _ => (nodeAt vs k).kids.length - (intOf i).toNat)
        case atStart => exact ⟨0, Nat.zero_le _, rfl, fun j hj => by omega, rfl⟩
        case round =>
          obtain ⟨q, hq, rfl, hin2, rfl⟩ := hrel
          have HI := hideIt hin2
          clear hin2
          by_cases hlq : q < (nodeAt vs k).kids.length
          · obtain ⟨b1, o1, rfl, hb1', hkc1⟩ := hkc (by omega)
            have hck := hkc1 q hlq
            clear hkc1 hkc
            go_wp2_with fail
            refine (l1In_any _ _ _ _).mono ?_
            rintro e w2 ⟨rfl, rfl⟩
            by_cases hib : inB (intAt (nodeAt vs k).kids q) 0 ((k : Int) - 1) = true
            · have HI2 : Hid (∀ j, j < q + 1 → inB (intAt (nodeAt vs k).kids j) 0 ((k : Int) - 1) = true) := fun j hj => by
                by_cases e : j = q
                · subst e; exact hib
                · exact HI.out j (by omega)
              go_wp2_with fail
              go_roundw
              case rel => exact ⟨q + 1, by omega, by go_num, HI2.out, by trivial⟩
              case measure => simp [intOf]; omega
            · have hib' : inB (intAt (nodeAt vs k).kids q) 0 ((k : Int) - 1) = false := by simpa using hib
              have HO : Hid (okB vs = false) := okB_kid hlt hlq hib'
              clear hib
              go_wp2_with fail
              go_ret
              exact ⟨ret_bool HO.out.symm, hbel1⟩
          · obtain rfl : q = (nodeAt vs k).kids.length := by omega
            have HA2 : Hid (∀ j, j < k + 1 → nodeB (nodeAt vs j) = true ∧ kidsIn vs j = true) := fun j hj => by
              by_cases e : j = k
              · subst e; exact ⟨hN.out, kidsIn_of HI.out⟩
              · exact HA.out j (by omega)
            go_wp2_with fail
            go_roundw
            case rel => exact ⟨k + 1, by omega, by go_num, HA2.out, hbel1⟩
            case measure => simp [intOf]; omega
      · have hnb' : nodeB (nodeAt vs k) = false := by simpa using hnb
        have HO : Hid (okB vs = false) := okB_node hlt hnb'
        clear hnb hnode1
        go_wp2_with fail
        go_ret
        exact ⟨ret_bool HO.out.symm, hbel1⟩
    · obtain rfl : k = vs.length := by omega
      have HO : Hid (okB vs = rootB vs) := okB_of (by omega) (by omega) HA.out
      obtain ⟨n, hn⟩ : ∃ n, vs.length = n + 1 := ⟨vs.length - 1, by omega⟩
      have hcast : ((vs.length : Int) - 1) = (n : Int) := by omega
      have HV' := hideIt (HV.out.below (hbel.mono hB))
      have HN := hideIt hn
      have HR : Hid (rootB vs = match tr (kidsOf vs) n with
        | some p => decide (p.1 = 0) && decide (p.2 ≤ 8)
        | none => false) := by
        unfold rootB Hid
        rw [show vs.length - 1 = n by omega]
        rfl
      clear hc hn
      go_wp2_with fail
      refine (l1Tree_any B _ vs (n + 1) n _ (by omega) (by have := HN.out; omega) HV'.out).mono ?_
      rintro e w1 ⟨rfl, rfl⟩
      cases htr : tr (kidsOf vs) n with
      | none =>
        have HR2 : Hid (rootB vs = false) := by rw [Hid, HR.out, htr]
        simp only [trF, trD]
        clear htr
        go_wp2_with fail
        go_ret
        exact ⟨ret_bool (by rw [HO.out, HR2.out]), hbel⟩
      | some p =>
        obtain ⟨p1, p2⟩ := p
        have HR2 : Hid (rootB vs = (decide (p1 = 0) && decide (p2 ≤ 8))) := by rw [Hid, HR.out, htr]
        simp only [trF, trD]
        clear htr
        by_cases hp : p1 = 0
        · have hq : ((p1 : Int) == 0) = true := by simp [hp]
          have HP := hideIt hp
          clear hp
          go_wp2_with fail
          go_ret
          exact ⟨ret_bool (by rw [HO.out, HR2.out]; simp [HP.out]; omega), hbel⟩
        · have hq : ((p1 : Int) == 0) = false := by simp [hp]
          have HP := hideIt hp
          clear hp
          go_wp2_with fail
          go_ret
          exact ⟨ret_bool (by rw [HO.out, HR2.out]; simp [HP.out]), hbel⟩
end Go.Proofs.YtgmnihofkpjboaaGreatDoor
