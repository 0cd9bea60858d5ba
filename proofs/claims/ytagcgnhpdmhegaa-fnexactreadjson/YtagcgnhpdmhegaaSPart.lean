/-
  The specification's check of a whole value: the tree of a node, and all nodes.
-/
import Derived.Test.YtagcgnhpdmhegaaSpc2
import Derived.Test.YtagcgnhpdmhegaaTo
import Derived.RangeFuncBox
import Derived.Test.YtagcgnhpdmhegaaStb
namespace Go.Proofs.Ytagcgnhpdmhegaa
open Go.RowKit
set_option linter.unusedSimpArgs false
set_option linter.unusedVariables false

theorem l1NodeOk_any (B : Nat) (x : VN) (ka ki : Value) (w : World) (h : NodeIn B w x ka ki) (hB : B ≤ w.heap.size) :
    Calls Try.prog 27 #[.agg #[.int .i64 x.kind, .int .i64 x.n, .string x.s, ka, ki]] w fun e w' => e = .returned (.bool (nodeB x)) ∧ Below w.heap.size w w' := by
  by_cases h1 : x.kind = 1
  · exact l1NodeOk_1 B x ka ki w h hB h1
  by_cases h2 : x.kind = 2
  · exact l1NodeOk_2 B x ka ki w h hB h2
  by_cases h3 : x.kind = 3
  · exact l1NodeOk_3 B x ka ki w h hB h3
  by_cases h4 : x.kind = 4
  · exact l1NodeOk_4 B x ka ki w h hB h4
  by_cases h5 : x.kind = 5
  · exact l1NodeOk_5 B x ka ki w h hB h5
  by_cases h6 : x.kind = 6
  · exact l1NodeOk_6 B x ka ki w h hB h6
  exact l1NodeOk_0 B x ka ki w h hB h1 h2 h3 h4 h5 h6

/-! ### The kids of a node from the last one on -/
def stAt (T : Nat → Option (Nat × Nat)) (kids : List Int) (n r : Nat) : Option (Nat × Nat) := ((kids.drop r).reverse).foldl (stepKid T) (some (n, 0))

theorem stAt_end (T : Nat → Option (Nat × Nat)) (kids : List Int) (n : Nat) : stAt T kids n kids.length = some (n, 0) := by simp [stAt]

theorem stAt_step (T : Nat → Option (Nat × Nat)) (kids : List Int) (n r : Nat) (h : r < kids.length) : stAt T kids n r = stepKid T (stAt T kids n (r + 1)) (intAt kids r) := by
  unfold stAt
  rw [List.drop_eq_getElem_cons h, List.reverse_cons, List.foldl_append]
  simp [intAt, h]

theorem stAt_none {T : Nat → Option (Nat × Nat)} {kids : List Int} {n : Nat} : ∀ r, r ≤ kids.length → stAt T kids n r = none → stAt T kids n 0 = none := by
  intro r
  induction r with
  | zero => intro _ h; exact h
  | succ r ih =>
    intro hr h
    apply ih (by omega)
    rw [stAt_step T kids n r (by omega), h]
    rfl

theorem tr_of_st {K : Nat → List Int} {n b h : Nat} (e : stAt (tr K) (K n) n 0 = some (b, h)) : tr K n = some (b, h + 1) := by
  rw [tr_eq]
  unfold stAt at e
  rw [List.drop_zero] at e
  rw [e]
  rfl

theorem tr_none_of {K : Nat → List Int} {n r : Nat} (hr : r ≤ (K n).length) (e : stAt (tr K) (K n) n r = none) : tr K n = none := by
  have e0 := stAt_none r hr e
  rw [tr_eq]
  unfold stAt at e0
  rw [List.drop_zero] at e0
  rw [e0]
  rfl

theorem max_if (h p : Nat) : (if h < p then (p : Int) else (h : Int)) = ((max h p : Nat) : Int) := by
  split <;> omega

def trF (o : Option (Nat × Nat)) : Int := match o with
  | some p => p.1
  | none => -1
def trD (o : Option (Nat × Nat)) : Int := match o with
  | some p => p.2
  | none => 0

theorem ret_pair {a b c d : Int} (h1 : a = c) (h2 : b = d) : Ending.returned (.tuple #[.int .i64 a, .int .i64 b]) = .returned (.tuple #[.int .i64 c, .int .i64 d]) := by rw [h1, h2]

set_option maxRecDepth 100000 in
set_option maxHeartbeats 3200000 in
theorem l1Tree_any (B : Nat) (v : Value) (vs : List VN) (N : Nat) : ∀ (n : Nat) (w : World), n < N → n < vs.length → NodesAt B w v vs →
    Calls Try.prog 29 #[v, .int .i64 n] w fun e w' => e = .returned (.tuple #[.int .i64 (trF (tr (kidsOf vs) n)), .int .i64 (trD (tr (kidsOf vs) n))]) ∧ w' = w := by
  induction N with
  | zero => intro n w h; omega
  | succ N ih =>
    intro n w hN hn hv
    have HV : Hid (NodesAt B w v vs) := hv
    have IH := hideIt ih
    clear ih
    obtain ⟨hlen, a, cap, rfl, hcell⟩ := hv
    obtain ⟨b0, o0, rfl, hb0, hc⟩ := hcell (by omega)
    obtain ⟨ka, ki, hnode⟩ := hc n hn
    have hc4 := hnode.c4
    obtain ⟨hkl, hkb, ak, ck, rfl, hkc⟩ := hnode.inn.kids
    clear hcell hc hnode
    have HK : Hid (kidsOf vs n = (nodeAt vs n).kids) := hideIt rfl
    generalize (nodeAt vs n).kids = kids at *
    generalize kidsOf vs = K at *
    go_enter Try.func29, Try.ntmps29
    go_wp2_with fail
    go_loopw [6, 7, 8] (fun t d i wr => ∃ (r b h : Nat) (z : Int), r ≤ kids.length ∧ i = .int .i64 z ∧ z = (r : Int) - 1 ∧ t = .int .i64 ((b : Int) - 1) ∧ d = .int .i64 h ∧ b ≤ n ∧ h ≤ n ∧ Hid (stAt (tr K) kids n r = some (b, h)) ∧ wr = w) (fun _ _ i _ => (intOf i + 1).toNat)
    case atStart => exact ⟨kids.length, n, 0, _, Nat.le_refl _, rfl, rfl, rfl, rfl, Nat.le_refl _, Nat.zero_le _, stAt_end _ _ _, rfl⟩
    case round =>
      obtain ⟨r, b, h, z, hr, rfl, hz, rfl, rfl, hbn, hhn, HS, rfl⟩ := hrel
      by_cases hr0 : r = 0
      · obtain rfl : z = -1 := by omega
        have HT : Hid (tr K n = some (b, h + 1)) := tr_of_st (by rw [HK.out, ← hr0]; exact HS.out)
        clear hz
        go_wp2_with fail
        go_ret2
        exact ⟨ret_pair (by rw [HT.out]; simp [trF]) (by rw [HT.out]; simp [trD]), rfl⟩
      · obtain ⟨q, rfl⟩ : ∃ q, r = q + 1 := ⟨r - 1, by omega⟩
        obtain rfl : z = (q : Int) := by omega
        obtain ⟨b1, o1, rfl, hb1, hkc1⟩ := hkc (by omega)
        have hck := hkc1 q (by omega)
        have hql : q < kids.length := by omega
        have HQ : Hid (stAt (tr K) kids n q = stepKid (tr K) (some (b, h)) (intAt kids q)) := by
          have := stAt_step (tr K) kids n q hql
          rw [HS.out] at this
          exact this
        clear hz hkc hkc1 hr0
        by_cases hb : b = 0
        · have HT : Hid (tr K n = none) := tr_none_of (r := q) (by rw [HK.out]; omega) (by rw [HK.out, HQ.out]; simp [stepKid, hb])
          have hneg : (b : Int) - 1 < 0 := by omega
          go_wp2_with fail
          go_ret2
          exact ⟨ret_pair (by rw [HT.out]; rfl) (by rw [HT.out]; rfl), rfl⟩
        · obtain ⟨m, rfl⟩ : ∃ m, b = m + 1 := ⟨b - 1, by omega⟩
          have hcast : (((m + 1 : Nat) : Int) - 1) = (m : Int) := by omega
          rw [hcast]
          have HC : Hid ((((m + 1 : Nat) : Int) - 1) = (m : Int)) := hcast
          clear hcast
          have hneg : ¬ (m : Int) < 0 := by omega
          by_cases hkid : intAt kids q = (m : Int)
          · have hne : (intAt kids q != (m : Int)) = false := by simp [hkid]
            have HX : Hid (stAt (tr K) kids n q = (tr K m).map (fun p => (p.1, max h p.2))) := by
              refine HQ.out.trans ?_
              simp [stepKid, hkid]
            clear hkid
            go_wp2_with fail
            refine (IH.out m _ (by omega) (by omega) HV.out).mono ?_
            rintro e w' ⟨rfl, rfl⟩
            cases htr : tr K m with
            | none =>
              have HT : Hid (tr K n = none) := tr_none_of (r := q) (by rw [HK.out]; omega) (by rw [HK.out, HX.out, htr]; rfl)
              have h1 : trF none < 0 := by decide
              simp only [trF, trD]
              go_wp2_with fail
              go_ret2
              exact ⟨ret_pair (by rw [HT.out]; rfl) (by rw [HT.out]; rfl), rfl⟩
            | some p =>
              obtain ⟨p1, p2⟩ := p
              have hd := tr_deep m _ htr
              have HY : Hid (stAt (tr K) kids n q = some (p1, max h p2)) := HX.out.trans (by rw [htr]; rfl)
              simp only [trF, trD]
              simp only at hd
              have h0 : ¬ (p1 : Int) < 0 := by omega
              clear htr
              go_wp2_with fail
              go_roundw
              case rel => exact ⟨q, p1, max h p2, _, by omega, rfl, rfl, rfl, by rw [max_if], by omega, by omega, HY, by trivial⟩
              case measure => simp [intOf]
          · have hne : (intAt kids q != (m : Int)) = true := by simp [hkid]
            have HT : Hid (tr K n = none) := tr_none_of (r := q) (by rw [HK.out]; omega) (by rw [HK.out, HQ.out]; simp [stepKid, hkid])
            clear hkid
            go_wp2_with fail
            go_ret2
            exact ⟨ret_pair (by rw [HT.out]; rfl) (by rw [HT.out]; rfl), rfl⟩

theorem intAt_get {l : List Int} {j : Nat} (h : j < l.length) : intAt l j = l[j] := by simp [intAt, h]

theorem okB_size {vs : List VN} (h : vs.length < 1 ∨ 80 < vs.length) : okB vs = false := by
  have : sizeB vs = false := by simp [sizeB]; omega
  simp [okB, this]

theorem okB_node {vs : List VN} {k : Nat} (hk : k < vs.length) (h : nodeB (nodeAt vs k) = false) : okB vs = false := by
  unfold okB
  rw [show ((List.range vs.length).all fun i => nodeB (nodeAt vs i) && kidsIn vs i) = false from ?_, Bool.and_false, Bool.false_and]
  rw [List.all_eq_false]
  exact ⟨k, List.mem_range.2 hk, by simp [h]⟩

theorem okB_kid {vs : List VN} {k j : Nat} (hk : k < vs.length) (hj : j < (nodeAt vs k).kids.length) (h : inB (intAt (nodeAt vs k).kids j) 0 ((k : Int) - 1) = false) : okB vs = false := by
  unfold okB
  rw [show ((List.range vs.length).all fun i => nodeB (nodeAt vs i) && kidsIn vs i) = false from ?_, Bool.and_false, Bool.false_and]
  rw [List.all_eq_false]
  refine ⟨k, List.mem_range.2 hk, ?_⟩
  have : kidsIn vs k = false := by
    unfold kidsIn
    rw [List.all_eq_false]
    refine ⟨intAt (nodeAt vs k).kids j, ?_, by simpa [inB] using h⟩
    unfold kidsOf
    rw [intAt_get hj]
    exact List.getElem_mem _
  simp [this]

theorem kidsIn_of {vs : List VN} {k : Nat} (h : ∀ j, j < (nodeAt vs k).kids.length → inB (intAt (nodeAt vs k).kids j) 0 ((k : Int) - 1) = true) : kidsIn vs k = true := by
  unfold kidsIn
  rw [List.all_eq_true]
  intro x hx
  obtain ⟨j, hj, rfl⟩ := List.getElem_of_mem hx
  have hj' : j < (nodeAt vs k).kids.length := hj
  have := h j hj'
  rw [intAt_get hj'] at this
  exact this

theorem okB_of {vs : List VN} (h1 : 1 ≤ vs.length) (h2 : vs.length ≤ 80) (h : ∀ k, k < vs.length → nodeB (nodeAt vs k) = true ∧ kidsIn vs k = true) : okB vs = rootB vs := by
  unfold okB
  rw [show ((List.range vs.length).all fun i => nodeB (nodeAt vs i) && kidsIn vs i) = true from ?_]
  · simp [sizeB, h1, h2]
  · rw [List.all_eq_true]
    intro k hk
    have := h k (List.mem_range.1 hk)
    simp [this.1, this.2]

set_option maxRecDepth 100000 in
set_option maxHeartbeats 3200000 in
theorem specOk_any (B : Nat) (v : Value) (vs : List VN) (w : World) (h : NodesAt B w v vs) (hB : B ≤ w.heap.size) :
    Calls Try.prog 10 #[v] w fun e w' => e = .returned (.bool (okB vs)) ∧ Below w.heap.size w w' := by
  have HV : Hid (NodesAt B w v vs) := h
  obtain ⟨hlen, a, cap, rfl, hcell⟩ := h
  by_cases h1 : vs.length < 1
  · have HO : Hid (okB vs = false) := okB_size (Or.inl h1)
    have h1' : (vs.length : Int) < 1 := by omega
    go_enter Try.func10, Try.ntmps10
    go_wp2_with fail
    go_ret
    exact ⟨ret_bool HO.out.symm, Below.refl _ _⟩
  by_cases h2 : 80 < vs.length
  · have HO : Hid (okB vs = false) := okB_size (Or.inr h2)
    have h1' : ¬ (vs.length : Int) < 1 := by omega
    have h2' : (80 : Int) < (vs.length : Int) := by omega
    go_enter Try.func10, Try.ntmps10
    go_wp2_with fail
    go_ret
    exact ⟨ret_bool HO.out.symm, Below.refl _ _⟩
  have h1' : ¬ (vs.length : Int) < 1 := by omega
  have h2' : ¬ (80 : Int) < (vs.length : Int) := by omega
  obtain ⟨b0, o0, rfl, hb0, hc⟩ := hcell (by omega)
  clear hcell
  go_enter Try.func10, Try.ntmps10
  go_wp2_with fail
  go_loopw [3] (fun i wr => ∃ k : Nat, k ≤ vs.length ∧ i = .int .i64 k ∧ (∀ j, j < k → nodeB (nodeAt vs j) = true ∧ kidsIn vs j = true) ∧ Below w.heap.size w wr) (fun i _ => vs.length - (intOf i).toNat)
  case atStart => exact ⟨0, Nat.zero_le _, rfl, fun j hj => by omega, Below.refl _ _⟩
  case round =>
    obtain ⟨k, hk, rfl, hall, hbel⟩ := hrel
    have HA := hideIt hall
    clear hall
    by_cases hlt : k < vs.length
    · obtain ⟨ka, ki, hn⟩ := hc k hlt
      have hn' := hn.below (hbel.mono hB) hb0
      have c0 := hn'.c0
      have c1 := hn'.c1
      have c2 := hn'.c2
      have c3 := hn'.c3
      have c4 := hn'.c4
      have hin := hideIt hn'.inn
      have hsize := hbel.size
      have HC := hideIt hc
      clear hc hn hn'
      go_wp2_with fail
      refine (l1NodeOk_any B (nodeAt vs k) ka ki _ hin.out (by omega)).mono ?_
      rintro e w1 ⟨rfl, hb1⟩
      have hbel1 : Below w.heap.size w w1 := hbel.trans (hb1.mono hsize)
      have hnode1 := (hin.out.below (hb1.mono (by omega)))
      have d4 : w1.cell? ⟨b0, o0 + k * 5 + 4, none⟩ = some ki := (below_cell hb1 (by omega)).trans c4
      obtain ⟨hkl, hkb, ak, ck, rfl, hkc⟩ := hnode1.kids
      by_cases hnb : nodeB (nodeAt vs k) = true
      · have hN := hideIt hnb
        clear hnode1
        go_wp2_with fail
        go_loopw [4] (fun i wr => ∃ q : Nat, q ≤ (nodeAt vs k).kids.length ∧ i = .int .i64 q ∧ (∀ j, j < q → inB (intAt (nodeAt vs k).kids j) 0 ((k : Int) - 1) = true) ∧ wr = w1) (fun i _ => (nodeAt vs k).kids.length - (intOf i).toNat)
        case atStart => exact ⟨0, Nat.zero_le _, rfl, fun j hj => by omega, rfl⟩
        case round =>
          obtain ⟨q, hq, rfl, hin2, rfl⟩ := hrel
          have HI := hideIt hin2
          clear hin2
          by_cases hlq : q < (nodeAt vs k).kids.length
          · obtain ⟨b1, o1, rfl, hb1', hkc1⟩ := hkc (by omega)
            have hck := hkc1 q hlq
            clear hkc1 hkc
            go_wp2_with fail
            refine (l1In_any _ _ _ _).mono ?_
            rintro e w2 ⟨rfl, rfl⟩
            by_cases hib : inB (intAt (nodeAt vs k).kids q) 0 ((k : Int) - 1) = true
            · have HI2 : Hid (∀ j, j < q + 1 → inB (intAt (nodeAt vs k).kids j) 0 ((k : Int) - 1) = true) := fun j hj => by
                by_cases e : j = q
                · subst e; exact hib
                · exact HI.out j (by omega)
              go_wp2_with fail
              go_roundw
              case rel => exact ⟨q + 1, by omega, by go_num, HI2.out, by trivial⟩
              case measure => simp [intOf]; omega
            · have hib' : inB (intAt (nodeAt vs k).kids q) 0 ((k : Int) - 1) = false := by simpa using hib
              have HO : Hid (okB vs = false) := okB_kid hlt hlq hib'
              clear hib
              go_wp2_with fail
              go_ret
              exact ⟨ret_bool HO.out.symm, hbel1⟩
          · obtain rfl : q = (nodeAt vs k).kids.length := by omega
            have HA2 : Hid (∀ j, j < k + 1 → nodeB (nodeAt vs j) = true ∧ kidsIn vs j = true) := fun j hj => by
              by_cases e : j = k
              · subst e; exact ⟨hN.out, kidsIn_of HI.out⟩
              · exact HA.out j (by omega)
            go_wp2_with fail
            go_roundw
            case rel => exact ⟨k + 1, by omega, by go_num, HA2.out, hbel1⟩
            case measure => simp [intOf]; omega
      · have hnb' : nodeB (nodeAt vs k) = false := by simpa using hnb
        have HO : Hid (okB vs = false) := okB_node hlt hnb'
        clear hnb hnode1
        go_wp2_with fail
        go_ret
        exact ⟨ret_bool HO.out.symm, hbel1⟩
    · obtain rfl : k = vs.length := by omega
      have HO : Hid (okB vs = rootB vs) := okB_of (by omega) (by omega) HA.out
      obtain ⟨n, hn⟩ : ∃ n, vs.length = n + 1 := ⟨vs.length - 1, by omega⟩
      have hcast : ((vs.length : Int) - 1) = (n : Int) := by omega
      have HV' := hideIt (HV.out.below (hbel.mono hB))
      have HN := hideIt hn
      have HR : Hid (rootB vs = match tr (kidsOf vs) n with
        | some p => decide (p.1 = 0) && decide (p.2 ≤ 8)
        | none => false) := by
        unfold rootB Hid
        rw [show vs.length - 1 = n by omega]
        rfl
      clear hc hn
      go_wp2_with fail
      refine (l1Tree_any B _ vs (n + 1) n _ (by omega) (by have := HN.out; omega) HV'.out).mono ?_
      rintro e w1 ⟨rfl, rfl⟩
      cases htr : tr (kidsOf vs) n with
      | none =>
        have HR2 : Hid (rootB vs = false) := by rw [Hid, HR.out, htr]
        simp only [trF, trD]
        clear htr
        go_wp2_with fail
        go_ret
        exact ⟨ret_bool (by rw [HO.out, HR2.out]), hbel⟩
      | some p =>
        obtain ⟨p1, p2⟩ := p
        have HR2 : Hid (rootB vs = (decide (p1 = 0) && decide (p2 ≤ 8))) := by rw [Hid, HR.out, htr]
        simp only [trF, trD]
        clear htr
        by_cases hp : p1 = 0
        · have hq : ((p1 : Int) == 0) = true := by simp [hp]
          have HP := hideIt hp
          clear hp
          go_wp2_with fail
          go_ret
          exact ⟨ret_bool (by rw [HO.out, HR2.out]; simp [HP.out]; omega), hbel⟩
        · have hq : ((p1 : Int) == 0) = false := by simp [hp]
          have HP := hideIt hp
          clear hp
          go_wp2_with fail
          go_ret
          exact ⟨ret_bool (by rw [HO.out, HR2.out]; simp [HP.out]), hbel⟩
end Go.Proofs.Ytagcgnhpdmhegaa

/-
  How the values behind the interface lie in memory: the value of a node of right nodes, its parts in rows of new blocks.
-/
namespace Go.Proofs.Ytagcgnhpdmhegaa
open Go.RowKit
set_option linter.unusedSimpArgs false
set_option linter.unusedVariables false

def ItemsAt (lo B : Nat) (w : World) (it : Value) (n : Nat) (P : Nat → Value → Prop) : Prop :=
  ∃ a cap, it = .slice a n cap ∧ (0 < n → ∃ b, a = some ⟨b, 0, none⟩ ∧ lo < b ∧ b < B ∧ ∀ j, j < n → ∃ t x, w.cell? ⟨b, j, none⟩ = some (.iface t x) ∧ P j (.iface t x))

/-- The value of node i. Its rows lie between the blocks lo and B, its keys below lo. -/
def ValIs (lo B : Nat) (w : World) (vs : List VN) : Nat → Nat → Value → Prop
  | 0, _, _ => False
  | f + 1, i, v =>
    ((nodeAt vs i).kind = 1 ∧ v = .iface 96 (.agg #[])) ∨
    ((nodeAt vs i).kind = 2 ∧ v = .iface 82 (.agg #[.int .i64 (nodeAt vs i).n])) ∨
    ((nodeAt vs i).kind = 3 ∧ v = .iface 83 (.agg #[.int .i64 (nodeAt vs i).n])) ∨
    ((nodeAt vs i).kind = 4 ∧ v = .iface 85 (.agg #[.string (nodeAt vs i).s])) ∨
    ((nodeAt vs i).kind = 5 ∧ ∃ it, v = .iface 112 (.agg #[it]) ∧ ItemsAt lo B w it (nodeAt vs i).kids.length (fun j u => ValIs lo B w vs f (intAt (nodeAt vs i).kids j).toNat u)) ∨
    ((nodeAt vs i).kind = 6 ∧ ∃ ks it, v = .iface 87 (.agg #[ks, it]) ∧ StrsAt lo w ks (nodeAt vs i).keys ∧ ItemsAt lo B w it (nodeAt vs i).kids.length (fun j u => ValIs lo B w vs f (intAt (nodeAt vs i).kids j).toNat u))

theorem ValIs.iface {lo B : Nat} {w : World} {vs : List VN} {f i : Nat} {v : Value} (h : ValIs lo B w vs f i v) : ∃ t x, v = .iface t x := by
  cases f with
  | zero => exact h.elim
  | succ f =>
    rcases h with ⟨_, rfl⟩ | ⟨_, rfl⟩ | ⟨_, rfl⟩ | ⟨_, rfl⟩ | ⟨_, it, rfl, _⟩ | ⟨_, ks, it, rfl, _⟩ <;> exact ⟨_, _, rfl⟩

/-- All blocks below B but lo are as they were. -/
def Keep (lo B : Nat) (w w' : World) : Prop := ∀ k, k ≠ lo → k < B → w'.heap[k]? = w.heap[k]?

theorem Keep.of_below {lo B : Nat} {w w' : World} (h : Below B w w') : Keep lo B w w' := fun k _ hk => h.block k hk
theorem Keep.setCell {lo B o : Nat} (w : World) (v : Value) : Keep lo B w (w.setCell ⟨lo, o, none⟩ v) := fun k hk _ => Below.heap_setCell w _ v k hk
theorem Keep.trans {lo B : Nat} {a b c : World} (h : Keep lo B a b) (k : Keep lo B b c) : Keep lo B a c := fun i h1 h2 => (k i h1 h2).trans (h i h1 h2)
theorem Keep.cell {lo B : Nat} {w w' : World} (h : Keep lo B w w') {b o : Nat} (h1 : b ≠ lo) (h2 : b < B) : w'.cell? ⟨b, o, none⟩ = w.cell? ⟨b, o, none⟩ := by
  unfold World.cell?
  rw [show w'.heap[(⟨b, o, none⟩ : Addr).block]? = w.heap[(⟨b, o, none⟩ : Addr).block]? from h b h1 h2]

theorem StrsAt.keep {lo B : Nat} {w w' : World} {v : Value} {l : List ByteArray} (h : StrsAt lo w v l) (hk : Keep lo B w w') (hB : lo ≤ B) : StrsAt lo w' v l := by
  obtain ⟨h1, h2, a, cap, e, h3⟩ := h
  refine ⟨h1, h2, a, cap, e, fun hl => ?_⟩
  obtain ⟨b, o, ea, hb, hc⟩ := h3 hl
  exact ⟨b, o, ea, hb, fun i hi => (hk.cell (by omega) (by omega)).trans (hc i hi)⟩

theorem ValIs.keep {lo B B' : Nat} {w w' : World} {vs : List VN} (hk : Keep lo B w w') (hB : B ≤ B') (hlo : lo ≤ B) : ∀ {f i : Nat} {v : Value}, ValIs lo B w vs f i v → ValIs lo B' w' vs f i v := by
  intro f
  induction f with
  | zero => intro i v h; exact h.elim
  | succ f ih =>
    intro i v h
    have hit : ∀ it, ItemsAt lo B w it (nodeAt vs i).kids.length (fun j u => ValIs lo B w vs f (intAt (nodeAt vs i).kids j).toNat u) → ItemsAt lo B' w' it (nodeAt vs i).kids.length (fun j u => ValIs lo B' w' vs f (intAt (nodeAt vs i).kids j).toNat u) := by
      rintro it ⟨a, cap, e, hx⟩
      refine ⟨a, cap, e, fun hn => ?_⟩
      obtain ⟨b, ea, h1, h2, h3⟩ := hx hn
      refine ⟨b, ea, h1, by omega, fun j hj => ?_⟩
      obtain ⟨t, x, hc, hv⟩ := h3 j hj
      exact ⟨t, x, (hk.cell (by omega) h2).trans hc, ih hv⟩
    rcases h with h | h | h | h | ⟨hk5, it, e, hi⟩ | ⟨hk6, ks, it, e, hs, hi⟩
    · exact Or.inl h
    · exact Or.inr (Or.inl h)
    · exact Or.inr (Or.inr (Or.inl h))
    · exact Or.inr (Or.inr (Or.inr (Or.inl h)))
    · exact Or.inr (Or.inr (Or.inr (Or.inr (Or.inl ⟨hk5, it, e, hit it hi⟩))))
    · exact Or.inr (Or.inr (Or.inr (Or.inr (Or.inr ⟨hk6, ks, it, e, hs.keep hk hlo, hit it hi⟩))))

theorem ValIs.more {lo B : Nat} {w : World} {vs : List VN} : ∀ {f g i : Nat} {v : Value}, f ≤ g → ValIs lo B w vs f i v → ValIs lo B w vs g i v := by
  intro f
  induction f with
  | zero => intro g i v _ h; exact h.elim
  | succ f ih =>
    intro g i v hfg h
    match g, hfg with
    | g + 1, hfg =>
      have hit : ∀ it, ItemsAt lo B w it (nodeAt vs i).kids.length (fun j u => ValIs lo B w vs f (intAt (nodeAt vs i).kids j).toNat u) → ItemsAt lo B w it (nodeAt vs i).kids.length (fun j u => ValIs lo B w vs g (intAt (nodeAt vs i).kids j).toNat u) := by
        rintro it ⟨a, cap, e, hx⟩
        refine ⟨a, cap, e, fun hn => ?_⟩
        obtain ⟨b, ea, h1, h2, h3⟩ := hx hn
        refine ⟨b, ea, h1, h2, fun j hj => ?_⟩
        obtain ⟨t, x, hc, hv⟩ := h3 j hj
        exact ⟨t, x, hc, ih (by omega) hv⟩
      rcases h with h | h | h | h | ⟨hk5, it, e, hi⟩ | ⟨hk6, ks, it, e, hs, hi⟩
      · exact Or.inl h
      · exact Or.inr (Or.inl h)
      · exact Or.inr (Or.inr (Or.inl h))
      · exact Or.inr (Or.inr (Or.inr (Or.inl h)))
      · exact Or.inr (Or.inr (Or.inr (Or.inr (Or.inl ⟨hk5, it, e, hit it hi⟩))))
      · exact Or.inr (Or.inr (Or.inr (Or.inr (Or.inr ⟨hk6, ks, it, e, hs, hit it hi⟩))))

theorem infoVal : (Try.prog.info? 34).map (fun i => (i.zero, i.size, i.bytes)) = some (some .nilIface, 1, 16) := by kernel_rfl

def fillI (VV : Nat → Value) (k j : Nat) : Value := if j < k then VV j else .nilIface
theorem fillI_step {w : World} {b t n k : Nat} {VV : Nat → Value} {v : Value} (h : w.rowIs b t n (fillI VV k)) : (w.setCell ⟨b, k, none⟩ v).rowIs b t n (fillI (fun j => if j = k then v else VV j) (k + 1)) := by
  refine (h.set k _).congr fun i _ => ?_
  unfold fillI
  by_cases e : i = k
  · subst e; rw [if_pos rfl, if_pos (by omega)]; simp
  · rw [if_neg e]; by_cases g : i < k
    · rw [if_pos g, if_pos (by omega)]; simp [e]
    · rw [if_neg g, if_neg (by omega)]

theorem kidsIn_get {vs : List VN} {i j : Nat} (h : kidsIn vs i = true) (hj : j < (nodeAt vs i).kids.length) : 0 ≤ intAt (nodeAt vs i).kids j ∧ intAt (nodeAt vs i).kids j ≤ (i : Int) - 1 := by
  unfold kidsIn at h
  rw [List.all_eq_true] at h
  have := h (intAt (nodeAt vs i).kids j) (by unfold kidsOf; rw [intAt_get hj]; exact List.getElem_mem _)
  simpa using this

theorem fold_len {T : Nat → Option (Nat × Nat)} (hT : ∀ m p, T m = some p → p.1 ≤ m) : ∀ (l : List Int) (b h : Nat) (q : Nat × Nat), l.foldl (stepKid T) (some (b, h)) = some q → l.length ≤ b := by
  intro l
  induction l with
  | nil => intro b h q _; exact Nat.zero_le _
  | cons k l ih =>
    intro b h q e
    obtain ⟨p, h1, _, h3, h4⟩ := fold_cons_some e
    have := ih _ _ _ h4
    have := hT _ _ h3
    simp only [List.length_cons]
    omega

theorem tr_len {K : Nat → List Int} {n : Nat} {p : Nat × Nat} (e : tr K n = some p) : (K n).length ≤ n := by
  rw [tr_eq] at e
  cases hf : (K n).reverse.foldl (stepKid (tr K)) (some (n, 0)) with
  | none => simp [hf] at e
  | some q => have := fold_len (fun m p hp => tr_le hp) _ _ _ _ hf; simpa using this

/-- What right nodes are good for. -/
theorem okB_parts {vs : List VN} (h : okB vs = true) : (1 ≤ vs.length ∧ vs.length ≤ 80) ∧ (∀ k, k < vs.length → nodeB (nodeAt vs k) = true ∧ kidsIn vs k = true) ∧ (∀ k, k < vs.length → ∃ p, tr (kidsOf vs) k = some p) ∧ (∀ k, k < vs.length → (nodeAt vs k).kids.length ≤ k) := by
  have ht := okB_eq vs
  rw [h] at ht
  unfold okB sizeB at h
  unfold tabB at ht
  simp only [Bool.and_eq_true, List.all_eq_true, List.mem_range, decide_eq_true_eq] at h ht
  obtain ⟨⟨h1, h2⟩, h3⟩ := h
  have hs : ∀ k, k < vs.length → ∃ p, tr (kidsOf vs) k = some p := fun k hk => Option.isSome_iff_exists.1 (ht.2.1 k hk)
  exact ⟨h1, h2, hs, fun k hk => by obtain ⟨p, hp⟩ := hs k hk; exact tr_len hp⟩

/-- Own rows as items. -/
theorem items_of_own {lo base e n : Nat} {w : World} {it : Value} {f : Nat → Value} {P : Nat → Value → Prop} (h : w.ownsRow base e 1 it n ((List.range n).map f)) (hlo : lo < base) (hP : ∀ j, j < n → ∃ t x, f j = .iface t x ∧ P j (.iface t x)) : ItemsAt lo w.heap.size w it n P := by
  obtain ⟨_, h⟩ := h
  rcases h with ⟨rfl, rfl⟩ | ⟨g, cap, cur, rfl, hb, hg, hn, _, hsz, htk⟩
  · exact ⟨none, 0, rfl, fun h => absurd h (by omega)⟩
  · refine ⟨_, cap, rfl, fun hpos => ⟨g, rfl, by omega, (Array.getElem?_eq_some_iff.1 hg).1, fun j hj => ?_⟩⟩
    obtain ⟨t, x, hf, hp⟩ := hP j hj
    refine ⟨t, x, ?_, hp⟩
    have h1 : (cur.toList.take (n * 1))[j]? = some (f j) := by rw [htk]; simp [hj]
    rw [List.getElem?_take_of_lt (by omega), Array.getElem?_toList] at h1
    simp [World.cell?, hg, h1, hf]
end Go.Proofs.Ytagcgnhpdmhegaa

/-
  The specification's part of a value: nodes from the part's first on, in new memory.
-/
namespace Go.Proofs.Ytagcgnhpdmhegaa
open Go.RowKit
set_option linter.unusedSimpArgs false
set_option linter.unusedVariables false

theorem run_snoc (vs : List VN) (d : Int) (a n : Nat) : run vs d a (n + 1) = run vs d a n ++ [shiftN d (nodeAt vs (a + n))] := by
  rw [← run_append]; simp [run]

theorem own_below {w w' : World} {base e s n : Nat} {v : Value} {xs : List Value} {B : Nat} (h : w.ownsRow base e s v n xs) (hb : Below B w w') (hB : ∀ x, v.ownBlock = some x → x < B) : w'.ownsRow base e s v n xs := by
  refine ⟨h.1, ?_⟩
  rcases h.2 with hn | ⟨g, cap, cur, rfl, hg, hgg, rest⟩
  · exact .inl hn
  · exact .inr ⟨g, cap, cur, rfl, hg, (hb.block g (hB g rfl)).trans hgg, rest⟩

theorem Nest.below {base : Nat} {w w' : World} {v : Value} {vs : List VN} {KV IV : Nat → Value} (h : Nest base w v vs KV IV) (hb : Below w.heap.size w w') : Nest base w' v vs KV IV :=
  ⟨own_below h.row hb (fun x hx => (h.row.lt x hx).2), fun i hi => own_below (h.rk i hi) hb (fun x hx => ((h.rk i hi).lt x hx).2), fun i hi => own_below (h.ri i hi) hb (fun x hx => ((h.ri i hi).lt x hx).2), h.dkk, h.dii⟩

theorem newcell (w : World) (cs : Array Value) (t b j : Nat) (v : Value) (hb : b = w.heap.size) (h : cs[j]? = some v) : (w.alloc (.cells cs t)).cell? ⟨b, j, none⟩ = some v := by
  subst hb
  rw [cell_of_row _ _ j cs t (0, 0) (heap_alloc_new w _)]; exact h

theorem own_mono {w : World} {base base' e s n : Nat} {v : Value} {xs : List Value} (h : w.ownsRow base e s v n xs) (hb : base' ≤ base) : w.ownsRow base' e s v n xs := by
  refine ⟨h.1, ?_⟩
  rcases h.2 with hn | ⟨g, cap, cur, rfl, hg, rest⟩
  · exact .inl hn
  · exact .inr ⟨g, cap, cur, rfl, by omega, rest⟩

theorem own_set {w : World} {base e s n : Nat} {v : Value} {xs : List Value} (h : w.ownsRow base e s v n xs) {b o : Nat} (u : Value) (hne : ∀ x, v.ownBlock = some x → x ≠ b) : (w.setCell ⟨b, o, none⟩ u).ownsRow base e s v n xs := by
  refine ⟨h.1, ?_⟩
  rcases h.2 with hn | ⟨g, cap, cur, rfl, hg, hgg, rest⟩
  · exact .inl hn
  · exact .inr ⟨g, cap, cur, rfl, hg, (Below.heap_setCell w _ u g (hne g rfl)).trans hgg, rest⟩

def shifted (l : List Int) (d : Int) (k : Nat) : List Value := (l.take k).map (fun q => .int .i64 (q + d))
theorem shifted_zero (l : List Int) (d : Int) : shifted l d 0 = [] := by simp [shifted]
theorem shifted_succ {l : List Int} {d : Int} {k : Nat} (h : k < l.length) : shifted l d (k + 1) = shifted l d k ++ [.int .i64 (intAt l k + d)] := by
  unfold shifted
  rw [List.take_add_one, List.map_append, List.getElem?_eq_getElem h, intAt_get h]
  simp
theorem shifted_all (l : List Int) (d : Int) : shifted l d l.length = (l.map (· + d)).map (.int .i64) := by simp [shifted]

theorem own_slice {w : World} {base e s n : Nat} {v : Value} {xs : List Value} (h : w.ownsRow base e s v n xs) : ∃ a c, v = .slice a n c := by
  rcases h.2 with ⟨rfl, rfl⟩ | ⟨g, cap, cur, rfl, _⟩
  · exact ⟨_, _, rfl⟩
  · exact ⟨_, _, rfl⟩

end Go.Proofs.Ytagcgnhpdmhegaa
