/-
  impl.LengthOf: a refusal with its code, or the length's node.
-/
import Derived.Test.YtgmnihofkpjboaaDoorLenP
import Derived.Test.YtgmnihofkpjboaaDoorVOf
import Derived.Test.YtgmnihofkpjboaaDoorWn6
import Derived.Test.YtgmnihofkpjboaaDoorEAs
namespace Go.Proofs.YtgmnihofkpjboaaDoor
open Go.RowKit
set_option linter.unusedSimpArgs false
set_option linter.unusedVariables false

/-- What the package's variables hold: the errors' own type, and some error. -/
structure Errs (w : World) : Prop where
  et : ErrT w
  kind : ∃ a0 : Addr, w.cell? ⟨0, 0, none⟩ = some (.iface 157 (.pointer (some a0))) ∧ ∃ cs t, w.heap[a0.block]? = some (.cells cs t (0, 0))

theorem cell_lt {w : World} {b o : Nat} {v : Value} (h : w.cell? ⟨b, o, none⟩ = some v) : b < w.heap.size := by
  rcases Nat.lt_or_ge b w.heap.size with h1 | h1
  · exact h1
  · simp [World.cell?, Array.getElem?_eq_none h1] at h

theorem lt_heapE {w : World} {b : Nat} {o : Obj} (h : w.heap[b]? = some o) : b < w.heap.size := by
  rcases Nat.lt_or_ge b w.heap.size with h' | h'
  · exact h'
  · simp [Array.getElem?_eq_none h'] at h

theorem Errs.below {w w' : World} (h : Errs w) (hb : Below w.heap.size w w') : Errs w' := by
  obtain ⟨a0, hk, cs, t, hh⟩ := h.kind
  exact ⟨h.et.below hb h.et.lt, ⟨a0, (below_cell hb (cell_lt hk)).trans hk, cs, t, (hb.block _ (lt_heapE hh)).trans hh⟩⟩

/-- A reason: the package's own for what is of a wrong kind, just where the code says so. -/
def Rsn (w : World) (c : Int) (te : TypeId) (xe : Value) : Prop := ∃ a a0 : Addr, te = 157 ∧ xe = .pointer (some a) ∧ w.cell? ⟨0, 0, none⟩ = some (.iface 157 (.pointer (some a0))) ∧ (c = 2 ↔ a = a0) ∧ (∃ cs t, w.heap[a.block]? = some (.cells cs t (0, 0))) ∧ ∃ cs t, w.heap[a0.block]? = some (.cells cs t (0, 0))
theorem Rsn.below {w w' : World} {c : Int} {te : TypeId} {xe : Value} (h : Rsn w c te xe) (hb : Below w.heap.size w w') : Rsn w' c te xe := by
  obtain ⟨a, a0, e1, e2, hk, hc, ⟨cs, t, h1⟩, cs0, t0, h0⟩ := h
  exact ⟨a, a0, e1, e2, (below_cell hb (cell_lt hk)).trans hk, hc, ⟨cs, t, (hb.block _ (lt_heapE h1)).trans h1⟩, cs0, t0, (hb.block _ (lt_heapE h0)).trans h0⟩
/-- A refusal with a code. -/
def Refuses (w : World) (c : Int) (v : Value) : Prop := ∃ te xe, v = .iface 103 (.agg #[.int .i64 c, .iface te xe]) ∧ Rsn w c te xe
theorem Refuses.below {w w' : World} {c : Int} {v : Value} (h : Refuses w c v) (hb : Below w.heap.size w w') : Refuses w' c v := by
  obtain ⟨te, xe, e, hr⟩ := h
  exact ⟨te, xe, e, hr.below hb⟩

set_option maxHeartbeats 800000 in
theorem wrongKind_any (w : World) (h : Errs w) : Calls Tryd.prog 51 #[] w fun e w' => (∃ v, e = .returned v ∧ Refuses w' 2 v) ∧ w' = w := by
  obtain ⟨a0, hk, cs, t, hh⟩ := h.kind
  have HR : Hid (Rsn w 2 157 (.pointer (some a0))) := ⟨a0, a0, rfl, rfl, hk, ⟨fun _ => rfl, fun _ => rfl⟩, ⟨cs, t, hh⟩, cs, t, hh⟩
  clear h hh
  go_enter Tryd.func51, Tryd.ntmps51
  go_wp2_with fail
  go_ret
  exact ⟨⟨_, rfl, _, _, rfl, HR.out⟩, rfl⟩

theorem ta_null_list (x : Value) (w : World) : (Instr.typeAssert (.iface 101 x) 44 97 true).run Tryd.prog w = .ok (.tuple #[.agg #[.slice none 0 0], .bool false]) w := by kernel_rfl

/-- What comes of a length. -/
def LenAns (w : World) (o : Option Int) (e : Ending) : Prop := match o with
  | some n => e = .returned (.tuple #[.iface 81 (.agg #[.int .i64 n]), .nilIface])
  | none => ∃ v, e = .returned (.tuple #[.nilIface, v]) ∧ Refuses w 2 v

set_option maxRecDepth 100000 in
set_option maxHeartbeats 3200000 in
theorem lengthOf_any (f : Nat) (x : VN) (kids : List VT) (v : Value) (w : World) (ht : TreeAt w.heap.size w (f + 1) (.mk x.kind x.n x.s x.keys kids) v) (hk : kids.length = x.kids.length) (hE : Errs w) (hn : -1000000000000000 ≤ x.n ∧ x.n ≤ 1000000000000000) (hs : x.s.size ≤ 1000000) :
    Calls Tryd.prog 25 #[v] w fun e w' => LenAns w' (lenK x) e ∧ Below w.heap.size w w' := by
  have ta1 := ta_null_bool
  have ta2 := ta_null_int
  have ta3 := ta_null_text
  have tb1 := ta_bool_bool
  have ti1 := ta_int_bool
  have ti2 := ta_int_int
  have tt1 := ta_text_bool
  have tt2 := ta_text_int
  have tt3 := ta_text_text
  have tl1 := ta_list_bool
  have tl2 := ta_list_int
  have tl3 := ta_list_text
  have tm1 := ta_map_bool
  have tm2 := ta_map_int
  have tm3 := ta_map_text
  have HE := hideIt hE
  obtain ⟨hn1, hn2⟩ := hn
  clear hE
  rcases ht with ⟨k, _, _, _, hk0, e⟩ | ⟨k, _, _, hk0, e⟩ | ⟨k, _, _, hk0, e⟩ | ⟨k, _, _, hk0, e⟩ | ⟨k, _, _, _, it, e, hi⟩ | ⟨k, _, _, ks, it, e, hs', hi⟩
  · have HL : Hid (lenK x = some 0) := by unfold Hid lenK; simp [k]
    rw [HL.out]
    cases e
    go_enter Tryd.func25, Tryd.ntmps25
    go_wp2_with fail
    refine (parts1_any _).mono ?_
    rintro e w1 ⟨rfl, hb⟩
    go_wp2_with fail
    go_ret2
    exact ⟨rfl, hb⟩
  · have HL : Hid (lenK x = none) := by unfold Hid lenK; simp [k]
    rw [HL.out]
    cases e
    have HE2 := hideIt (HE.out.below ((Below.refl w.heap.size w).alloc (Nat.le_refl _) (.cells #[.int .i64 x.n] 79)))
    go_enter Tryd.func25, Tryd.ntmps25
    go_wp2_with fail
    refine (wrongKind_any _ HE2.out).mono ?_
    rintro e w1 ⟨⟨v, rfl, te, xe, rfl, hrs⟩, rfl⟩
    have HRS := hideIt hrs
    clear hrs
    go_wp2_with fail
    go_ret2
    exact ⟨⟨_, rfl, te, xe, rfl, HRS.out⟩, (Below.refl _ _).alloc (Nat.le_refl _) _⟩
  · by_cases hlt : x.n < -x.n
    · have HL : Hid (lenK x = some (-x.n)) := by unfold Hid lenK; simp [k]; omega
      rw [HL.out]
      cases e
      go_enter Tryd.func25, Tryd.ntmps25
      go_wp2_with fail
      go_ret2
      exact ⟨rfl, (Below.refl _ _).alloc (Nat.le_refl _) _⟩
    · have HL : Hid (lenK x = some x.n) := by unfold Hid lenK; simp [k]; omega
      rw [HL.out]
      cases e
      go_enter Tryd.func25, Tryd.ntmps25
      go_wp2_with fail
      go_ret2
      exact ⟨rfl, (Below.refl _ _).alloc (Nat.le_refl _) _⟩
  · have HL : Hid (lenK x = some (x.s.size : Int)) := by unfold Hid lenK; simp [k]
    rw [HL.out]
    cases e
    go_enter Tryd.func25, Tryd.ntmps25
    go_wp2_with fail
    go_ret2
    exact ⟨rfl, (Below.refl _ _).alloc (Nat.le_refl _) _⟩
  · have HL : Hid (lenK x = some (x.kids.length : Int)) := by unfold Hid lenK; simp [k]
    rw [HL.out]
    cases e
    obtain ⟨_, a, c, rfl, _⟩ := hi
    rw [hk]
    go_enter Tryd.func25, Tryd.ntmps25
    go_wp2_with fail
    refine (parts5_any _ _ _ _).mono ?_
    rintro e w1 ⟨rfl, hb⟩
    go_wp2_with fail
    go_ret2
    exact ⟨rfl, hb⟩
  · have HL : Hid (lenK x = some (x.kids.length : Int)) := by unfold Hid lenK; simp [k]
    rw [HL.out]
    cases e
    obtain ⟨_, a, c, rfl, _⟩ := hi
    obtain ⟨_, _, a', c', rfl, _⟩ := hs'
    rw [hk]
    go_enter Tryd.func25, Tryd.ntmps25
    go_wp2_with fail
    refine (parts6_any _ _ _ _ _ _ _).mono ?_
    rintro e w1 ⟨rfl, hb⟩
    go_wp2_with fail
    go_ret2
    exact ⟨rfl, hb⟩

/-- A number's tree is one node. -/
theorem lay_number (n : Int) : layT 1 (.mk 3 n ByteArray.empty [] []) 0 = leafN 3 n ByteArray.empty := by
  rfl

set_option maxRecDepth 100000 in
set_option maxHeartbeats 3200000 in
theorem nodesOr_no (c : Int) (u v : Value) (w : World) (hv : ∃ te xe, v = .iface 103 (.agg #[.int .i64 c, .iface te xe])) (hu : u = .nilIface ∨ ∃ t x, u = .iface t x) (hE : Errs w) :
    Calls Tryd.prog 24 #[u, v] w fun e w' => e = .returned (.tuple #[.slice none 0 0, .int .i64 c]) ∧ Below w.heap.size w w' := by
  obtain ⟨te, xe, rfl⟩ := hv
  have HE := hideIt hE
  clear hE
  rcases hu with rfl | ⟨t, x, rfl⟩
  all_goals
    go_enter Tryd.func24, Tryd.ntmps24
    go_wp2_with fail
    refine (codeOf_hit c te xe w HE.out.et).mono ?_
    rintro e w1 ⟨rfl, hb⟩
    go_wp2_with fail
    go_ret2
    exact ⟨rfl, hb⟩

set_option maxRecDepth 100000 in
set_option maxHeartbeats 3200000 in
theorem nodesOr_yes (f : Nat) (t : VT) (x : Value) (ns : List VN) (w : World) (ht : TreeAt w.heap.size w f t x) (hns : layT f t 0 = ns) (hn : ns.length ≤ 100000) :
    Calls Tryd.prog 24 #[x, .nilIface] w fun e w' => ∃ r KV IV, e = .returned (.tuple #[r, .int .i64 0]) ∧ Nest w.heap.size w' r ns KV IV ∧ Below w.heap.size w w' := by
  obtain ⟨ty, xv, rfl⟩ : ∃ ty xv, x = .iface ty xv := by
    cases f with
    | zero => exact ht.elim
    | succ f =>
      obtain ⟨kind, n, s, keys, kids⟩ := t
      rcases ht with ⟨_, _, _, _, _, rfl⟩ | ⟨_, _, _, _, rfl⟩ | ⟨_, _, _, _, rfl⟩ | ⟨_, _, _, _, rfl⟩ | ⟨_, _, _, _, it, rfl, _⟩ | ⟨_, _, _, ks, it, rfl, _⟩ <;> exact ⟨_, _, rfl⟩
  have HT := hideIt ht
  have HNS := hideIt hns
  clear ht hns
  go_enter Tryd.func24, Tryd.ntmps24
  go_wp2_with fail
  refine (withNodes_any w.heap.size w.heap.size (Nat.le_refl _) f t (.iface ty xv) (.slice none 0 0) [] (fun _ => undef) (fun _ => undef) w (Nest.nil _ _ _ _) HT.out (Nat.le_refl _) (by rw [List.length_nil, HNS.out]; omega)).mono ?_
  rintro e w1 ⟨r, K, I, rfl, hl1⟩
  have hn1 : Nest w.heap.size w1 r ns K I := by have := hl1.1; rw [List.nil_append, List.length_nil, HNS.out] at this; exact this
  have hb1 : Below w.heap.size w w1 := (Below.refl _ _).grown hl1.2.1 (Nat.le_refl _) (fun k hk => by simp [Value.ownBlock] at hk)
  have HN1 := hideIt hn1
  have HB1 := hideIt hb1
  obtain ⟨ar, cr, er⟩ := own_slice hn1.row
  obtain ⟨N, hN⟩ : ∃ N, ns.length = N := ⟨_, rfl⟩
  rw [hN] at er
  subst er
  clear hn1 hb1 hN hl1
  go_wp2_with fail
  go_ret2
  exact ⟨_, K, I, rfl, HN1.out, HB1.out⟩

theorem len_nodeb {vs : List VN} (hok : okB vs = true) : (-1000000000000000 ≤ (rootN vs).n ∧ (rootN vs).n ≤ 1000000000000000) ∧ (rootN vs).s.size ≤ 1000000 := by
  obtain ⟨p1, p2, _, _⟩ := okB_parts hok
  have hn := (p2 (vs.length - 1) (by omega)).1
  change nodeB (rootN vs) = true at hn
  unfold nodeB at hn
  simp only [Bool.and_eq_true] at hn
  obtain ⟨h1, h2⟩ := hn
  unfold unnamedB at h1
  simp only [Bool.and_eq_true, Bool.not_eq_true', Bool.and_eq_false_iff, decide_eq_false_iff_not, Decidable.not_not, Nat.not_lt, Nat.le_zero, ne_eq] at h1
  obtain ⟨⟨⟨n1, n2⟩, _⟩, _⟩ := h1
  unfold namedB at h2
  constructor
  · rcases n1 with (h | h) | h
    · simp [h] at h2; omega
    · simp [h] at h2; omega
    · omega
  · rcases n2 with h | h
    · simp [h, textB] at h2; omega
    · have e : (rootN vs).s = ByteArray.empty := by
        cases hs : (rootN vs).s with | mk d => rw [hs, ByteArray.toList_eq] at h; simp at h; subst h; rfl
      rw [e]; decide

set_option maxRecDepth 100000 in
set_option maxHeartbeats 3200000 in
theorem implLengthOf_any (B : Nat) (v : Value) (vs : List VN) (w : World) (h : NodesAt B w v vs) (hB : B ≤ w.heap.size) (hE : Errs w) :
    Calls Tryd.prog 10 #[v] w fun e w' => ∃ r base KV IV, e = .returned (.tuple #[r, .int .i64 (lenC vs)]) ∧ w.heap.size ≤ base ∧ base ≤ w'.heap.size ∧ Nest base w' r (lenNs vs) KV IV ∧ Below w.heap.size w w' := by
  have HV := hideIt h
  obtain ⟨_, a, cap, rfl, _⟩ := h
  have HLN : Hid (lenNs vs = if okB vs = true then oneNs (lenK (rootN vs)) else []) := rfl
  have HLC : Hid (lenC vs = if okB vs = true then kindC (lenK (rootN vs)) else 1) := rfl
  have HE := hideIt hE
  clear hE
  go_enter Tryd.func10, Tryd.ntmps10
  go_wp2_with fail
  cases ok1 : okB vs
  · refine (valueOf_no B _ vs _ HV.out hB ok1).mono ?_
    rintro e w1 ⟨rfl, hb1⟩
    have z1 := hb1.size
    go_wp2_with fail
    go_ret2
    exact ⟨_, w.heap.size, fun _ => undef, fun _ => undef, by rw [HLC.out, ok1]; rfl, Nat.le_refl _, z1, by rw [HLN.out, ok1]; exact Nest.nil _ _ _ _, hb1⟩
  · refine (valueOf_yes B _ vs _ HV.out hB ok1).mono ?_
    rintro e w1 ⟨lo1, t, x, rfl, hl1, hl1', hv1, hb1⟩
    have z1 := hb1.size
    obtain ⟨p1, p2, _, p4⟩ := okB_parts ok1
    have ht := ValIs.tree (by omega) p2 p4 p1.2 (by omega) hv1
    obtain ⟨f, hf⟩ : ∃ f, vs.length = f + 1 := ⟨vs.length - 1, by omega⟩
    rw [hf, show f + 1 - 1 = f by omega, treeOf] at ht
    have hrn : rootN vs = nodeAt vs f := by unfold rootN; rw [hf]; rfl
    have HLB := hideIt (len_nodeb ok1)
    have HLR : Hid (∀ n, lenK (rootN vs) = some n → 0 ≤ n ∧ n ≤ 1000000000000000) := fun n h => len_range ok1 h
    rw [hrn] at HLB HLR HLN HLC
    have HT := hideIt ht
    have HB1 := hideIt hb1
    have HE1 := hideIt (HE.out.below hb1)
    rw [ok1, if_pos rfl] at HLN HLC
    clear hv1 p2 p4 hf hb1 ht hrn
    go_wp2_with fail
    refine (lengthOf_any f (nodeAt vs f) _ _ w1 HT.out (by simp) HE1.out HLB.out.1 HLB.out.2).mono ?_
    rintro e w2 ⟨hans, hb2⟩
    have HB2 := hideIt (HB1.out.trans (hb2.mono z1))
    have HE2 := hideIt (HE1.out.below hb2)
    have z2 := HB2.out.size
    clear hb2
    cases hl : lenK (nodeAt vs f) with
    | none =>
      rw [hl] at hans HLN HLC
      obtain ⟨u, rfl, te, xe, rfl, _⟩ := hans
      clear hl
      go_wp2_with fail
      refine (nodesOr_no 2 _ _ w2 ⟨te, xe, rfl⟩ (Or.inl rfl) HE2.out).mono ?_
      rintro e w3 ⟨rfl, hb3⟩
      have HB3 := hideIt (HB2.out.trans (hb3.mono z2))
      clear hb3
      go_wp2_with fail
      go_ret2
      exact ⟨_, w.heap.size, fun _ => undef, fun _ => undef, by rw [HLC.out]; rfl, Nat.le_refl _, HB3.out.size, by rw [HLN.out]; exact Nest.nil _ _ _ _, HB3.out⟩
    | some n =>
      rw [hl] at hans HLN HLC
      have hans' : e = .returned (.tuple #[.iface 81 (.agg #[.int .i64 n]), .nilIface]) := hans
      subst hans'
      have HTN : Hid (TreeAt w2.heap.size w2 1 (.mk 3 n ByteArray.empty [] []) (.iface 81 (.agg #[.int .i64 n]))) := Or.inr (Or.inr (Or.inl ⟨rfl, rfl, rfl, rfl, rfl⟩))
      clear hl hans
      go_wp2_with fail
      refine (nodesOr_yes 1 _ _ (leafN 3 n ByteArray.empty) w2 HTN.out (lay_number n) (by simp [leafN])).mono ?_
      rintro e w3 ⟨r, KV, IV, rfl, hn3, hb3⟩
      have HN3 := hideIt hn3
      have HB3 := hideIt (HB2.out.trans (hb3.mono z2))
      have z3 := hb3.size
      obtain ⟨ar, cr, er⟩ := own_slice hn3.row
      simp only [leafN, List.length_cons, List.length_nil] at er
      subst er
      clear hn3 hb3
      go_wp2_with fail
      go_ret2
      exact ⟨_, w2.heap.size, KV, IV, by rw [HLC.out]; rfl, by omega, by omega, by rw [HLN.out]; exact HN3.out, HB3.out⟩
end Go.Proofs.YtgmnihofkpjboaaDoor
