/-
  impl.rightNodes: the nodes of a value, if these are right.
-/
import Derived.Test.YtbclgogolimbgaaWn6
import Derived.Test.YtbclgogolimbgaaWn5
import Derived.Test.YtbclgogolimbgaaVOf
import Derived.Test.YtbclgogolimbgaaSParts
namespace Go.Proofs.Ytbclgogolimbgaa
open Go.RowKit
set_option linter.unusedSimpArgs false
set_option linter.unusedVariables false

theorem TreeAt.iface {B : Nat} {w : World} {f : Nat} {t : VT} {v : Value} (h : TreeAt B w f t v) : ∃ ty x, v = .iface ty x := by
  cases f with
  | zero => exact h.elim
  | succ f =>
    obtain ⟨kind, n, s, keys, kids⟩ := t
    rcases h with ⟨_, _, _, _, _, rfl⟩ | ⟨_, _, _, _, rfl⟩ | ⟨_, _, _, _, rfl⟩ | ⟨_, _, _, _, rfl⟩ | ⟨_, _, _, _, it, rfl, _⟩ | ⟨_, _, _, ks, it, rfl, _⟩ <;> exact ⟨_, _, rfl⟩

def rightNs (ns : List VN) : List VN := if okB ns = true then ns else []

set_option maxRecDepth 100000 in
set_option maxHeartbeats 3200000 in
theorem rightNodes_any (f : Nat) (t : VT) (x : Value) (ns : List VN) (w : World) (ht : TreeAt w.heap.size w f t x) (hns : layT f t 0 = ns) (hn : ns.length ≤ 100000) (hf : ∀ i, i < ns.length → Fits (nodeAt ns i)) :
    Calls Try.prog 47 #[x] w fun e w' => ∃ r base KV IV, e = .returned (.tuple #[r, .bool (okB ns)]) ∧ w.heap.size ≤ base ∧ base ≤ w'.heap.size ∧ Nest base w' r (rightNs ns) KV IV ∧ Below w.heap.size w w' := by
  obtain ⟨ty, xv, rfl⟩ := ht.iface
  have HT := hideIt ht
  have HNS := hideIt hns
  have HF := hideIt hf
  have HRN : Hid (rightNs ns = if okB ns = true then ns else []) := rfl
  clear ht hns hf
  go_enter Try.func47, Try.ntmps47
  go_wp2_with fail
  refine (withNodes_any w.heap.size w.heap.size (Nat.le_refl _) f t (.iface ty xv) (.slice none 0 0) [] (fun _ => undef) (fun _ => undef) w (Nest.nil _ _ _ _) HT.out (Nat.le_refl _) (by rw [List.length_nil, HNS.out]; omega)).mono ?_
  rintro e w1 ⟨r, K, I, rfl, hl1⟩
  have hn1 : Nest w.heap.size w1 r ns K I := by have := hl1.1; rw [List.nil_append, List.length_nil, HNS.out] at this; exact this
  have hb1 : Below w.heap.size w w1 := (Below.refl _ _).grown hl1.2.1 (Nat.le_refl _) (fun k hk => by simp [Value.ownBlock] at hk)
  have z1 := hb1.size
  have HN1 := hideIt hn1
  have HB1 := hideIt hb1
  obtain ⟨ar, cr, er⟩ := own_slice hn1.row
  obtain ⟨N, hN⟩ : ∃ N, ns.length = N := ⟨_, rfl⟩
  rw [hN] at er
  subst er
  clear hn1 hb1 hN hl1
  go_wp2_with fail
  refine (implOk_any w1.heap.size _ ns _ (HN1.out.nodes (by omega) HF.out) (Nat.le_refl _)).mono ?_
  rintro e w2 ⟨rfl, hb2⟩
  have z2 := hb2.size
  have HN2 := hideIt (HN1.out.below hb2)
  have HB2 := hideIt (HB1.out.trans (hb2.mono z1))
  clear hb2
  cases ok1 : okB ns
  · go_wp2_with fail
    go_ret2
    exact ⟨.slice none 0 0, w.heap.size, fun _ => undef, fun _ => undef, by rw [ok1]; rfl, Nat.le_refl _, by omega, by rw [HRN.out, ok1]; exact Nest.nil _ _ _ _, HB2.out⟩
  · go_wp2_with fail
    go_ret2
    exact ⟨.slice ar N cr, w.heap.size, K, I, by rw [ok1]; rfl, Nat.le_refl _, by omega, by rw [HRN.out, ok1]; exact HN2.out, HB2.out⟩
end Go.Proofs.Ytbclgogolimbgaa

/-
  impl.PartsOf: the rows of the parts' nodes, in new memory.
-/
namespace Go.Proofs.Ytbclgogolimbgaa
open Go.RowKit
set_option linter.unusedSimpArgs false
set_option linter.unusedVariables false

set_option maxRecDepth 100000 in
set_option maxHeartbeats 6400000 in
theorem implPartsOf_any (B : Nat) (v : Value) (vs : List VN) (w : World) (h : NodesAt B w v vs) (hB : B ≤ w.heap.size) :
    Calls Try.prog 16 #[v] w fun e w' => ∃ r base rs KV IV lo, e = .returned r ∧ w.heap.size ≤ base ∧ Rows2 base w' r (partsN vs) (PL vs) rs KV IV lo ∧ Below w.heap.size w w' := by
  have HV := hideIt h
  obtain ⟨_, a, cap, rfl, _⟩ := h
  have HPN : Hid (partsN vs = if okB vs = true then (rootKids vs).length else 0) := rfl
  obtain ⟨i0, hi0, hz0, hs0, hy0⟩ := info_parts infoRow
  go_enter Try.func16, Try.ntmps16
  go_wp2_with fail
  cases ok1 : okB vs
  · refine (valueOf_no B _ vs _ HV.out hB ok1).mono ?_
    rintro e w1 ⟨rfl, hb1⟩
    have z1 := hb1.size
    go_wp2_with fail
    go_ret
    exact ⟨_, w1.heap.size, _, _, _, _, rfl, z1, by rw [HPN.out, ok1]; exact Rows2.start (World.ownsRow_nil _ _ _ _) (Nat.le_refl _) (PL vs), hb1⟩
  · refine (valueOf_yes B _ vs _ HV.out hB ok1).mono ?_
    rintro e w1 ⟨lo1, t, x, rfl, hl1, hl1', hv1, hb1⟩
    have z1 := hb1.size
    obtain ⟨p1, p2, _, p4⟩ := okB_parts ok1
    have ht := ValIs.tree (by omega) p2 p4 p1.2 (by omega) hv1
    obtain ⟨f, hf⟩ : ∃ f, vs.length = f + 1 := ⟨vs.length - 1, by omega⟩
    have HRK := hideIt (fun k hk => root_kid (k := k) ok1 hk)
    have HLP := hideIt (fun q (hq : q < f) => (lay_part ok1 hq (show q < vs.length by omega)))
    have HB1 := hideIt hb1
    have HPN1 : Hid (partsN vs = (rootKids vs).length) := by rw [Hid, HPN.out, if_pos ok1]
    rw [hf, show f + 1 - 1 = f by omega, treeOf] at ht
    have hk80 : (rootKids vs).length ≤ 80 := by have := p4 (vs.length - 1) (by omega); unfold rootKids; omega
    have HRE : Hid (rootKids vs = (nodeAt vs f).kids) := by rw [Hid]; unfold rootKids; rw [hf]; rfl
    have HTK : Hid (∀ k, k < (rootKids vs).length → ∃ q : Nat, kidT ((nodeAt vs f).kids.map fun k => treeOf vs f k.toNat) k = treeOf vs f q ∧ PL vs k = partOf vs q ∧ q < f) := by
      intro k hk
      obtain ⟨q, hq, hql⟩ := HRK.out k hk
      refine ⟨q, ?_, ?_, by omega⟩
      · rw [← HRE.out, kidT_map hk, hq, Int.toNat_natCast]
      · unfold PL; rw [hq, Int.toNat_natCast]
    obtain ⟨M, hM⟩ : ∃ M, (rootKids vs).length = M := ⟨_, rfl⟩
    have hM2 : ((nodeAt vs f).kids.map fun k => treeOf vs f k.toNat).length = M := by rw [List.length_map, ← HRE.out, hM]
    rw [hM] at hk80 HTK HPN1
    generalize ((nodeAt vs f).kids.map fun k => treeOf vs f k.toNat) = TT at ht HTK hM2
    clear hv1 p2 p4 hf hM hb1
    rcases ht with ⟨_, _, _, _, hk0, e⟩ | ⟨_, _, _, hk0, e⟩ | ⟨_, _, _, hk0, e⟩ | ⟨_, _, _, hk0, e⟩ | ⟨_, _, _, _, it, e, hi⟩ | ⟨_, _, _, ks, it, e, hs, hi⟩
    · cases e
      obtain rfl : M = 0 := by rw [← hM2, hk0]; rfl
      clear hk0 hM2 HTK
      go_wp2_with fail
      refine (parts1_any _).mono ?_
      rintro e w2 ⟨rfl, hb2⟩
      have z2 := hb2.size
      have HB2 := hideIt hb2
      have HR0 := hideIt (Rows2.start (base := w2.heap.size) (World.ownsRow_nil _ _ _ _) (Nat.le_refl _) (PL vs))
      clear hb2
      go_wp2_with fail
      go_loopw [5, 18] (fun o i wr => ∃ (k : Nat) (rs : Nat → Value) (KV IV : Nat → Nat → Value) (lo : Nat → Nat), k ≤ 0 ∧ i = .int .i64 k ∧ Rows2 w2.heap.size wr o k (PL vs) rs KV IV lo ∧ Below w2.heap.size w2 wr) (fun _ i _ => 0 - (intOf i).toNat)
      case atStart => exact ⟨0, _, _, _, _, Nat.zero_le _, rfl, HR0.out, Below.refl _ _⟩
      case round =>
        obtain ⟨k, rs, KV, IV, lo, hk, rfl, hrows, hbl⟩ := hrel
        have HR := hideIt hrows
        have zs := hbl.size
        obtain ⟨ao, co, eo⟩ := own_slice hrows.row
        subst eo
        clear hrows
        obtain rfl : k = 0 := by omega
        go_wp2_with fail
        go_ret
        exact ⟨_, w2.heap.size, _, _, _, _, rfl, by omega, by rw [HPN1.out]; exact HR.out, (HB1.out.trans (HB2.out.mono z1)).trans (hbl.mono (by omega))⟩
    · cases e
      obtain rfl : M = 0 := by rw [← hM2, hk0]; rfl
      clear hk0 hM2 HTK
      go_wp2_with fail
      refine (parts2_any _ _).mono ?_
      rintro e w2 ⟨rfl, hb2⟩
      have z2 := hb2.size
      have HB2 := hideIt hb2
      have HR0 := hideIt (Rows2.start (base := w2.heap.size) (World.ownsRow_nil _ _ _ _) (Nat.le_refl _) (PL vs))
      clear hb2
      go_wp2_with fail
      go_loopw [5, 18] (fun o i wr => ∃ (k : Nat) (rs : Nat → Value) (KV IV : Nat → Nat → Value) (lo : Nat → Nat), k ≤ 0 ∧ i = .int .i64 k ∧ Rows2 w2.heap.size wr o k (PL vs) rs KV IV lo ∧ Below w2.heap.size w2 wr) (fun _ i _ => 0 - (intOf i).toNat)
      case atStart => exact ⟨0, _, _, _, _, Nat.zero_le _, rfl, HR0.out, Below.refl _ _⟩
      case round =>
        obtain ⟨k, rs, KV, IV, lo, hk, rfl, hrows, hbl⟩ := hrel
        have HR := hideIt hrows
        have zs := hbl.size
        obtain ⟨ao, co, eo⟩ := own_slice hrows.row
        subst eo
        clear hrows
        obtain rfl : k = 0 := by omega
        go_wp2_with fail
        go_ret
        exact ⟨_, w2.heap.size, _, _, _, _, rfl, by omega, by rw [HPN1.out]; exact HR.out, (HB1.out.trans (HB2.out.mono z1)).trans (hbl.mono (by omega))⟩
    · cases e
      obtain rfl : M = 0 := by rw [← hM2, hk0]; rfl
      clear hk0 hM2 HTK
      go_wp2_with fail
      refine (parts3_any _ _).mono ?_
      rintro e w2 ⟨rfl, hb2⟩
      have z2 := hb2.size
      have HB2 := hideIt hb2
      have HR0 := hideIt (Rows2.start (base := w2.heap.size) (World.ownsRow_nil _ _ _ _) (Nat.le_refl _) (PL vs))
      clear hb2
      go_wp2_with fail
      go_loopw [5, 18] (fun o i wr => ∃ (k : Nat) (rs : Nat → Value) (KV IV : Nat → Nat → Value) (lo : Nat → Nat), k ≤ 0 ∧ i = .int .i64 k ∧ Rows2 w2.heap.size wr o k (PL vs) rs KV IV lo ∧ Below w2.heap.size w2 wr) (fun _ i _ => 0 - (intOf i).toNat)
      case atStart => exact ⟨0, _, _, _, _, Nat.zero_le _, rfl, HR0.out, Below.refl _ _⟩
      case round =>
        obtain ⟨k, rs, KV, IV, lo, hk, rfl, hrows, hbl⟩ := hrel
        have HR := hideIt hrows
        have zs := hbl.size
        obtain ⟨ao, co, eo⟩ := own_slice hrows.row
        subst eo
        clear hrows
        obtain rfl : k = 0 := by omega
        go_wp2_with fail
        go_ret
        exact ⟨_, w2.heap.size, _, _, _, _, rfl, by omega, by rw [HPN1.out]; exact HR.out, (HB1.out.trans (HB2.out.mono z1)).trans (hbl.mono (by omega))⟩
    · cases e
      obtain rfl : M = 0 := by rw [← hM2, hk0]; rfl
      clear hk0 hM2 HTK
      go_wp2_with fail
      refine (parts4_any _ _).mono ?_
      rintro e w2 ⟨rfl, hb2⟩
      have z2 := hb2.size
      have HB2 := hideIt hb2
      have HR0 := hideIt (Rows2.start (base := w2.heap.size) (World.ownsRow_nil _ _ _ _) (Nat.le_refl _) (PL vs))
      clear hb2
      go_wp2_with fail
      go_loopw [5, 18] (fun o i wr => ∃ (k : Nat) (rs : Nat → Value) (KV IV : Nat → Nat → Value) (lo : Nat → Nat), k ≤ 0 ∧ i = .int .i64 k ∧ Rows2 w2.heap.size wr o k (PL vs) rs KV IV lo ∧ Below w2.heap.size w2 wr) (fun _ i _ => 0 - (intOf i).toNat)
      case atStart => exact ⟨0, _, _, _, _, Nat.zero_le _, rfl, HR0.out, Below.refl _ _⟩
      case round =>
        obtain ⟨k, rs, KV, IV, lo, hk, rfl, hrows, hbl⟩ := hrel
        have HR := hideIt hrows
        have zs := hbl.size
        obtain ⟨ao, co, eo⟩ := own_slice hrows.row
        subst eo
        clear hrows
        obtain rfl : k = 0 := by omega
        go_wp2_with fail
        go_ret
        exact ⟨_, w2.heap.size, _, _, _, _, rfl, by omega, by rw [HPN1.out]; exact HR.out, (HB1.out.trans (HB2.out.mono z1)).trans (hbl.mono (by omega))⟩
    · cases e
      rw [hM2] at hi
      obtain ⟨_, ai, ci, rfl, hx⟩ := hi
      have HX := hideIt hx
      clear hx hM2
      go_wp2_with fail
      refine (parts5_any _ _ _ _).mono ?_
      rintro e w2 ⟨rfl, hb2⟩
      have z2 := hb2.size
      have HB2 := hideIt hb2
      have HR0 := hideIt (Rows2.start (base := w2.heap.size) (World.ownsRow_nil _ _ _ _) (Nat.le_refl _) (PL vs))
      clear hb2
      go_wp2_with fail
      go_loopw [5, 18] (fun o i wr => ∃ (k : Nat) (rs : Nat → Value) (KV IV : Nat → Nat → Value) (lo : Nat → Nat), k ≤ M ∧ i = .int .i64 k ∧ Rows2 w2.heap.size wr o k (PL vs) rs KV IV lo ∧ Below w2.heap.size w2 wr) (fun _ i _ => M - (intOf i).toNat)
      case atStart => exact ⟨0, _, _, _, _, Nat.zero_le _, rfl, HR0.out, Below.refl _ _⟩
      case round =>
        obtain ⟨k, rs, KV, IV, lo, hk, rfl, hrows, hbl⟩ := hrel
        have HR := hideIt hrows
        have zs := hbl.size
        obtain ⟨ao, co, eo⟩ := own_slice hrows.row
        subst eo
        clear hrows
        by_cases hlt : k < M
        · obtain ⟨b, rfl, hbB, hc⟩ := HX.out (by omega)
          obtain ⟨tk, xk, hck, htk⟩ := hc k hlt
          obtain ⟨q, hq1, hq2, hqf⟩ := HTK.out k hlt
          have hw : ∀ c, c < w1.heap.size → wr.heap[c]? = w1.heap[c]? := fun c hcc => (hbl.block c (by omega)).trans (HB2.out.block c hcc)
          have hck' : wr.cell? ⟨b, k, none⟩ = some (.iface tk xk) := (World.cell?_of_block (hw b hbB)).trans hck
          rw [hq1] at htk
          have HT := hideIt (TreeAt.keep hw (Nat.le_refl _) htk)
          have HL := hideIt (HLP.out q hqf)
          have HQ2 := hideIt hq2
          clear hc hck htk hq1 hq2 hw
          go_wp2_with fail
          refine (withNodes_any w1.heap.size wr.heap.size (by omega) f (treeOf vs f q) (.iface tk xk) (.slice none 0 0) [] (fun _ => undef) (fun _ => undef) wr (Nest.nil _ _ _ _) HT.out (Nat.le_refl _) (by have := HL.out; simp only [List.length_nil, Nat.zero_add, this.1]; omega)).mono ?_
          rintro e w3 ⟨r, K, I, rfl, hl3⟩
          have hn3 : Nest wr.heap.size w3 r (PL vs k) K I := by have := hl3.1; rw [List.nil_append, List.length_nil, HL.out.1, ← HQ2.out] at this; exact this
          have hb3 : Below wr.heap.size wr w3 := (Below.refl _ _).grown hl3.2.1 (Nat.le_refl _) (fun k hk => by simp [Value.ownBlock] at hk)
          have HN3 := hideIt hn3
          obtain ⟨ar, cr, er⟩ := own_slice hn3.row
          obtain ⟨Lk, hLk⟩ : ∃ Lk, (PL vs k).length = Lk := ⟨_, rfl⟩
          rw [hLk] at er
          subst er
          have HB3 := hideIt hb3
          have z3 := hb3.size
          have HROW := hideIt (HR.out.below hb3).row
          clear hn3 hb3 hLk hl3
          go_wp2_with (at_builtin; refine wpList_append_own_at _ rfl _ _ 34 rfl w2.heap.size 24 i0 (.slice none 0 0) 1 24 Try.underlying34 hi0 hz0 hs0 hy0 rfl (by decide) _ _ _ rfl (HROW.out.alloc _) ⟨w3.heap.size, 0, none⟩ 1 1 [.slice ar Lk cr] rfl rfl ?c1 ?c2 ?c3 ?c4 ?c5 ?_)
          case c1 => exact cell_one_new _ _ _
          case c2 => intro u hu; simp at hu; subst hu; rfl
          case c3 => unfold maxLen; omega
          case c4 => omega
          case c5 => simp; omega
          intro v' w5 hown hgrow _ _
          have HR5 := hideIt (HR.out.snoc HB3.out HN3.out hown hgrow)
          have HB5 : Hid (Below w2.heap.size w2 w5) := ((hbl.trans (HB3.out.mono zs)).alloc (by omega) _).grown hgrow (by simp; omega) (fun x hx => (HROW.out.lt x hx).1)
          clear hown hgrow
          go_wp2_with fail
          go_roundw
          case rel => exact ⟨k + 1, _, _, _, _, by omega, by go_num, HR5.out, HB5.out⟩
          case measure => simp [intOf]; omega
        · obtain rfl : k = M := by omega
          go_wp2_with fail
          go_ret
          exact ⟨_, w2.heap.size, _, _, _, _, rfl, by omega, by rw [HPN1.out]; exact HR.out, (HB1.out.trans (HB2.out.mono z1)).trans (hbl.mono (by omega))⟩
    · cases e
      rw [hM2] at hi
      obtain ⟨_, ai, ci, rfl, hx⟩ := hi
      obtain ⟨_, _, aS, cS, rfl, _⟩ := hs
      have HX := hideIt hx
      clear hx hM2
      go_wp2_with fail
      refine (parts6_any _ _ _ _ _ _ _).mono ?_
      rintro e w2 ⟨rfl, hb2⟩
      have z2 := hb2.size
      have HB2 := hideIt hb2
      have HR0 := hideIt (Rows2.start (base := w2.heap.size) (World.ownsRow_nil _ _ _ _) (Nat.le_refl _) (PL vs))
      clear hb2
      go_wp2_with fail
      go_loopw [5, 18] (fun o i wr => ∃ (k : Nat) (rs : Nat → Value) (KV IV : Nat → Nat → Value) (lo : Nat → Nat), k ≤ M ∧ i = .int .i64 k ∧ Rows2 w2.heap.size wr o k (PL vs) rs KV IV lo ∧ Below w2.heap.size w2 wr) (fun _ i _ => M - (intOf i).toNat)
      case atStart => exact ⟨0, _, _, _, _, Nat.zero_le _, rfl, HR0.out, Below.refl _ _⟩
      case round =>
        obtain ⟨k, rs, KV, IV, lo, hk, rfl, hrows, hbl⟩ := hrel
        have HR := hideIt hrows
        have zs := hbl.size
        obtain ⟨ao, co, eo⟩ := own_slice hrows.row
        subst eo
        clear hrows
        by_cases hlt : k < M
        · obtain ⟨b, rfl, hbB, hc⟩ := HX.out (by omega)
          obtain ⟨tk, xk, hck, htk⟩ := hc k hlt
          obtain ⟨q, hq1, hq2, hqf⟩ := HTK.out k hlt
          have hw : ∀ c, c < w1.heap.size → wr.heap[c]? = w1.heap[c]? := fun c hcc => (hbl.block c (by omega)).trans (HB2.out.block c hcc)
          have hck' : wr.cell? ⟨b, k, none⟩ = some (.iface tk xk) := (World.cell?_of_block (hw b hbB)).trans hck
          rw [hq1] at htk
          have HT := hideIt (TreeAt.keep hw (Nat.le_refl _) htk)
          have HL := hideIt (HLP.out q hqf)
          have HQ2 := hideIt hq2
          clear hc hck htk hq1 hq2 hw
          go_wp2_with fail
          refine (withNodes_any w1.heap.size wr.heap.size (by omega) f (treeOf vs f q) (.iface tk xk) (.slice none 0 0) [] (fun _ => undef) (fun _ => undef) wr (Nest.nil _ _ _ _) HT.out (Nat.le_refl _) (by have := HL.out; simp only [List.length_nil, Nat.zero_add, this.1]; omega)).mono ?_
          rintro e w3 ⟨r, K, I, rfl, hl3⟩
          have hn3 : Nest wr.heap.size w3 r (PL vs k) K I := by have := hl3.1; rw [List.nil_append, List.length_nil, HL.out.1, ← HQ2.out] at this; exact this
          have hb3 : Below wr.heap.size wr w3 := (Below.refl _ _).grown hl3.2.1 (Nat.le_refl _) (fun k hk => by simp [Value.ownBlock] at hk)
          have HN3 := hideIt hn3
          obtain ⟨ar, cr, er⟩ := own_slice hn3.row
          obtain ⟨Lk, hLk⟩ : ∃ Lk, (PL vs k).length = Lk := ⟨_, rfl⟩
          rw [hLk] at er
          subst er
          have HB3 := hideIt hb3
          have z3 := hb3.size
          have HROW := hideIt (HR.out.below hb3).row
          clear hn3 hb3 hLk hl3
          go_wp2_with (at_builtin; refine wpList_append_own_at _ rfl _ _ 34 rfl w2.heap.size 24 i0 (.slice none 0 0) 1 24 Try.underlying34 hi0 hz0 hs0 hy0 rfl (by decide) _ _ _ rfl (HROW.out.alloc _) ⟨w3.heap.size, 0, none⟩ 1 1 [.slice ar Lk cr] rfl rfl ?c1 ?c2 ?c3 ?c4 ?c5 ?_)
          case c1 => exact cell_one_new _ _ _
          case c2 => intro u hu; simp at hu; subst hu; rfl
          case c3 => unfold maxLen; omega
          case c4 => omega
          case c5 => simp; omega
          intro v' w5 hown hgrow _ _
          have HR5 := hideIt (HR.out.snoc HB3.out HN3.out hown hgrow)
          have HB5 : Hid (Below w2.heap.size w2 w5) := ((hbl.trans (HB3.out.mono zs)).alloc (by omega) _).grown hgrow (by simp; omega) (fun x hx => (HROW.out.lt x hx).1)
          clear hown hgrow
          go_wp2_with fail
          go_roundw
          case rel => exact ⟨k + 1, _, _, _, _, by omega, by go_num, HR5.out, HB5.out⟩
          case measure => simp [intOf]; omega
        · obtain rfl : k = M := by omega
          go_wp2_with fail
          go_ret
          exact ⟨_, w2.heap.size, _, _, _, _, rfl, by omega, by rw [HPN1.out]; exact HR.out, (HB1.out.trans (HB2.out.mono z1)).trans (hbl.mono (by omega))⟩
end Go.Proofs.Ytbclgogolimbgaa
