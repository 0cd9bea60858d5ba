/-
  impl.PartsOf: the rows of the parts' nodes, in new memory.
-/
import Derived.Test.YtfijafbpdlakaaaGreatDoorSParts
import Derived.Test.YtfijafbpdlakaaaGreatDoorWn6
import Derived.Test.YtfijafbpdlakaaaGreatDoorWnM
import Derived.Test.YtfijafbpdlakaaaGreatDoorStepN
import Derived.Test.YtfijafbpdlakaaaGreatDoorProg
import Derived.Test.YtfijafbpdlakaaaGreatDoorFlat
import Derived.Deep.QuietTactic
import Derived.BigQuiet
import Derived.WalkSmall
import Derived.Deep.RegionWith
import Derived.Test.YtfijafbpdlakaaaGreatDoorNest
namespace Go.Proofs.YtfijafbpdlakaaaGreatDoor
open Go.RowKit
set_option linter.unusedSimpArgs false
set_option linter.unusedVariables false

set_option maxRecDepth 100000 in
set_option maxHeartbeats 6400000 in
theorem implPartsOf_any (B : Nat) (v : Value) (vs : List VN) (w : World) (h : NodesAt B w v vs) (hB : B ≤ w.heap.size) :
    Calls Tryz.prog 15 #[v] w fun e w' => ∃ r base rs KV IV lo, e = .returned r ∧ w.heap.size ≤ base ∧ Rows2 base w' r (partsN vs) (PL vs) rs KV IV lo ∧ Below w.heap.size w w' := by
  have HV := hideIt h
  obtain ⟨_, a, cap, rfl, _⟩ := h
  have HPN : Hid (partsN vs = if okB vs = true then (rootKids vs).length else 0) := rfl
  obtain ⟨i0, hi0, hz0, hs0, hy0⟩ := info_parts infoRow
  go_enter Tryz.func15, Tryz.ntmps15
  go_wp2_with fail
  cases ok1 : okB vs
  · refine (valueOf_no B _ vs _ HV.out hB ok1).mono ?_
    rintro e w1 ⟨rfl, hb1⟩
    have z1 := hb1.size
    go_wp2_with fail
    go_ret
    exact ⟨_, w1.heap.size, _, _, _, _, rfl, z1, by rw [HPN.out, ok1]; exact Rows2.start (World.ownsRow_nil _ _ _ _) (Nat.le_refl _) (PL vs), hb1⟩
  · refine (valueOf_yes B _ vs _ HV.out hB ok1).mono ?_
    rintro e w1 ⟨lo1, t, x, rfl, hl1, hl1', hv1, hb1⟩
    have z1 := hb1.size
    obtain ⟨p1, p2, _, p4⟩ := okB_parts ok1
    have ht := ValIs.tree (by omega) p2 p4 p1.2 (by omega) hv1
    obtain ⟨f, hf⟩ : ∃ f, vs.length = f + 1 := ⟨vs.length - 1, by omega⟩
    have HRK := hideIt (fun k hk => root_kid (k := k) ok1 hk)
    have HLP := hideIt (fun q (hq : q < f) => (lay_part ok1 hq (show q < vs.length by omega)))
    have HB1 := hideIt hb1
    have HPN1 : Hid (partsN vs = (rootKids vs).length) := by rw [Hid, HPN.out, if_pos ok1]
    rw [hf, show f + 1 - 1 = f by omega, treeOf] at ht
    have hk80 : (rootKids vs).length ≤ 80 := by have := p4 (vs.length - 1) (by omega); unfold rootKids; omega
    have HRE : Hid (rootKids vs = (nodeAt vs f).kids) := by rw [Hid]; unfold rootKids; rw [hf]; rfl
    have HTK : Hid (∀ k, k < (rootKids vs).length → ∃ q : Nat, kidT ((nodeAt vs f).kids.map fun k => treeOf vs f k.toNat) k = treeOf vs f q ∧ PL vs k = partOf vs q ∧ q < f) := by
      intro k hk
      obtain ⟨q, hq, hql⟩ := HRK.out k hk
      refine ⟨q, ?_, ?_, by omega⟩
      · rw [← HRE.out, kidT_map hk, hq, Int.toNat_natCast]
      · unfold PL; rw [hq, Int.toNat_natCast]
    obtain ⟨M, hM⟩ : ∃ M, (rootKids vs).length = M := ⟨_, rfl⟩
    have hM2 : ((nodeAt vs f).kids.map fun k => treeOf vs f k.toNat).length = M := by rw [List.length_map, ← HRE.out, hM]
    rw [hM] at hk80 HTK HPN1
    generalize ((nodeAt vs f).kids.map fun k => treeOf vs f k.toNat) = TT at ht HTK hM2
    clear hv1 p2 p4 hf hM hb1
    rcases ht with ⟨_, _, _, _, hk0, e⟩ | ⟨_, _, _, hk0, e⟩ | ⟨_, _, _, hk0, e⟩ | ⟨_, _, _, hk0, e⟩ | ⟨_, _, _, _, it, e, hi⟩ | ⟨_, _, _, ks, it, e, hs, hi⟩
    · cases e
      obtain rfl : M = 0 := by rw [← hM2, hk0]; rfl
      clear hk0 hM2 HTK
      go_wp2_with fail
      refine (parts1_any _).mono ?_
      rintro e w2 ⟨rfl, hb2⟩
      have z2 := hb2.size
      have HB2 := hideIt hb2
      have HR0 := hideIt (Rows2.start (base := w2.heap.size) (World.ownsRow_nil _ _ _ _) (Nat.le_refl _) (PL vs))
      clear hb2
      go_wp2_with fail
      go_loopw [5, 18] (fun o i wr => ∃ (k : Nat) (rs : Nat → Value) (KV IV : Nat → Nat → Value) (lo : Nat → Nat), k ≤ 0 ∧ i = .int .i64 k ∧ Rows2 w2.heap.size wr o k (PL vs) rs KV IV lo ∧ Below w2.heap.size w2 wr) (fun _ i _ => 0 - (intOf i).toNat)
      case atStart => exact ⟨0, _, _, _, _, Nat.zero_le _, rfl, HR0.out, Below.refl _ _⟩
      case round =>
        obtain ⟨k, rs, KV, IV, lo, hk, rfl, hrows, hbl⟩ := hrel
        have HR := hideIt hrows
        have zs := hbl.size
        obtain ⟨ao, co, eo⟩ := own_slice hrows.row
        subst eo
        clear hrows
        obtain rfl : k = 0 := by omega
        go_wp2_with fail
        go_ret
        exact ⟨_, w2.heap.size, _, _, _, _, rfl, by omega, by rw [HPN1.out]; exact HR.out, (HB1.out.trans (HB2.out.mono z1)).trans (hbl.mono (by omega))⟩
    · cases e
      obtain rfl : M = 0 := by rw [← hM2, hk0]; rfl
      clear hk0 hM2 HTK
      go_wp2_with fail
      refine (parts2_any _ _).mono ?_
      rintro e w2 ⟨rfl, hb2⟩
      have z2 := hb2.size
      have HB2 := hideIt hb2
      have HR0 := hideIt (Rows2.start (base := w2.heap.size) (World.ownsRow_nil _ _ _ _) (Nat.le_refl _) (PL vs))
      clear hb2
      go_wp2_with fail
      go_loopw [5, 18] (fun o i wr => ∃ (k : Nat) (rs : Nat → Value) (KV IV : Nat → Nat → Value) (lo : Nat → Nat), k ≤ 0 ∧ i = .int .i64 k ∧ Rows2 w2.heap.size wr o k (PL vs) rs KV IV lo ∧ Below w2.heap.size w2 wr) (fun _ i _ => 0 - (intOf i).toNat)
      case atStart => exact ⟨0, _, _, _, _, Nat.zero_le _, rfl, HR0.out, Below.refl _ _⟩
      case round =>
        obtain ⟨k, rs, KV, IV, lo, hk, rfl, hrows, hbl⟩ := hrel
        have HR := hideIt hrows
        have zs := hbl.size
        obtain ⟨ao, co, eo⟩ := own_slice hrows.row
        subst eo
        clear hrows
        obtain rfl : k = 0 := by omega
        go_wp2_with fail
        go_ret
        exact ⟨_, w2.heap.size, _, _, _, _, rfl, by omega, by rw [HPN1.out]; exact HR.out, (HB1.out.trans (HB2.out.mono z1)).trans (hbl.mono (by omega))⟩
    · cases e
      obtain rfl : M = 0 := by rw [← hM2, hk0]; rfl
      clear hk0 hM2 HTK
      go_wp2_with fail
      refine (parts3_any _ _).mono ?_
      rintro e w2 ⟨rfl, hb2⟩
      have z2 := hb2.size
      have HB2 := hideIt hb2
      have HR0 := hideIt (Rows2.start (base := w2.heap.size) (World.ownsRow_nil _ _ _ _) (Nat.le_refl _) (PL vs))
      clear hb2
      go_wp2_with fail
      go_loopw [5, 18] (fun o i wr => ∃ (k : Nat) (rs : Nat → Value) (KV IV : Nat → Nat → Value) (lo : Nat → Nat), k ≤ 0 ∧ i = .int .i64 k ∧ Rows2 w2.heap.size wr o k (PL vs) rs KV IV lo ∧ Below w2.heap.size w2 wr) (fun _ i _ => 0 - (intOf i).toNat)
      case atStart => exact ⟨0, _, _, _, _, Nat.zero_le _, rfl, HR0.out, Below.refl _ _⟩
      case round =>
        obtain ⟨k, rs, KV, IV, lo, hk, rfl, hrows, hbl⟩ := hrel
        have HR := hideIt hrows
        have zs := hbl.size
        obtain ⟨ao, co, eo⟩ := own_slice hrows.row
        subst eo
        clear hrows
        obtain rfl : k = 0 := by omega
        go_wp2_with fail
        go_ret
        exact ⟨_, w2.heap.size, _, _, _, _, rfl, by omega, by rw [HPN1.out]; exact HR.out, (HB1.out.trans (HB2.out.mono z1)).trans (hbl.mono (by omega))⟩
    · cases e
      obtain rfl : M = 0 := by rw [← hM2, hk0]; rfl
      clear hk0 hM2 HTK
      go_wp2_with fail
      refine (parts4_any _ _).mono ?_
      rintro e w2 ⟨rfl, hb2⟩
      have z2 := hb2.size
      have HB2 := hideIt hb2
      have HR0 := hideIt (Rows2.start (base := w2.heap.size) (World.ownsRow_nil _ _ _ _) (Nat.le_refl _) (PL vs))
      clear hb2
      go_wp2_with fail
      go_loopw [5, 18] (fun o i wr => ∃ (k : Nat) (rs : Nat → Value) (KV IV : Nat → Nat → Value) (lo : Nat → Nat), k ≤ 0 ∧ i = .int .i64 k ∧ Rows2 w2.heap.size wr o k (PL vs) rs KV IV lo ∧ Below w2.heap.size w2 wr) (fun _ i _ => 0 - (intOf i).toNat)
      case atStart => exact ⟨0, _, _, _, _, Nat.zero_le _, rfl, HR0.out, Below.refl _ _⟩
      case round =>
        obtain ⟨k, rs, KV, IV, lo, hk, rfl, hrows, hbl⟩ := hrel
        have HR := hideIt hrows
        have zs := hbl.size
        obtain ⟨ao, co, eo⟩ := own_slice hrows.row
        subst eo
        clear hrows
        obtain rfl : k = 0 := by omega
        go_wp2_with fail
        go_ret
        exact ⟨_, w2.heap.size, _, _, _, _, rfl, by omega, by rw [HPN1.out]; exact HR.out, (HB1.out.trans (HB2.out.mono z1)).trans (hbl.mono (by omega))⟩
    · cases e
      rw [hM2] at hi
      obtain ⟨_, ai, ci, rfl, hx⟩ := hi
      have HX := hideIt hx
      clear hx hM2
      go_wp2_with fail
      refine (parts5_any _ _ _ _).mono ?_
      rintro e w2 ⟨rfl, hb2⟩
      have z2 := hb2.size
      have HB2 := hideIt hb2
      have HR0 := hideIt (Rows2.start (base := w2.heap.size) (World.ownsRow_nil _ _ _ _) (Nat.le_refl _) (PL vs))
      clear hb2
      go_wp2_with fail
      go_loopw [5, 18] (fun o i wr => ∃ (k : Nat) (rs : Nat → Value) (KV IV : Nat → Nat → Value) (lo : Nat → Nat), k ≤ M ∧ i = .int .i64 k ∧ Rows2 w2.heap.size wr o k (PL vs) rs KV IV lo ∧ Below w2.heap.size w2 wr) (fun _ i _ => M - (intOf i).toNat)
      case atStart => exact ⟨0, _, _, _, _, Nat.zero_le _, rfl, HR0.out, Below.refl _ _⟩
      case round =>
        obtain ⟨k, rs, KV, IV, lo, hk, rfl, hrows, hbl⟩ := hrel
        have HR := hideIt hrows
        have zs := hbl.size
        obtain ⟨ao, co, eo⟩ := own_slice hrows.row
        subst eo
        clear hrows
        by_cases hlt : k < M
        · obtain ⟨b, rfl, hbB, hc⟩ := HX.out (by omega)
          obtain ⟨tk, xk, hck, htk⟩ := hc k hlt
          obtain ⟨q, hq1, hq2, hqf⟩ := HTK.out k hlt
          have hw : ∀ c, c < w1.heap.size → wr.heap[c]? = w1.heap[c]? := fun c hcc => (hbl.block c (by omega)).trans (HB2.out.block c hcc)
          have hck' : wr.cell? ⟨b, k, none⟩ = some (.iface tk xk) := (World.cell?_of_block (hw b hbB)).trans hck
          rw [hq1] at htk
          have HT := hideIt (TreeAt.keep hw (Nat.le_refl _) htk)
          have HL := hideIt (HLP.out q hqf)
          have HQ2 := hideIt hq2
          clear hc hck htk hq1 hq2 hw
          go_wp2_with fail
          refine (withNodes_any w1.heap.size wr.heap.size (by omega) f (treeOf vs f q) (.iface tk xk) (.slice none 0 0) [] (fun _ => undef) (fun _ => undef) wr (Nest.nil _ _ _ _) HT.out (Nat.le_refl _) (by have := HL.out; simp only [List.length_nil, Nat.zero_add, this.1]; omega)).mono ?_
          rintro e w3 ⟨r, K, I, rfl, hl3⟩
          have hn3 : Nest wr.heap.size w3 r (PL vs k) K I := by have := hl3.1; rw [List.nil_append, List.length_nil, HL.out.1, ← HQ2.out] at this; exact this
          have hb3 : Below wr.heap.size wr w3 := (Below.refl _ _).grown hl3.2.1 (Nat.le_refl _) (fun k hk => by simp [Value.ownBlock] at hk)
          have HN3 := hideIt hn3
          obtain ⟨ar, cr, er⟩ := own_slice hn3.row
          obtain ⟨Lk, hLk⟩ : ∃ Lk, (PL vs k).length = Lk := ⟨_, rfl⟩
          rw [hLk] at er
          subst er
          have HB3 := hideIt hb3
          have z3 := hb3.size
          have HROW := hideIt (HR.out.below hb3).row
          clear hn3 hb3 hLk hl3
          go_wp2_with (at_builtin; refine wpList_append_own_at _ rfl _ _ 36 rfl w2.heap.size 24 i0 (.slice none 0 0) 1 24 Tryz.underlying36 hi0 hz0 hs0 hy0 rfl (by decide) _ _ _ rfl (HROW.out.alloc _) ⟨w3.heap.size, 0, none⟩ 1 1 [.slice ar Lk cr] rfl rfl ?c1 ?c2 ?c3 ?c4 ?c5 ?_)
          case c1 => exact cell_one_new _ _ _
          case c2 => intro u hu; simp at hu; subst hu; rfl
          case c3 => unfold maxLen; omega
          case c4 => omega
          case c5 => simp; omega
          intro v' w5 hown hgrow _ _
          have HR5 := hideIt (HR.out.snoc HB3.out HN3.out hown hgrow)
          have HB5 : Hid (Below w2.heap.size w2 w5) := ((hbl.trans (HB3.out.mono zs)).alloc (by omega) _).grown hgrow (by simp; omega) (fun x hx => (HROW.out.lt x hx).1)
          clear hown hgrow
          go_wp2_with fail
          go_roundw
          case rel => exact ⟨k + 1, _, _, _, _, by omega, by go_num, HR5.out, HB5.out⟩
          case measure => simp [intOf]; omega
        · obtain rfl : k = M := by omega
          go_wp2_with fail
          go_ret
          exact ⟨_, w2.heap.size, _, _, _, _, rfl, by omega, by rw [HPN1.out]; exact HR.out, (HB1.out.trans (HB2.out.mono z1)).trans (hbl.mono (by omega))⟩
    · cases e
      rw [hM2] at hi
      obtain ⟨_, ai, ci, rfl, hx⟩ := hi
      obtain ⟨_, _, aS, cS, rfl, _⟩ := hs
      have HX := hideIt hx
      clear hx hM2
      go_wp2_with fail
      refine (parts6_any _ _ _ _ _ _ _).mono ?_
      rintro e w2 ⟨rfl, hb2⟩
      have z2 := hb2.size
      have HB2 := hideIt hb2
      have HR0 := hideIt (Rows2.start (base := w2.heap.size) (World.ownsRow_nil _ _ _ _) (Nat.le_refl _) (PL vs))
      clear hb2
      go_wp2_with fail
      go_loopw [5, 18] (fun o i wr => ∃ (k : Nat) (rs : Nat → Value) (KV IV : Nat → Nat → Value) (lo : Nat → Nat), k ≤ M ∧ i = .int .i64 k ∧ Rows2 w2.heap.size wr o k (PL vs) rs KV IV lo ∧ Below w2.heap.size w2 wr) (fun _ i _ => M - (intOf i).toNat)
      case atStart => exact ⟨0, _, _, _, _, Nat.zero_le _, rfl, HR0.out, Below.refl _ _⟩
      case round =>
        obtain ⟨k, rs, KV, IV, lo, hk, rfl, hrows, hbl⟩ := hrel
        have HR := hideIt hrows
        have zs := hbl.size
        obtain ⟨ao, co, eo⟩ := own_slice hrows.row
        subst eo
        clear hrows
        by_cases hlt : k < M
        · obtain ⟨b, rfl, hbB, hc⟩ := HX.out (by omega)
          obtain ⟨tk, xk, hck, htk⟩ := hc k hlt
          obtain ⟨q, hq1, hq2, hqf⟩ := HTK.out k hlt
          have hw : ∀ c, c < w1.heap.size → wr.heap[c]? = w1.heap[c]? := fun c hcc => (hbl.block c (by omega)).trans (HB2.out.block c hcc)
          have hck' : wr.cell? ⟨b, k, none⟩ = some (.iface tk xk) := (World.cell?_of_block (hw b hbB)).trans hck
          rw [hq1] at htk
          have HT := hideIt (TreeAt.keep hw (Nat.le_refl _) htk)
          have HL := hideIt (HLP.out q hqf)
          have HQ2 := hideIt hq2
          clear hc hck htk hq1 hq2 hw
          go_wp2_with fail
          refine (withNodes_any w1.heap.size wr.heap.size (by omega) f (treeOf vs f q) (.iface tk xk) (.slice none 0 0) [] (fun _ => undef) (fun _ => undef) wr (Nest.nil _ _ _ _) HT.out (Nat.le_refl _) (by have := HL.out; simp only [List.length_nil, Nat.zero_add, this.1]; omega)).mono ?_
          rintro e w3 ⟨r, K, I, rfl, hl3⟩
          have hn3 : Nest wr.heap.size w3 r (PL vs k) K I := by have := hl3.1; rw [List.nil_append, List.length_nil, HL.out.1, ← HQ2.out] at this; exact this
          have hb3 : Below wr.heap.size wr w3 := (Below.refl _ _).grown hl3.2.1 (Nat.le_refl _) (fun k hk => by simp [Value.ownBlock] at hk)
          have HN3 := hideIt hn3
          obtain ⟨ar, cr, er⟩ := own_slice hn3.row
          obtain ⟨Lk, hLk⟩ : ∃ Lk, (PL vs k).length = Lk := ⟨_, rfl⟩
          rw [hLk] at er
          subst er
          have HB3 := hideIt hb3
          have z3 := hb3.size
          have HROW := hideIt (HR.out.below hb3).row
          clear hn3 hb3 hLk hl3
          go_wp2_with (at_builtin; refine wpList_append_own_at _ rfl _ _ 36 rfl w2.heap.size 24 i0 (.slice none 0 0) 1 24 Tryz.underlying36 hi0 hz0 hs0 hy0 rfl (by decide) _ _ _ rfl (HROW.out.alloc _) ⟨w3.heap.size, 0, none⟩ 1 1 [.slice ar Lk cr] rfl rfl ?c1 ?c2 ?c3 ?c4 ?c5 ?_)
          case c1 => exact cell_one_new _ _ _
          case c2 => intro u hu; simp at hu; subst hu; rfl
          case c3 => unfold maxLen; omega
          case c4 => omega
          case c5 => simp; omega
          intro v' w5 hown hgrow _ _
          have HR5 := hideIt (HR.out.snoc HB3.out HN3.out hown hgrow)
          have HB5 : Hid (Below w2.heap.size w2 w5) := ((hbl.trans (HB3.out.mono zs)).alloc (by omega) _).grown hgrow (by simp; omega) (fun x hx => (HROW.out.lt x hx).1)
          clear hown hgrow
          go_wp2_with fail
          go_roundw
          case rel => exact ⟨k + 1, _, _, _, _, by omega, by go_num, HR5.out, HB5.out⟩
          case measure => simp [intOf]; omega
        · obtain rfl : k = M := by omega
          go_wp2_with fail
          go_ret
          exact ⟨_, w2.heap.size, _, _, _, _, rfl, by omega, by rw [HPN1.out]; exact HR.out, (HB1.out.trans (HB2.out.mono z1)).trans (hbl.mono (by omega))⟩
end Go.Proofs.YtfijafbpdlakaaaGreatDoor

/-
  The four functions that take sizes from a budget: each returns a number and only makes new memory; where the number is not below 0, nothing is greater than the budget was.
-/
namespace Go.Proofs.YtfijafbpdlakaaaGreatDoor
open Go.RowKit
set_option linter.unusedSimpArgs false
set_option linter.unusedVariables false

set_option maxHeartbeats 400000 in
theorem szInt64S_any (B : Nat) (v : Value) (l : List Int) (r : Int) (w : World) (h : RawInts B w v l) (h1 : 0 ≤ r) (h2 : r ≤ 1048576) :
    Calls Tryz.prog 66 #[v, .int .i64 r] w fun e w' => (∃ q, e = .returned (.int .i64 q) ∧ q ≤ 1048576 ∧ (0 ≤ q → l.length ≤ 1048576)) ∧ w' = w := by
  obtain ⟨hlen, _, a, cap, rfl, _⟩ := h
  go_enter Tryz.func66, Tryz.ntmps66
  go_wp2
  · go_ret
    exact ⟨⟨_, rfl, by omega, fun h => by omega⟩, rfl⟩
  · go_ret
    exact ⟨⟨_, rfl, by omega, fun h => by omega⟩, rfl⟩

set_option maxHeartbeats 400000 in
theorem szStringS_any (B : Nat) (v : Value) (l : List ByteArray) (r : Int) (w : World) (h : RawStrs B w v l) (h1 : 0 ≤ r) (h2 : r ≤ 1048576) :
    Calls Tryz.prog 65 #[v, .int .i64 r] w fun e w' => (∃ q, e = .returned (.int .i64 q) ∧ q ≤ 1048576 ∧ (0 ≤ q → l.length ≤ 1048576 ∧ ∀ i, i < l.length → (keyAt l i).size ≤ 1048576)) ∧ w' = w := by
  obtain ⟨hlen, hsz, a, cap, rfl, hcell⟩ := h
  go_enter Tryz.func65, Tryz.ntmps65
  go_wp2
  · go_ret
    exact ⟨⟨_, rfl, by omega, fun h => by omega⟩, rfl⟩
  · go_loop [1, 5] (fun t i => ∃ (k : Nat) (q : Int), k ≤ l.length ∧ i = .int .i64 k ∧ t = .int .i64 q ∧ 0 ≤ q ∧ q ≤ 1048576 ∧ Hid (∀ j, j < k → (keyAt l j).size ≤ 1048576)) (fun _ i => l.length - (intOf i).toNat)
    case atStart => exact ⟨0, _, Nat.zero_le _, rfl, rfl, by omega, by omega, fun j hj => by omega⟩
    case round =>
      obtain ⟨k, q, hk, rfl, rfl, hq0, hq1, HS⟩ := hrel
      by_cases hlt : k < l.length
      · obtain ⟨b, o, rfl, _, hc⟩ := hcell (by omega)
        have hck := hc k hlt
        have hs := hsz k hlt
        clear hc hcell hsz
        go_wp2
        · go_ret
          exact ⟨⟨_, rfl, by omega, fun h => by omega⟩, rfl⟩
        · go_round
          case rel =>
            refine ⟨k + 1, _, by omega, by go_num, rfl, by omega, by omega, fun j hj => ?_⟩
            by_cases e : j = k
            · subst e; omega
            · exact HS.out j (by omega)
          case measure => simp [intOf]; omega
      · obtain rfl : k = l.length := by omega
        go_wp2
        go_ret
        exact ⟨⟨_, rfl, by omega, fun _ => ⟨by omega, HS.out⟩⟩, rfl⟩

set_option maxHeartbeats 800000 in
theorem szVNode_any (B : Nat) (x : VN) (ka ki : Value) (r : Int) (w : World) (h : RawIn B w x ka ki) (hB : B ≤ w.heap.size) (h1 : 0 ≤ r) (h2 : r ≤ 1048576) :
    Calls Tryz.prog 34 #[.agg #[.int .i64 x.kind, .int .i64 x.n, .string x.s, ka, ki], .int .i64 r] w fun e w' => (∃ q, e = .returned (.int .i64 q) ∧ q ≤ 1048576 ∧ (0 ≤ q → Small x)) ∧ Below w.heap.size w w' := by
  have hsz := h.size
  obtain ⟨_, _, a1, c1, e1, _⟩ := h.keys
  obtain ⟨_, _, a2, c2, e2, _⟩ := h.kids
  have hbel : ∀ (o : Obj), Below w.heap.size w (w.alloc o) := fun o => (Below.refl _ _).alloc (Nat.le_refl _) o
  have H := hideIt h
  subst e1 e2
  clear h
  go_enter Tryz.func34, Tryz.ntmps34
  go_wp2_with fail
  · go_ret
    exact ⟨⟨_, rfl, by omega, fun h => by omega⟩, hbel _⟩
  · refine (szStringS_any B _ _ _ _ (H.out.keys.below ((hbel _).mono hB)) (by omega) (by omega)).mono ?_
    rintro e w' ⟨⟨q, rfl, hq, hk⟩, rfl⟩
    have HK := hideIt hk
    have hle : (x.s.size : Int) ≤ 1048576 := by omega
    clear hk
    go_wp2_with fail
    · go_ret
      exact ⟨⟨_, rfl, by omega, fun h => by omega⟩, hbel _⟩
    · refine (szInt64S_any B _ _ _ _ (H.out.kids.below ((hbel _).mono hB)) (by omega) (by omega)).mono ?_
      rintro e w' ⟨⟨q', rfl, hq', hk'⟩, rfl⟩
      have HK' := hideIt hk'
      clear hk'
      have h0 : 0 ≤ q := by omega
      go_wp2_with fail
      · go_ret
        exact ⟨⟨_, rfl, by omega, fun h => by omega⟩, hbel _⟩
      · go_ret
        exact ⟨⟨_, rfl, by omega, fun h => ⟨by omega, (HK.out h0).1, (HK.out h0).2, HK'.out h⟩⟩, hbel _⟩

set_option maxHeartbeats 800000 in
theorem szVNodeS_any (B : Nat) (v : Value) (vs : List VN) (r : Int) (w : World) (h : RawNodes B w v vs) (hB : B ≤ w.heap.size) (h1 : 0 ≤ r) (h2 : r ≤ 1048576) :
    Calls Tryz.prog 16 #[v, .int .i64 r] w fun e w' => (∃ q, e = .returned (.int .i64 q) ∧ q ≤ 1048576 ∧ (0 ≤ q → vs.length ≤ 1048576 ∧ ∀ i, i < vs.length → Small (nodeAt vs i))) ∧ Below w.heap.size w w' := by
  obtain ⟨hlen, a, cap, rfl, hcell⟩ := h
  go_enter Tryz.func16, Tryz.ntmps16
  go_wp2_with fail
  · go_ret
    exact ⟨⟨_, rfl, by omega, fun h => by omega⟩, Below.refl _ _⟩
  · go_loopw [1, 5] (fun t i wr => ∃ (k : Nat) (q : Int), k ≤ vs.length ∧ i = .int .i64 k ∧ t = .int .i64 q ∧ 0 ≤ q ∧ q ≤ 1048576 ∧ Hid (∀ j, j < k → Small (nodeAt vs j)) ∧ Below w.heap.size w wr) (fun _ i _ => vs.length - (intOf i).toNat)
    case atStart => exact ⟨0, _, Nat.zero_le _, rfl, rfl, by omega, by omega, fun j hj => by omega, Below.refl _ _⟩
    case round =>
      obtain ⟨k, q, hk, rfl, rfl, hq0, hq1, HS, hbel⟩ := hrel
      by_cases hlt : k < vs.length
      · obtain ⟨b, o, rfl, hbB, hc⟩ := hcell (by omega)
        obtain ⟨ka, ki, hn⟩ := hc k hlt
        have hn' := hn.below (hbel.mono hB) hbB
        have c0 := hn'.c0
        have c1 := hn'.c1
        have c2 := hn'.c2
        have c3 := hn'.c3
        have c4 := hn'.c4
        have hin := hideIt hn'.inn
        have hsize := hbel.size
        clear hc hcell hn hn'
        go_wp2_with fail
        refine (szVNode_any B (nodeAt vs k) ka ki _ _ hin.out (by omega) (by omega) (by omega)).mono ?_
        rintro e w' ⟨⟨q', rfl, hq', hsm⟩, hb'⟩
        have hb2 : Below w.heap.size w w' := hbel.trans (hb'.mono hsize)
        have HM := hideIt hsm
        clear hsm
        go_wp2_with fail
        · go_ret
          exact ⟨⟨_, rfl, by omega, fun h => by omega⟩, hb2⟩
        · go_roundw
          case rel =>
            refine ⟨k + 1, _, by omega, by go_num, rfl, by omega, by omega, fun j hj => ?_, hb2⟩
            by_cases e : j = k
            · subst e; exact HM.out (by omega)
            · exact HS.out j (by omega)
          case measure => simp [intOf]; omega
      · obtain rfl : k = vs.length := by omega
        go_wp2_with fail
        go_ret
        exact ⟨⟨_, rfl, by omega, fun _ => ⟨by omega, HS.out⟩⟩, hbel⟩
end Go.Proofs.YtfijafbpdlakaaaGreatDoor

/-
  The functions that hold two lists, two nodes, two values against each other: of what holds the same they say true.
-/
namespace Go.Proofs.YtfijafbpdlakaaaGreatDoor
open Go.RowKit
set_option linter.unusedSimpArgs false
set_option linter.unusedVariables false

set_option maxHeartbeats 800000 in
theorem eqInt64S_any (B : Nat) (v1 v2 : Value) (l : List Int) (w : World) (h1 : IntsAt B w v1 l) (h2 : IntsAt B w v2 l) (hB : B ≤ w.heap.size) :
    Calls Tryz.prog 70 #[v1, v2] w fun e w' => e = .returned (.bool true) ∧ Below w.heap.size w w' := by
  obtain ⟨hlen, _, a1, cap1, rfl, hcell1⟩ := h1
  obtain ⟨_, _, a2, cap2, rfl, hcell2⟩ := h2
  have hne : ((l.length : Int) != (l.length : Int)) = false := by simp
  go_enter Tryz.func70, Tryz.ntmps70
  go_wp2_with fail
  go_loopw [5] (fun i wr => ∃ k : Nat, k ≤ l.length ∧ i = .int .i64 k ∧ Below w.heap.size w wr) (fun i _ => l.length - (intOf i).toNat)
  case atStart => exact ⟨0, Nat.zero_le _, rfl, Below.refl _ _⟩
  case round =>
    obtain ⟨k, hk, rfl, hbel⟩ := hrel
    by_cases hlt : k < l.length
    · obtain ⟨b1, o1, rfl, hb1, hc1⟩ := hcell1 (by omega)
      obtain ⟨b2, o2, rfl, hb2, hc2⟩ := hcell2 (by omega)
      have d1 := (below_cell (o := o1 + k) hbel (show b1 < w.heap.size by omega)).trans (hc1 k hlt)
      have d2 := (below_cell (o := o2 + k) hbel (show b2 < w.heap.size by omega)).trans (hc2 k hlt)
      clear hc1 hc2 hcell1 hcell2
      go_wp2_with fail
      go_quiet (fail)
      go_wp2_with fail
      go_roundw
      case rel => exact ⟨k + 1, by omega, by go_num, below_drewN hbel nq⟩
      case measure => simp [intOf]; omega
    · go_wp2_with fail
      go_ret
      exact ⟨rfl, hbel⟩

set_option maxHeartbeats 800000 in
theorem eqStringS_any (B : Nat) (v1 v2 : Value) (l : List ByteArray) (w : World) (h1 : StrsAt B w v1 l) (h2 : StrsAt B w v2 l) (hB : B ≤ w.heap.size) :
    Calls Tryz.prog 69 #[v1, v2] w fun e w' => e = .returned (.bool true) ∧ Below w.heap.size w w' := by
  obtain ⟨hlen, _, a1, cap1, rfl, hcell1⟩ := h1
  obtain ⟨_, _, a2, cap2, rfl, hcell2⟩ := h2
  have hne : ((l.length : Int) != (l.length : Int)) = false := by simp
  go_enter Tryz.func69, Tryz.ntmps69
  go_wp2_with fail
  go_loopw [5] (fun i wr => ∃ k : Nat, k ≤ l.length ∧ i = .int .i64 k ∧ Below w.heap.size w wr) (fun i _ => l.length - (intOf i).toNat)
  case atStart => exact ⟨0, Nat.zero_le _, rfl, Below.refl _ _⟩
  case round =>
    obtain ⟨k, hk, rfl, hbel⟩ := hrel
    by_cases hlt : k < l.length
    · obtain ⟨b1, o1, rfl, hb1, hc1⟩ := hcell1 (by omega)
      obtain ⟨b2, o2, rfl, hb2, hc2⟩ := hcell2 (by omega)
      have d1 := (below_cell (o := o1 + k) hbel (show b1 < w.heap.size by omega)).trans (hc1 k hlt)
      have d2 := (below_cell (o := o2 + k) hbel (show b2 < w.heap.size by omega)).trans (hc2 k hlt)
      clear hc1 hc2 hcell1 hcell2
      go_wp2_with fail
      go_quiet (fail)
      go_wp2_with fail
      go_roundw
      case rel => exact ⟨k + 1, by omega, by go_num, below_drewN hbel nq⟩
      case measure => simp [intOf]; omega
    · go_wp2_with fail
      go_ret
      exact ⟨rfl, hbel⟩

set_option maxHeartbeats 1600000 in
theorem eqVNode_any (B : Nat) (x : VN) (ka ki ka' ki' : Value) (w : World) (h : NodeIn B w x ka ki) (h' : NodeIn B w x ka' ki') (hB : B ≤ w.heap.size) :
    Calls Tryz.prog 36 #[.agg #[.int .i64 x.kind, .int .i64 x.n, .string x.s, ka, ki], .agg #[.int .i64 x.kind, .int .i64 x.n, .string x.s, ka', ki']] w fun e w' => e = .returned (.bool true) ∧ Below w.heap.size w w' := by
  obtain ⟨_, _, a1, c1, e1, _⟩ := h.keys
  obtain ⟨_, _, a2, c2, e2, _⟩ := h.kids
  obtain ⟨_, _, a3, c3, e3, _⟩ := h'.keys
  obtain ⟨_, _, a4, c4, e4, _⟩ := h'.kids
  have H : Hid (NodeIn B w x ka ki) := h
  have H' : Hid (NodeIn B w x ka' ki') := h'
  have f1 : (x.kind != x.kind) = false := by simp
  have f2 : (x.n != x.n) = false := by simp
  have f3 : (x.s.toList == x.s.toList) = true := by simp
  subst e1 e2 e3 e4
  clear h h'
  have hb0 : ∀ (o o' : Obj), Below w.heap.size w ((w.alloc o).alloc o') := fun o o' => ((Below.refl _ _).alloc (Nat.le_refl _) _).alloc (by simp) _
  go_enter Tryz.func36, Tryz.ntmps36
  go_wp2_with fail
  refine (eqStringS_any B _ _ x.keys _ (H.out.keys.below ((hb0 _ _).mono hB)) (H'.out.keys.below ((hb0 _ _).mono hB)) (by simp; omega)).mono ?_
  rintro e w1 ⟨rfl, hb1⟩
  have hc1 : ∀ b o, b < w.heap.size + 1 + 1 → w1.cell? ⟨b, o, none⟩ = _ := fun b o h => hb1.cell (p := ⟨b, o, none⟩) (by simpa using h)
  have hz1 := hb1.size
  simp only [World.size_alloc] at hz1
  have hB1 : Below w.heap.size w w1 := (hb0 _ _).trans (hb1.mono (by simp; omega))
  go_wp2_with fail
  refine (eqInt64S_any B _ _ x.kids _ (H.out.kids.below (hB1.mono hB)) (H'.out.kids.below (hB1.mono hB)) (by omega)).mono ?_
  rintro e w2 ⟨rfl, hb2⟩
  go_wp2_with fail
  go_ret
  exact ⟨rfl, hB1.trans (hb2.mono (by omega))⟩

set_option maxHeartbeats 1600000 in
theorem eqVNodeS_any (B : Nat) (v1 v2 : Value) (vs : List VN) (w : World) (h1 : NodesAt B w v1 vs) (h2 : NodesAt B w v2 vs) (hB : B ≤ w.heap.size) :
    Calls Tryz.prog 18 #[v1, v2] w fun e w' => e = .returned (.bool true) ∧ Below w.heap.size w w' := by
  obtain ⟨hlen, a1, cap1, rfl, hcell1⟩ := h1
  obtain ⟨_, a2, cap2, rfl, hcell2⟩ := h2
  have hne : ((vs.length : Int) != (vs.length : Int)) = false := by simp
  go_enter Tryz.func18, Tryz.ntmps18
  go_wp2_with fail
  go_loopw [5] (fun i wr => ∃ k : Nat, k ≤ vs.length ∧ i = .int .i64 k ∧ Below w.heap.size w wr) (fun i _ => vs.length - (intOf i).toNat)
  case atStart => exact ⟨0, Nat.zero_le _, rfl, Below.refl _ _⟩
  case round =>
    obtain ⟨k, hk, rfl, hbel⟩ := hrel
    by_cases hlt : k < vs.length
    · obtain ⟨b1, o1, rfl, hb1, hc1⟩ := hcell1 (by omega)
      obtain ⟨b2, o2, rfl, hb2, hc2⟩ := hcell2 (by omega)
      obtain ⟨ka, ki, hn⟩ := hc1 k hlt
      obtain ⟨ka', ki', hn'⟩ := hc2 k hlt
      have g := hn.below (hbel.mono hB) hb1
      have g' := hn'.below (hbel.mono hB) hb2
      have c0 := g.c0
      have c1 := g.c1
      have c2 := g.c2
      have c3 := g.c3
      have c4 := g.c4
      have d0 := g'.c0
      have d1 := g'.c1
      have d2 := g'.c2
      have d3 := g'.c3
      have d4 := g'.c4
      have hin := g.inn
      have hin' := g'.inn
      have hsize := hbel.size
      clear hc1 hc2 hcell1 hcell2 hn hn' g g'
      go_wp2_with fail
      go_region_with (go_at_call 36; refine (eqVNode_any B (nodeAt vs k) ka ki ka' ki' _ ?_ ?_ ?_).mono ?_; exact hin.below (bsame rfl rfl rfl rfl); exact hin'.below (bsame rfl rfl rfl rfl); exact (by simp; omega); rintro e w1 ⟨rfl, hq⟩)
      all_goals
        have hb2 : Below w.heap.size w w1 := hbel.drew.trans (hq.mono (by simpa using hsize))
        go_wp2_with fail
        go_roundw
        case rel => exact ⟨k + 1, by omega, by go_num, hb2⟩
        case measure => simp [intOf]; omega
    · go_wp2_with fail
      go_ret
      exact ⟨rfl, hbel⟩
end Go.Proofs.YtfijafbpdlakaaaGreatDoor

/-
  Copies that the laws make have memory of their own: they can be marked.
-/
namespace Go.Proofs.YtfijafbpdlakaaaGreatDoor
open Go.RowKit
set_option linter.unusedSimpArgs false
set_option linter.unusedVariables false

theorem rowW {w : World} {b t n : Nat} {f : Nat → Value} (h : w.rowIs b t n f) : WRow w b n := fun j hj => ⟨⟨_, h.cell hj⟩, h.frozen j⟩

theorem OwnAt.marky {w : World} {b : Nat} {vs : List VN} {KB KI : Nat → Nat} (h : OwnAt w b vs KB KI) (hn : vs.length ≤ 1048576) (hk : ∀ i, i < vs.length → (nodeAt vs i).keys.length ≤ 1048576 ∧ (nodeAt vs i).kids.length ≤ 1048576) :
    Marky b w b vs.length (fun i => (nodeAt vs i).keys.length) (fun i => (nodeAt vs i).kids.length) KB KI := by
  have mono : ∀ i j, i < vs.length → j < vs.length → i ≠ j → KI i < KB j ∨ KI j < KB i := by
    intro i j hi hj e
    rcases Nat.lt_or_gt_of_ne e with e | e
    · exact Or.inl (h.to.mono i j e hj)
    · exact Or.inr (h.to.mono j i e hi)
  refine ⟨Nat.le_refl _, h.row.lt, hn, rowW h.row, hk, fun i hi => ?_, fun i hi => ?_, fun i hi => ?_, fun i j hi hj e _ _ => ?_, fun i j hi hj _ _ => ?_, fun i j hi hj e _ _ => ?_⟩
  · refine ⟨_, _, by rw [h.row.cell (by omega), nodeCell3], fun _ => ⟨rfl, ?_, (h.to.rk i hi).lt, rowW (h.to.rk i hi)⟩⟩
    have := h.to.lo i hi
    omega
  · refine ⟨_, _, by rw [h.row.cell (by omega), nodeCell4], fun _ => ⟨rfl, ?_, (h.to.ri i hi).lt, rowW (h.to.ri i hi)⟩⟩
    have := h.to.lo i hi
    omega
  · have := h.to.lo i hi
    exact ⟨fun _ => by omega, fun _ => by omega⟩
  · have := h.to.lo i hi
    have := h.to.lo j hj
    have := mono i j hi hj e
    omega
  · have := h.to.lo i hi
    have := h.to.lo j hj
    by_cases e : i = j
    · subst e; omega
    · have := mono i j hi hj e
      omega
  · have := h.to.lo i hi
    have := h.to.lo j hj
    have := mono i j hi hj e
    omega

/-- The blocks that the marks of such a copy write: from its row on, and below its end. -/
theorem OwnAt.marked {w : World} {b x : Nat} {vs : List VN} {KB KI : Nat → Nat} (h : OwnAt w b vs KB KI) (hx : Marked b vs.length (fun i => (nodeAt vs i).keys.length) (fun i => (nodeAt vs i).kids.length) KB KI x) : b ≤ x ∧ x < w.heap.size := by
  obtain ⟨_, rfl | ⟨i, hi, ⟨_, rfl⟩ | ⟨_, rfl⟩⟩⟩ := hx
  · exact ⟨Nat.le_refl _, h.row.lt⟩
  · have := h.to.lo i hi
    exact ⟨by omega, (h.to.rk i hi).lt⟩
  · have := h.to.lo i hi
    exact ⟨by omega, (h.to.ri i hi).lt⟩
end Go.Proofs.YtfijafbpdlakaaaGreatDoor
