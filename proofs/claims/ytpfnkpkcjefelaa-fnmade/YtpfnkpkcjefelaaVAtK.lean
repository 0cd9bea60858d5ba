/-
  Keys with their places put in order, one behind the other. Plain mathematics, and slices of a row.
-/
import Derived.Test.YtpfnkpkcjefelaaWn5
import Derived.Test.YtpfnkpkcjefelaaPartOk
import Derived.Test.YtpfnkpkcjefelaaValK
namespace Go.Proofs.Ytpfnkpkcjefelaa
open Go.RowKit
set_option linter.unusedSimpArgs false
set_option linter.unusedVariables false

/-- The first i keys in order with their places; none: two are the same. -/
def sortIn (ks : List ByteArray) : Nat → Option (List ByteArray × List Nat)
  | 0 => some ([], [])
  | i + 1 => match sortIn ks i with
    | none => none
    | some (ns, ps) => if hasK ns (keyAt ks i) = true then none else some (ns.take (posK ns (keyAt ks i)) ++ [keyAt ks i] ++ ns.drop (posK ns (keyAt ks i)), ps.take (posK ns (keyAt ks i)) ++ [i] ++ ps.drop (posK ns (keyAt ks i)))

theorem sortIn_len {ks : List ByteArray} : ∀ {i : Nat} {ns : List ByteArray} {ps : List Nat}, sortIn ks i = some (ns, ps) → ns.length = i ∧ ps.length = i := by
  intro i
  induction i with
  | zero => intro ns ps h; simp [sortIn] at h; obtain ⟨rfl, rfl⟩ := h; exact ⟨rfl, rfl⟩
  | succ i ih =>
    intro ns ps h
    rw [sortIn] at h
    split at h
    · cases h
    · rename_i ns0 ps0 h0
      obtain ⟨h1, h2⟩ := ih h0
      split at h
      · cases h
      · injection h with h
        injection h with e1 e2
        subst e1 e2
        have := (posK_spec (l := ns0) (keyAt ks i)).1
        simp
        omega

theorem sortIn_mem {ks : List ByteArray} : ∀ {i : Nat} {ns : List ByteArray} {ps : List Nat}, sortIn ks i = some (ns, ps) → ∀ x ∈ ps, x < i := by
  intro i
  induction i with
  | zero => intro ns ps h; simp [sortIn] at h; obtain ⟨rfl, rfl⟩ := h; simp
  | succ i ih =>
    intro ns ps h
    rw [sortIn] at h
    split at h
    · cases h
    · rename_i ns0 ps0 h0
      split at h
      · cases h
      · injection h with h
        injection h with e1 e2
        subst e1 e2
        intro x hx
        simp only [List.mem_append, List.mem_singleton] at hx
        rcases hx with (hx | hx) | hx
        · have := ih h0 x (List.mem_of_mem_take hx); omega
        · omega
        · have := ih h0 x (List.mem_of_mem_drop hx); omega

theorem sortIn_none {ks : List ByteArray} {i j : Nat} (h : sortIn ks i = none) (hij : i ≤ j) : sortIn ks j = none := by
  obtain ⟨d, rfl⟩ : ∃ d, j = i + d := ⟨j - i, by omega⟩
  clear hij
  induction d with
  | zero => exact h
  | succ d ih => rw [← Nat.add_assoc, sortIn, ih]

theorem sortIn_put {ks : List ByteArray} {i j : Nat} {ns : List ByteArray} {ps : List Nat} (h : sortIn ks i = some (ns, ps)) (hj : posK ns (keyAt ks i) = j) (hn : hasK ns (keyAt ks i) = false) : sortIn ks (i + 1) = some (ns.take j ++ [keyAt ks i] ++ ns.drop j, ps.take j ++ [i] ++ ps.drop j) := by
  rw [sortIn, h]
  simp only [hn, hj]
  rfl

theorem sortIn_twice {ks : List ByteArray} {i : Nat} {ns : List ByteArray} {ps : List Nat} (h : sortIn ks i = some (ns, ps)) (hn : hasK ns (keyAt ks i) = true) : sortIn ks (i + 1) = none := by
  rw [sortIn, h]
  simp only [hn]
  rfl

theorem hasK_at {l : List ByteArray} {key : ByteArray} {j : Nat} (hj : posK l key = j) : hasK l key = (decide (j < l.length) && decide ((keyAt l j).toList = key.toList)) := by unfold hasK; rw [hj]

theorem keyAt_mapGet {l : List ByteArray} {j : Nat} (hj : j < l.length) : (l.map Value.string)[j]? = some (.string (keyAt l j)) := by
  rw [List.getElem?_map, List.getElem?_eq_getElem hj]
  simp [keyAt, hj]

/-- A row of rows, by its cells alone. -/
def CellsAt (B : Nat) (w : World) (v : Value) (m : Nat) (cs : Nat → Value) : Prop :=
  ∃ a cap, v = .slice a m cap ∧ (∀ i, i < m → ∃ a n c, cs i = .slice a n c) ∧ (0 < m → ∃ b o, a = some ⟨b, o, none⟩ ∧ b < B ∧ ∀ i, i < m → w.cell? ⟨b, o + i, none⟩ = some (cs i))

theorem own_some {w : World} {base e s n x : Nat} {v : Value} {xs : List Value} (h : w.ownsRow base e s v n xs) (hx : v.ownBlock = some x) : ∃ cap, v = .slice (some ⟨x, 0, none⟩) n cap ∧ n ≤ cap := by
  rcases h.2 with ⟨rfl, _⟩ | ⟨g, cap, cur, rfl, _, _, hnc, _⟩
  · simp [Value.ownBlock] at hx
  · simp [Value.ownBlock] at hx
    subst hx
    exact ⟨cap, rfl, hnc⟩

theorem elemStr : Try.prog.elem 38 = 9 := by kernel_rfl
theorem elemRow : Try.prog.elem 35 = 24 := by kernel_rfl
theorem sizeStr (w : World) : (sizeOf 9).run Try.prog w = .ok 1 w := by
  obtain ⟨i, hi, hz, hs, hy⟩ := info_parts infoStr
  simp [sizeOf, typeInfo, hi, hs]
theorem infoRowV : (Try.prog.info? 24).map (fun i => (i.zero, i.size, i.bytes)) = some (some (.slice none 0 0), 1, 24) := by kernel_rfl
theorem sizeRow (w : World) : (sizeOf 24).run Try.prog w = .ok 1 w := by
  obtain ⟨i, hi, hz, hs, hy⟩ := info_parts infoRowV
  simp [sizeOf, typeInfo, hi, hs]

theorem sliced_to (g j cap : Nat) : sliced (some ⟨g, 0, none⟩) 0 j cap 1 = .slice (some ⟨g, 0, none⟩) j cap := by
  unfold sliced
  split
  · rename_i h; subst h; simp
  · simp [Addr.add]
theorem sliced_from (g j n cap : Nat) : ∃ ad, sliced (some ⟨g, 0, none⟩) j n cap 1 = .slice (some ad) (n - j) (cap - j) ∧ (j < n → n ≤ cap → ad = ⟨g, j, none⟩) := by
  unfold sliced
  split
  · rename_i h; subst h; exact ⟨_, rfl, fun h1 h2 => by omega⟩
  · exact ⟨_, rfl, fun _ _ => by simp [Addr.add]; intro h; exact h.symm⟩

theorem strs_to (g n cap j : Nat) (hj : j ≤ cap) (w : World) : (Instr.slice 38 (.slice (some ⟨g, 0, none⟩) n cap) none (some (.int .i64 (j : Int))) none).run Try.prog w = .ok (.slice (some ⟨g, 0, none⟩) j cap) w := by
  rw [run_slice_h (P := Try.prog) (w := w) 38 (some ⟨g, 0, none⟩) n cap (by rw [elemStr]; exact Try.underlying38) .i64 j (by omega) (by omega), elemStr, sizeStr]
  simp only [Result.andThen, Int.toNat_natCast, sliced_to]
theorem rows_to (g n cap j : Nat) (hj : j ≤ cap) (w : World) : (Instr.slice 35 (.slice (some ⟨g, 0, none⟩) n cap) none (some (.int .i64 (j : Int))) none).run Try.prog w = .ok (.slice (some ⟨g, 0, none⟩) j cap) w := by
  rw [run_slice_h (P := Try.prog) (w := w) 35 (some ⟨g, 0, none⟩) n cap (by rw [elemRow]; exact Try.underlying35) .i64 j (by omega) (by omega), elemRow, sizeRow]
  simp only [Result.andThen, Int.toNat_natCast, sliced_to]
theorem strs_from (g n cap j : Nat) (hj : j ≤ n) : ∃ ad, (∀ w, (Instr.slice 38 (.slice (some ⟨g, 0, none⟩) n cap) (some (.int .i64 (j : Int))) none none).run Try.prog w = .ok (.slice (some ad) (n - j) (cap - j)) w) ∧ (j < n → n ≤ cap → ad = ⟨g, j, none⟩) := by
  obtain ⟨ad, h1, h2⟩ := sliced_from g j n cap
  refine ⟨ad, fun w => ?_, h2⟩
  rw [run_slice_l (P := Try.prog) (w := w) 38 (some ⟨g, 0, none⟩) n cap (by rw [elemStr]; exact Try.underlying38) .i64 j (by omega) (by omega), elemStr, sizeStr]
  simp only [Result.andThen, Int.toNat_natCast, h1]
theorem rows_from (g n cap j : Nat) (hj : j ≤ n) : ∃ ad, (∀ w, (Instr.slice 35 (.slice (some ⟨g, 0, none⟩) n cap) (some (.int .i64 (j : Int))) none none).run Try.prog w = .ok (.slice (some ad) (n - j) (cap - j)) w) ∧ (j < n → n ≤ cap → ad = ⟨g, j, none⟩) := by
  obtain ⟨ad, h1, h2⟩ := sliced_from g j n cap
  refine ⟨ad, fun w => ?_, h2⟩
  rw [run_slice_l (P := Try.prog) (w := w) 35 (some ⟨g, 0, none⟩) n cap (by rw [elemRow]; exact Try.underlying35) .i64 j (by omega) (by omega), elemRow, sizeRow]
  simp only [Result.andThen, Int.toNat_natCast, h1]
end Go.Proofs.Ytpfnkpkcjefelaa

/-
  spec.PartsOf: the rows of the parts' nodes.
-/
namespace Go.Proofs.Ytpfnkpkcjefelaa
open Go.RowKit
set_option linter.unusedSimpArgs false
set_option linter.unusedVariables false

theorem infoRow : (Try.prog.info? 24).map (fun i => (i.zero, i.size, i.bytes)) = some (some (.slice none 0 0), 1, 24) := by kernel_rfl

/-- The root's kids, and their nodes. -/
def rootKids (vs : List VN) : List Int := (nodeAt vs (vs.length - 1)).kids
def PL (vs : List VN) (i : Nat) : List VN := partOf vs (intAt (rootKids vs) i).toNat
def partsN (vs : List VN) : Nat := if okB vs = true then (rootKids vs).length else 0

theorem root_kid {vs : List VN} (hok : okB vs = true) {k : Nat} (hk : k < (rootKids vs).length) : ∃ q : Nat, intAt (rootKids vs) k = (q : Int) ∧ q + 1 < vs.length := by
  obtain ⟨p1, p2, _, _⟩ := okB_parts hok
  have := kidsIn_get (p2 (vs.length - 1) (by omega)).2 hk
  refine ⟨(intAt (rootKids vs) k).toNat, ?_, ?_⟩
  · unfold rootKids; omega
  · unfold rootKids; omega

theorem PL_few {vs : List VN} (hf : ∀ i, i < vs.length → Fits (nodeAt vs i)) : partsN vs ≤ 80 ∧ ∀ i, i < partsN vs → Few (PL vs i) ∧ ∀ j, j < (PL vs i).length → Fits (nodeAt (PL vs i) j) := by
  unfold partsN
  by_cases hok : okB vs = true
  · rw [if_pos hok]
    obtain ⟨p1, _, _, p4⟩ := okB_parts hok
    refine ⟨by have := p4 (vs.length - 1) (by omega); unfold rootKids; omega, fun i hi => ?_⟩
    obtain ⟨q, hq, hql⟩ := root_kid hok hi
    have e : PL vs i = partOf vs q := by unfold PL; rw [hq]; simp
    rw [e]
    have hp := part_fits hok hf (m := q) (by omega)
    exact ⟨⟨(lay_part hok (Nat.lt_succ_self q) (by omega)).2, fun j hj => (hp j hj).2⟩, fun j hj => (hp j hj).1⟩
  · rw [if_neg hok]
    exact ⟨by omega, fun i hi => absurd hi (by omega)⟩

set_option maxRecDepth 100000 in
set_option maxHeartbeats 3200000 in
theorem l1Parts_any (B : Nat) (v : Value) (vs : List VN) (w : World) (h : NodesAt B w v vs) (hB : B ≤ w.heap.size) (hok : okB vs = true) :
    Calls Try.prog 64 #[v] w fun e w' => ∃ r rs KV IV lo, e = .returned r ∧ Rows2 w.heap.size w' r (rootKids vs).length (PL vs) rs KV IV lo ∧ Below w.heap.size w w' := by
  have HV := hideIt h
  obtain ⟨hlen, av, cap, rfl, hcell⟩ := h
  obtain ⟨p1, _, p3, _⟩ := okB_parts hok
  obtain ⟨b0, o0, rfl, hb0, hc⟩ := hcell (by omega)
  obtain ⟨ka, ki, hn1⟩ := hc (vs.length - 1) (by omega)
  have HN1 := hideIt hn1
  have HP3 := hideIt p3
  have HKF := hideIt (keys_few hok)
  have HRK := hideIt (fun k hk => root_kid (k := k) hok hk)
  obtain ⟨i0, hi0, hz0, hs0, hy0⟩ := info_parts infoRow
  obtain ⟨_, hkb, aI, cI, eI, hki⟩ := hn1.inn.kids
  subst eI
  have hb1 : Below w.heap.size w (w.alloc (.cells #[] 24)) := (Below.refl _ _).alloc (Nat.le_refl _) _
  have c4 := (below_cell (o := o0 + (vs.length - 1) * 5 + 4) hb1 (show b0 < w.heap.size by omega)).trans hn1.c4
  have HKI := hideIt hki
  have p0 : ((vs.length : Int) - 1).toNat = vs.length - 1 := by omega
  have HR0 := hideIt (Rows2.start (base := w.heap.size) (World.ownsRow_lit w #[] 0 (Nat.le_refl _) (by simp [maxLen]) rfl) (by simp) (PL vs))
  have HB1 := hideIt hb1
  have hkl : (rootKids vs).length = (nodeAt vs (vs.length - 1)).kids.length := rfl
  have HKL := hideIt hkl
  have hk80 : (nodeAt vs (vs.length - 1)).kids.length ≤ 80 := (HKF.out (vs.length - 1) (by omega)).2.1
  obtain ⟨M, hM⟩ : ∃ M, (nodeAt vs (vs.length - 1)).kids.length = M := ⟨_, rfl⟩
  have HM := hideIt hM
  rw [hM] at c4 hk80
  clear hcell hc hn1 hki p3 hb1 hkl hM
  go_enter Try.func64, Try.ntmps64
  go_wp2_with fail
  go_loopw [3, 5] (fun o i wr => ∃ (k : Nat) (rs : Nat → Value) (KV IV : Nat → Nat → Value) (lo : Nat → Nat), k ≤ M ∧ i = .int .i64 k ∧ Rows2 w.heap.size wr o k (PL vs) rs KV IV lo ∧ Below w.heap.size w wr) (fun _ i _ => M - (intOf i).toNat)
  case atStart => exact ⟨0, _, _, _, _, Nat.zero_le _, rfl, HR0.out, HB1.out⟩
  case round =>
    obtain ⟨k, rs, KV, IV, lo, hk, rfl, hrows, hbl⟩ := hrel
    have HR := hideIt hrows
    have zs := hbl.size
    obtain ⟨ao, co, eo⟩ := own_slice hrows.row
    subst eo
    clear hrows
    by_cases hlt : k < M
    · obtain ⟨q, hq, hql⟩ := HRK.out k (by rw [HKL.out, HM.out]; exact hlt)
      obtain ⟨bk, ok, rfl, hbk, hck⟩ := HKI.out (by rw [HM.out]; omega)
      have hcq : wr.cell? ⟨bk, ok + k, none⟩ = some (.int .i64 (q : Int)) := by
        have := hck k (by rw [HM.out]; exact hlt)
        rw [← hq]
        exact (below_cell hbl (by omega)).trans this
      obtain ⟨⟨a0, h0⟩, htr⟩ := HP3.out q (by omega)
      have HTR := hideIt htr
      have HPL : Hid (run vs (-(a0 : Int)) a0 (q + 1 - a0) = PL vs k) := by rw [Hid]; unfold PL; rw [hq, Int.toNat_natCast, partOf, htr]; simp [trF]
      clear htr hq hck
      go_wp2_with fail
      refine (l1Part_any B _ vs q a0 h0 wr (HV.out.below (hbl.mono hB)) (by omega) p1.2 HKF.out (by omega) HTR.out).mono ?_
      rintro e w3 ⟨r, K, I, rfl, hn3, hb3⟩
      rw [HPL.out] at hn3
      have HN3 := hideIt hn3
      obtain ⟨ar, cr, er⟩ := own_slice hn3.row
      obtain ⟨Lk, hLk⟩ : ∃ Lk, (PL vs k).length = Lk := ⟨_, rfl⟩
      rw [hLk] at er
      subst er
      have HB3 := hideIt hb3
      have z3 := hb3.size
      have HROW := hideIt (HR.out.below hb3).row
      clear hn3 hb3 hLk
      go_wp2_with (at_builtin; refine wpList_append_own_at _ rfl _ _ 35 rfl w.heap.size 24 i0 (.slice none 0 0) 1 24 Try.underlying35 hi0 hz0 hs0 hy0 rfl (by decide) _ _ _ rfl (HROW.out.alloc _) ⟨w3.heap.size, 0, none⟩ 1 1 [.slice ar Lk cr] rfl rfl ?c1 ?c2 ?c3 ?c4 ?c5 ?_)
      case c1 => exact cell_one_new _ _ _
      case c2 => intro u hu; simp at hu; subst hu; rfl
      case c3 => unfold maxLen; omega
      case c4 => omega
      case c5 => simp; omega
      intro v' w5 hown hgrow _ _
      have HR5 := hideIt (HR.out.snoc HB3.out HN3.out hown hgrow)
      have HB5 : Hid (Below w.heap.size w w5) := ((hbl.trans (HB3.out.mono zs)).alloc (by omega) _).grown hgrow (by simp; omega) (fun x hx => (HROW.out.lt x hx).1)
      clear hown hgrow
      go_wp2_with fail
      go_roundw
      case rel => exact ⟨k + 1, _, _, _, _, by omega, by go_num, HR5.out, HB5.out⟩
      case measure => simp [intOf]; omega
    · obtain rfl : k = M := by omega
      go_wp2_with fail
      go_ret
      exact ⟨_, _, _, _, _, rfl, by rw [HKL.out, HM.out]; exact HR.out, hbl⟩

set_option maxRecDepth 100000 in
set_option maxHeartbeats 1600000 in
theorem specPartsOf_any (B : Nat) (v : Value) (vs : List VN) (w : World) (h : NodesAt B w v vs) (hB : B ≤ w.heap.size) :
    Calls Try.prog 25 #[v] w fun e w' => ∃ r base rs KV IV lo, e = .returned r ∧ w.heap.size ≤ base ∧ Rows2 base w' r (partsN vs) (PL vs) rs KV IV lo ∧ Below w.heap.size w w' := by
  have HV := hideIt h
  obtain ⟨_, a, cap, rfl, _⟩ := h
  have HPN : Hid (partsN vs = if okB vs = true then (rootKids vs).length else 0) := rfl
  go_enter Try.func25, Try.ntmps25
  go_wp2_with fail
  refine (specOk_any B _ vs _ HV.out hB).mono ?_
  rintro e w1 ⟨rfl, hb1⟩
  have z1 := hb1.size
  cases ok1 : okB vs
  · go_wp2_with fail
    go_ret
    exact ⟨_, w1.heap.size, _, _, _, _, rfl, z1, by rw [HPN.out, ok1]; exact Rows2.start (World.ownsRow_lit w1 #[] 0 (Nat.le_refl _) (by simp [maxLen]) rfl) (by simp) (PL vs), hb1.trans ((Below.refl _ _).alloc z1 _)⟩
  · go_wp2_with fail
    refine (l1Parts_any B _ vs _ (HV.out.below (hb1.mono hB)) (by omega) ok1).mono ?_
    rintro e w2 ⟨r, rs, KV, IV, lo, rfl, hr, hb2⟩
    have HR := hideIt hr
    obtain ⟨ar, cr, er⟩ := own_slice hr.row
    subst er
    clear hr
    go_wp2_with fail
    go_ret
    exact ⟨_, w1.heap.size, rs, KV, IV, lo, rfl, z1, by rw [HPN.out, ok1]; exact HR.out, hb1.trans (hb2.mono z1)⟩
end Go.Proofs.Ytpfnkpkcjefelaa

/-
  impl.valuesAt: the values of all nodes.
-/
namespace Go.Proofs.Ytpfnkpkcjefelaa
open Go.RowKit
set_option linter.unusedSimpArgs false
set_option linter.unusedVariables false

/-- One more value is laid. -/
theorem valStepK {K s N k : Nat} {w W0 W : World} {vs : List VN} {VV : Nat → Value} {u : Value} (hK : K ≤ s) (hrow : W.rowIs s 73 N (fillI VV k)) (hall : ∀ j, j < k → ValIsK K s W0.heap.size W0 vs (j + 1) j (VV j)) (hk : Keep s W0.heap.size W0 W) (hsz : W0.heap.size ≤ W.heap.size) (hs : s < W0.heap.size) (hb : Below s w W)
    (hv : ValIsK K s W.heap.size W vs (k + 1) k u) :
    (W.setCell ⟨s, k, none⟩ u).rowIs s 73 N (fillI (fun j => if j = k then u else VV j) (k + 1)) ∧ (∀ j, j < k + 1 → ValIsK K s (W.setCell ⟨s, k, none⟩ u).heap.size (W.setCell ⟨s, k, none⟩ u) vs (j + 1) j (if j = k then u else VV j)) ∧ Below s w (W.setCell ⟨s, k, none⟩ u) := by
  have hsz2 : (W.setCell ⟨s, k, none⟩ u).heap.size = W.heap.size := World.size_setCell _ _ _
  refine ⟨fillI_step hrow, fun j hj => ?_, hb.setCell (Nat.le_refl _) _⟩
  by_cases e : j = k
  · subst e
    rw [if_pos rfl]
    exact ValIsK.keep hK (Keep.setCell W u) (by omega) (by omega) hv
  · rw [if_neg e]
    exact ValIsK.keep hK (hk.trans (Keep.setCell W u)) (by omega) (by omega) (hall j (by omega))

set_option maxRecDepth 100000 in
set_option maxHeartbeats 6400000 in
theorem valuesAtK_any (B : Nat) (v : Value) (vs : List VN) (w : World) (h : NodesAt B w v vs) (hB : B ≤ w.heap.size) (hn1 : 1 ≤ vs.length) (hn80 : vs.length ≤ 80) (hok : ∀ k, k < vs.length → nodeB (nodeAt vs k) = true ∧ kidsIn vs k = true) (hkn : ∀ k, k < vs.length → (nodeAt vs k).kids.length ≤ k) :
    Calls Try.prog 62 #[v] w fun e w' => ∃ VV : Nat → Value, e = .returned (.slice (some ⟨w.heap.size, 0, none⟩) vs.length vs.length) ∧
      w'.rowIs w.heap.size 73 vs.length VV ∧ (∀ j, j < vs.length → ValIsK B w.heap.size w'.heap.size w' vs (j + 1) j (VV j)) ∧ Below w.heap.size w w' := by
  obtain ⟨hlen, a, cap, rfl, hcell⟩ := h
  obtain ⟨b0, o0, rfl, hb0, hc⟩ := hcell (by omega)
  clear hcell
  have HOK := hideIt hok
  have HC := hideIt hc
  clear hok hc
  have hmk := run_make_row' (P := Try.prog) 85 73 .nilIface 16 Try.underlying85 infoVal rfl .i64 .i64 vs.length (by omega) (by omega)
  obtain ⟨i0, hi, hz0, hz1, hz2⟩ := info_parts infoVal
  go_enter Try.func62, Try.ntmps62
  go_wp2_with fail
  clear hmk
  have hr0 : (w.alloc (.cells (madeCells #[Value.nilIface] vs.length) 73)).rowIs w.heap.size 73 vs.length (fillI (fun _ => undef) 0) := (World.rowIs_made w _ _ _).congr fun i _ => by simp [fillI]
  have hbz : Below w.heap.size w (w.alloc (.cells (madeCells #[Value.nilIface] vs.length) 73)) := (Below.refl _ _).alloc (Nat.le_refl _) _
  go_loopw [14] (fun i wr => ∃ (k : Nat) (VV : Nat → Value), k ≤ vs.length ∧ i = .int .i64 k ∧ wr.rowIs w.heap.size 73 vs.length (fillI VV k) ∧ (∀ j, j < k → ValIsK B w.heap.size wr.heap.size wr vs (j + 1) j (VV j)) ∧ Below w.heap.size w wr) (fun i _ => vs.length - (intOf i).toNat)
  case atStart => exact ⟨0, _, Nat.zero_le _, rfl, hr0, fun j hj => by omega, hbz⟩
  case round =>
    obtain ⟨k, VV, hk, rfl, hrow, hall, hbel⟩ := hrel
    obtain ⟨W0, rfl⟩ : ∃ W0, W0 = wr := ⟨_, rfl⟩
    have HA := hideIt hall
    clear hall hr0 hbz
    by_cases hlt : k < vs.length
    · obtain ⟨ka, ki, hn⟩ := HC.out k hlt
      have hn' := hn.below (hbel.mono hB) hb0
      have c0 := hn'.c0
      have c1 := hn'.c1
      have c2 := hn'.c2
      have c3 := hn'.c3
      have c4 := hn'.c4
      have hsize := hbel.size
      have hlt0 := hrow.lt
      have HK := hideIt hn.inn.keys
      obtain ⟨_, _, aK, cK, eK, _⟩ := hn'.inn.keys
      obtain ⟨hkl, hkb, aI, cI, eI, hkc⟩ := hn'.inn.kids
      subst eK eI
      have HR := hideIt hrow
      clear hn hn' hrow
      go_wp2_with fail
      have x0 : (W0.alloc (.cells #[.int .i64 (nodeAt vs k).kind, .int .i64 (nodeAt vs k).n, .string (nodeAt vs k).s, .slice aK (nodeAt vs k).keys.length cK, .slice aI (nodeAt vs k).kids.length cI] 41)).cell? ⟨W0.heap.size, 0, none⟩ = some (.int .i64 (nodeAt vs k).kind) := by simp
      have x1 : (W0.alloc (.cells #[.int .i64 (nodeAt vs k).kind, .int .i64 (nodeAt vs k).n, .string (nodeAt vs k).s, .slice aK (nodeAt vs k).keys.length cK, .slice aI (nodeAt vs k).kids.length cI] 41)).cell? ⟨W0.heap.size, 1, none⟩ = some (.int .i64 (nodeAt vs k).n) := by simp
      have x2 : (W0.alloc (.cells #[.int .i64 (nodeAt vs k).kind, .int .i64 (nodeAt vs k).n, .string (nodeAt vs k).s, .slice aK (nodeAt vs k).keys.length cK, .slice aI (nodeAt vs k).kids.length cI] 41)).cell? ⟨W0.heap.size, 2, none⟩ = some (.string (nodeAt vs k).s) := by simp
      have x3 : (W0.alloc (.cells #[.int .i64 (nodeAt vs k).kind, .int .i64 (nodeAt vs k).n, .string (nodeAt vs k).s, .slice aK (nodeAt vs k).keys.length cK, .slice aI (nodeAt vs k).kids.length cI] 41)).cell? ⟨W0.heap.size, 3, none⟩ = some (.slice aK (nodeAt vs k).keys.length cK) := by simp
      have sW1 : (W0.alloc (.cells #[.int .i64 (nodeAt vs k).kind, .int .i64 (nodeAt vs k).n, .string (nodeAt vs k).s, .slice aK (nodeAt vs k).keys.length cK, .slice aI (nodeAt vs k).kids.length cI] 41)).heap.size = W0.heap.size + 1 := by simp
      have bW1 : Below W0.heap.size W0 (W0.alloc (.cells #[.int .i64 (nodeAt vs k).kind, .int .i64 (nodeAt vs k).n, .string (nodeAt vs k).s, .slice aK (nodeAt vs k).keys.length cK, .slice aI (nodeAt vs k).kids.length cI] 41)) := (Below.refl _ _).alloc (Nat.le_refl _) _
      have rW1 := hideIt (HR.out.alloc (.cells #[.int .i64 (nodeAt vs k).kind, .int .i64 (nodeAt vs k).n, .string (nodeAt vs k).s, .slice aK (nodeAt vs k).keys.length cK, .slice aI (nodeAt vs k).kids.length cI] 41))
      generalize (W0.alloc (.cells #[.int .i64 (nodeAt vs k).kind, .int .i64 (nodeAt vs k).n, .string (nodeAt vs k).s, .slice aK (nodeAt vs k).keys.length cK, .slice aI (nodeAt vs k).kids.length cI] 41)) = W1 at *
      have HsW := hideIt sW1
      have hW1gt : W0.heap.size < W1.heap.size := by omega
      have HX := hideIt (And.intro x0 (And.intro x1 (And.intro x2 x3)))
      have hsub : Below w.heap.size w W1 := hbel.trans (bW1.mono hsize)
      clear sW1 x0 x1 x2 x3 c0 c1 c2 c3 c4
      go_loopw [6, 22] (fun it i wr => ∃ c : Nat, c ≤ (nodeAt vs k).kids.length ∧ i = .int .i64 c ∧ wr.ownsRow W1.heap.size 73 1 it c ((List.range c).map fun j => VV (intAt (nodeAt vs k).kids j).toNat) ∧ Below W1.heap.size W1 wr) (fun _ i _ => (nodeAt vs k).kids.length - (intOf i).toNat)
      case atStart => exact ⟨0, Nat.zero_le _, rfl, World.ownsRow_nil _ _ _ _, Below.refl _ _⟩
      case round =>
        obtain ⟨c, hcl, rfl, hown, hb2⟩ := hrel
        by_cases hcc : c < (nodeAt vs k).kids.length
        · obtain ⟨b1, o1, rfl, hb1', hkc1⟩ := hkc (by omega)
          have hkr := kidsIn_get (HOK.out k hlt).2 hcc
          obtain ⟨q, hq⟩ : ∃ q : Nat, intAt (nodeAt vs k).kids c = (q : Int) := ⟨(intAt (nodeAt vs k).kids c).toNat, by omega⟩
          have hqk : q < k := by omega
          have hck : wr.cell? ⟨b1, o1 + c, none⟩ = some (.int .i64 (q : Int)) := by
            rw [← hq]; exact (below_cell hb2 (by omega)).trans ((below_cell bW1 (by omega)).trans (hkc1 c hcc))
          obtain ⟨tq, xq, hvq⟩ := (HA.out q hqk).iface
          have hcq : wr.cell? ⟨w.heap.size, q, none⟩ = some (.iface tq xq) := by
            refine (below_cell hb2 (by omega)).trans ?_
            rw [rW1.out.cell (by omega), fillI, if_pos hqk, hvq]
          have hqN : (q : Int) < (vs.length : Int) := by omega
          have HQ : Hid ((List.range (c + 1)).map (fun j => VV (intAt (nodeAt vs k).kids j).toNat) = (List.range c).map (fun j => VV (intAt (nodeAt vs k).kids j).toNat) ++ [.iface tq xq]) := by
            rw [Hid, List.range_succ, List.map_append]
            simp [hq, hvq]
          have hb2s := hb2.size
          have HB2 := hideIt hb2
          have h80 : (nodeAt vs k).kids.length ≤ 80 := by have := hkn k hlt; omega
          clear hkc hkc1 hq hkr hvq
          go_wp2_with (at_builtin; refine wpList_append_own _ rfl _ _ 85 rfl W1.heap.size 73 i0 .nilIface 1 16 Try.underlying85 hi hz0 hz1 hz2 rfl (by decide) _ _ _ rfl (hown.alloc _) ⟨wr.heap.size, 0, none⟩ 1 1 [.iface tq xq] rfl rfl ?c1 ?c2 ?c3 ?c4 ?c5 ?_)
          case c1 =>
            intro j u hj
            match j, hj with
            | 0, hj => simp at hj; subst hj; simp [Addr.add]
          case c2 => intro u hu; simp at hu; subst hu; rfl
          case c3 => unfold maxLen; omega
          case c4 => omega
          case c5 => simp; omega
          intro v' w3 hown' hgrow _
          have hb3 : Below W1.heap.size W1 w3 := (HB2.out.alloc hb2s _).grown hgrow (by simp; omega) (fun r hr => by
            rcases hown.2 with ⟨rfl, _⟩ | ⟨g, cp, cu, rfl, hbg, _⟩
            · simp [Value.ownBlock] at hr
            · simp [Value.ownBlock] at hr; omega)
          rw [← HQ.out] at hown'
          clear hgrow hown
          go_wp2_with fail
          go_roundw
          case rel => exact ⟨c + 1, by omega, by go_num, hown', hb3⟩
          case measure => simp [intOf]; omega
        · obtain rfl : c = (nodeAt vs k).kids.length := by omega
          have hb2s := hb2.size
          have hIt := hideIt (items_of_own (lo := w.heap.size) (P := fun j u => ValIsK B w.heap.size wr.heap.size wr vs k (intAt (nodeAt vs k).kids j).toNat u) hown (by omega) (fun j hj => by
            have hkr := kidsIn_get (HOK.out k hlt).2 hj
            obtain ⟨t, x, e⟩ := (HA.out (intAt (nodeAt vs k).kids j).toNat (by omega)).iface
            refine ⟨t, x, e, ?_⟩
            rw [← e]
            exact ValIsK.more (by omega) (ValIsK.keep hB ((Keep.of_below (bW1)).trans (Keep.of_below (hb2.mono (by omega)))) (by omega) (by omega) (HA.out _ (by omega)))))
          have hitv := hIt.out
          obtain ⟨ait, cpt, rfl, _⟩ := hitv
          have y0 : wr.cell? ⟨W0.heap.size, 0, none⟩ = some (.int .i64 (nodeAt vs k).kind) := (below_cell hb2 (by omega)).trans HX.out.1
          have y1 : wr.cell? ⟨W0.heap.size, 1, none⟩ = some (.int .i64 (nodeAt vs k).n) := (below_cell hb2 (by omega)).trans HX.out.2.1
          have y2 : wr.cell? ⟨W0.heap.size, 2, none⟩ = some (.string (nodeAt vs k).s) := (below_cell hb2 (by omega)).trans HX.out.2.2.1
          have y3 : wr.cell? ⟨W0.heap.size, 3, none⟩ = some (.slice aK (nodeAt vs k).keys.length cK) := (below_cell hb2 (by omega)).trans HX.out.2.2.2
          have rwr := rowIs_below rW1.out hb2 (by omega)
          have z0 := rwr.cell hlt
          have z1 := rwr.frozen k
          have HRW := hideIt rwr
          have HKE : Hid (Keep w.heap.size W0.heap.size W0 wr) := (Keep.of_below (bW1)).trans (Keep.of_below (hb2.mono (by omega)))
          have HBE : Hid (Below w.heap.size w wr) := hsub.trans (hb2.mono (by omega))
          have hszz : W0.heap.size ≤ wr.heap.size := by omega
          have HKY : Hid (StrsAt B wr (.slice aK (nodeAt vs k).keys.length cK) (nodeAt vs k).keys) := HK.out.below (HBE.out.mono hB)
          have HNB := hideIt (HOK.out k hlt).1
          clear hown rwr
          by_cases g2 : (nodeAt vs k).kind = 2
          · have S := valStepK (u := .iface 121 (.agg #[.int .i64 (nodeAt vs k).n])) hB HRW.out HA.out HKE.out hszz hlt0 HBE.out (Or.inr (Or.inl ⟨g2, rfl⟩))
            have HS := hideIt S
            clear S
            go_wp2_with fail
            go_roundw
            case rel => exact ⟨k + 1, _, by omega, by go_num, HS.out.1, HS.out.2.1, HS.out.2.2⟩
            case measure => simp [intOf]; omega
          by_cases g3 : (nodeAt vs k).kind = 3
          · have S := valStepK (u := .iface 122 (.agg #[.int .i64 (nodeAt vs k).n])) hB HRW.out HA.out HKE.out hszz hlt0 HBE.out (Or.inr (Or.inr (Or.inl ⟨g3, rfl⟩)))
            have HS := hideIt S
            clear S g2
            go_wp2_with fail
            go_roundw
            case rel => exact ⟨k + 1, _, by omega, by go_num, HS.out.1, HS.out.2.1, HS.out.2.2⟩
            case measure => simp [intOf]; omega
          by_cases g4 : (nodeAt vs k).kind = 4
          · have S := valStepK (u := .iface 124 (.agg #[.string (nodeAt vs k).s])) hB HRW.out HA.out HKE.out hszz hlt0 HBE.out (Or.inr (Or.inr (Or.inr (Or.inl ⟨g4, rfl⟩))))
            have HS := hideIt S
            clear S g2 g3
            go_wp2_with fail
            go_roundw
            case rel => exact ⟨k + 1, _, by omega, by go_num, HS.out.1, HS.out.2.1, HS.out.2.2⟩
            case measure => simp [intOf]; omega
          by_cases g5 : (nodeAt vs k).kind = 5
          · have S := valStepK (u := .iface 93 (.agg #[.slice ait (nodeAt vs k).kids.length cpt])) hB HRW.out HA.out HKE.out hszz hlt0 HBE.out (Or.inr (Or.inr (Or.inr (Or.inr (Or.inl ⟨g5, _, rfl, hIt.out⟩)))))
            have HS := hideIt S
            clear S g2 g3 g4
            go_wp2_with fail
            go_roundw
            case rel => exact ⟨k + 1, _, by omega, by go_num, HS.out.1, HS.out.2.1, HS.out.2.2⟩
            case measure => simp [intOf]; omega
          by_cases g6 : (nodeAt vs k).kind = 6
          · have S := valStepK (u := .iface 95 (.agg #[.slice aK (nodeAt vs k).keys.length cK, .slice ait (nodeAt vs k).kids.length cpt])) hB HRW.out HA.out HKE.out hszz hlt0 HBE.out (Or.inr (Or.inr (Or.inr (Or.inr (Or.inr ⟨g6, _, _, rfl, HKY.out, hIt.out⟩)))))
            have HS := hideIt S
            clear S g2 g3 g4 g5
            go_wp2_with fail
            go_roundw
            case rel => exact ⟨k + 1, _, by omega, by go_num, HS.out.1, HS.out.2.1, HS.out.2.2⟩
            case measure => simp [intOf]; omega
          · have g1 : (nodeAt vs k).kind = 1 := by
              have := HNB.out
              unfold nodeB namedB at this
              by_cases e1 : (nodeAt vs k).kind = 1
              · exact e1
              · simp [e1, g2, g3, g4, g5, g6] at this
            have S := valStepK (u := .iface 135 (.agg #[])) hB HRW.out HA.out HKE.out hszz hlt0 HBE.out (Or.inl ⟨g1, rfl⟩)
            have HS := hideIt S
            clear S g2 g3 g4 g5 g6
            go_wp2_with fail
            go_roundw
            case rel => exact ⟨k + 1, _, by omega, by go_num, HS.out.1, HS.out.2.1, HS.out.2.2⟩
            case measure => simp [intOf]; omega
    · obtain rfl : k = vs.length := by omega
      go_wp2_with fail
      go_ret
      exact ⟨VV, rfl, hrow.congr fun i hi => by simp [fillI, hi], HA.out, hbel⟩
end Go.Proofs.Ytpfnkpkcjefelaa
