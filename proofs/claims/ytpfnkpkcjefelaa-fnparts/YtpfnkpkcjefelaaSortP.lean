/-
  spec.ListOf.
-/
import Derived.Test.YtpfnkpkcjefelaaSParts
import Derived.Test.YtpfnkpkcjefelaaSpc3
import Derived.Test.YtpfnkpkcjefelaaValK
import Derived.Test.YtpfnkpkcjefelaaWn5
namespace Go.Proofs.Ytpfnkpkcjefelaa
open Go.RowKit
set_option linter.unusedSimpArgs false
set_option linter.unusedVariables false

def allB (L : Nat → List VN) (m : Nat) : Bool := (List.range m).all fun i => okB (L i)
theorem allB_yes {L : Nat → List VN} {m : Nat} (h : allB L m = true) : ∀ i, i < m → okB (L i) = true := fun i hi => by
  unfold allB at h; rw [List.all_eq_true] at h; exact h i (List.mem_range.2 hi)
theorem allB_of {L : Nat → List VN} {m : Nat} (h : ∀ i, i < m → okB (L i) = true) : allB L m = true := by
  unfold allB; rw [List.all_eq_true]; exact fun i hi => h i (List.mem_range.1 hi)
theorem allB_no {L : Nat → List VN} {m i : Nat} (hi : i < m) (h : okB (L i) = false) : allB L m = false := by
  cases e : allB L m
  · rfl
  · have := allB_yes e i hi; rw [h] at this; cases this

theorem RowsAt.below {B : Nat} {w w' : World} {v : Value} {m : Nat} {L : Nat → List VN} (h : RowsAt B w v m L) (hb : Below B w w') : RowsAt B w' v m L := by
  obtain ⟨h1, a, c, e, h2⟩ := h
  refine ⟨h1, a, c, e, fun hp => ?_⟩
  obtain ⟨b, ea, hbB, h3⟩ := h2 hp
  refine ⟨b, ea, hbB, fun i hi => ?_⟩
  obtain ⟨r, e2, hn⟩ := h3 i hi
  exact ⟨r, (below_cell hb hbB).trans e2, hn.below hb⟩

set_option maxRecDepth 100000 in
set_option maxHeartbeats 1600000 in
theorem l1All_any (B : Nat) (u : Value) (m : Nat) (L : Nat → List VN) (w : World) (hu : RowsAt B w u m L) (hB : B ≤ w.heap.size) :
    Calls Try.prog 69 #[u] w fun e w' => e = .returned (.bool (allB L m && decide (m ≤ 80))) ∧ Below w.heap.size w w' := by
  obtain ⟨hm, au, cu, rfl, hcu⟩ := hu
  have HCU := hideIt hcu
  clear hcu
  go_enter Try.func69, Try.ntmps69
  go_wp2_with fail
  go_loopw [3] (fun i wr => ∃ k : Nat, k ≤ m ∧ i = .int .i64 k ∧ (∀ j, j < k → okB (L j) = true) ∧ Below w.heap.size w wr) (fun i _ => m - (intOf i).toNat)
  case atStart => exact ⟨0, Nat.zero_le _, rfl, fun j hj => absurd hj (by omega), Below.refl _ _⟩
  case round =>
    obtain ⟨k, hk, rfl, hall, hbl⟩ := hrel
    have HA := hideIt hall
    have zs := hbl.size
    clear hall
    by_cases hlt : k < m
    · obtain ⟨b, rfl, hbB, hcell⟩ := HCU.out (by omega)
      obtain ⟨r, hcr, hnr⟩ := hcell k hlt
      have hcr' := (below_cell hbl (by omega)).trans hcr
      have HN := hideIt (hnr.below (hbl.mono hB))
      obtain ⟨_, ar, cr, rfl, _⟩ := hnr
      clear hcell hcr
      go_wp2_with fail
      refine (specOk_any B _ (L k) _ HN.out (by omega)).mono ?_
      rintro e w1 ⟨rfl, hb1⟩
      have HB1 := hideIt (hbl.trans (hb1.mono zs))
      clear hb1
      cases ok1 : okB (L k)
      · have HNO := hideIt (allB_no hlt ok1)
        go_wp2_with fail
        go_ret
        exact ⟨by rw [HNO.out]; rfl, HB1.out⟩
      · have HA1 : Hid (∀ j, j < k + 1 → okB (L j) = true) := by
          intro j hj
          rcases Nat.lt_or_ge j k with e | e
          · exact HA.out j e
          · obtain rfl : j = k := by omega
            exact ok1
        go_wp2_with fail
        go_roundw
        case rel => exact ⟨k + 1, by omega, by go_num, HA1.out, HB1.out⟩
        case measure => simp [intOf]; omega
    · obtain rfl : k = m := by omega
      have HYES := hideIt (allB_of HA.out)
      by_cases h80 : k ≤ 80
      · go_wp2_with fail
        go_ret
        exact ⟨by rw [HYES.out]; simp [h80]; omega, hbl⟩
      · go_wp2_with fail
        go_ret
        exact ⟨by rw [HYES.out]; simp [h80]; omega, hbl⟩

def listB (L : Nat → List VN) (m : Nat) : Bool := allB L m && decide (m ≤ 80) && okB (makeNs 5 [] L m)
def listNs (L : Nat → List VN) (m : Nat) : List VN := if listB L m = true then makeNs 5 [] L m else []

theorem near_of {L : Nat → List VN} {m : Nat} (hok : ∀ i, i < m → okB (L i) = true) : ∀ i, i < m → 0 < (L i).length ∧ ∀ j, j < (L i).length → Near (nodeAt (L i) j) := by
  intro i hi
  obtain ⟨p1, _, _, _⟩ := okB_parts (hok i hi)
  refine ⟨by omega, fun j hj => ?_⟩
  have kf := keys_few (hok i hi) j hj
  exact ⟨by omega, by omega, fun q hq => by have := kidsIn_get kf.1 hq; omega⟩

set_option maxRecDepth 100000 in
set_option maxHeartbeats 1600000 in
theorem specListOf_any (B : Nat) (u : Value) (m : Nat) (L : Nat → List VN) (w : World) (hu : RowsAt B w u m L) (hB : B ≤ w.heap.size) (hf : ∀ i, i < m → ∀ j, j < (L i).length → Fits (nodeAt (L i) j)) :
    Calls Try.prog 29 #[u] w fun e w' => ∃ r base KV IV, e = .returned (.tuple #[r, .bool (listB L m)]) ∧ w.heap.size ≤ base ∧ Nest base w' r (listNs L m) KV IV ∧ Below w.heap.size w w' := by
  have HU := hideIt hu
  obtain ⟨_, au, cu, rfl, _⟩ := hu
  have HLB : Hid (listB L m = (allB L m && decide (m ≤ 80) && okB (makeNs 5 [] L m))) := rfl
  have HLN : Hid (listNs L m = if listB L m = true then makeNs 5 [] L m else []) := rfl
  go_enter Try.func29, Try.ntmps29
  go_wp2_with fail
  refine (l1All_any B _ m L _ HU.out hB).mono ?_
  rintro e w1 ⟨rfl, hb1⟩
  have z1 := hb1.size
  cases ok1 : (allB L m && decide (m ≤ 80))
  · go_wp2_with fail
    go_ret2
    have hno : listB L m = false := by rw [HLB.out, ok1]; rfl
    exact ⟨.slice none 0 0, w.heap.size, fun _ => undef, fun _ => undef, by rw [hno]; rfl, Nat.le_refl _, by rw [HLN.out, hno]; exact Nest.nil _ _ _ _, hb1⟩
  · have hall : allB L m = true ∧ m ≤ 80 := by simpa using ok1
    have HOK := hideIt (allB_yes hall.1)
    have hm := hall.2
    have HNI := hideIt (make_nice hm HOK.out hf (kind := 5) (by omega) (by omega) (keys := []) (by simp) (fun i hi => absurd hi (by simp)))
    have HLE := hideIt (catNs_le HOK.out m (Nat.le_refl _))
    clear hall
    go_wp2_with fail
    refine (l1Make_any B 5 _ _ [] m L w1 ⟨by simp, fun i hi => absurd hi (by simp), none, 0, rfl, fun h => absurd h (by simp)⟩ (HU.out.below (hb1.mono hB)) (by omega) (by omega) (by simp) (by have := HLE.out; omega) (near_of HOK.out)).mono ?_
    rintro e w2 ⟨r, KV, IV, rfl, hn2, hb2⟩
    have HN2 := hideIt hn2
    obtain ⟨ar, cr, er⟩ := own_slice hn2.row
    obtain ⟨N, hN⟩ : ∃ N, (makeNs 5 [] L m).length = N := ⟨_, rfl⟩
    rw [hN] at er
    subst er
    have z2 := hb2.size
    have HB2 := hideIt (hb1.trans (hb2.mono z1))
    clear hn2 hb2 hN
    go_wp2_with fail
    refine (specOk_any w2.heap.size _ (makeNs 5 [] L m) _ (HN2.out.nodes (by have := HNI.out.1; omega) (fun i hi => (HNI.out.2 i hi).1)) (Nat.le_refl _)).mono ?_
    rintro e w3 ⟨rfl, hb3⟩
    have HN3 := hideIt (HN2.out.below hb3)
    have HB3 := hideIt (HB2.out.trans (hb3.mono (by omega)))
    clear hb3
    cases ok2 : okB (makeNs 5 [] L m)
    · go_wp2_with fail
      go_ret2
      have hno : listB L m = false := by rw [HLB.out, ok2]; simp
      exact ⟨.slice none 0 0, w.heap.size, fun _ => undef, fun _ => undef, by rw [hno]; rfl, Nat.le_refl _, by rw [HLN.out, hno]; exact Nest.nil _ _ _ _, HB3.out⟩
    · go_wp2_with fail
      go_ret2
      have hyes : listB L m = true := by rw [HLB.out, ok1, ok2]; rfl
      exact ⟨.slice ar N cr, w1.heap.size, KV, IV, by rw [hyes]; rfl, z1, by rw [HLN.out, hyes]; exact HN3.out, HB3.out⟩
end Go.Proofs.Ytpfnkpkcjefelaa

/-
  Keys with their places put in order, one behind the other. Plain mathematics, and slices of a row.
-/
namespace Go.Proofs.Ytpfnkpkcjefelaa
open Go.RowKit
set_option linter.unusedSimpArgs false
set_option linter.unusedVariables false

/-- The first i keys in order with their places; none: two are the same. -/
def sortIn (ks : List ByteArray) : Nat → Option (List ByteArray × List Nat)
  | 0 => some ([], [])
  | i + 1 => match sortIn ks i with
    | none => none
    | some (ns, ps) => if hasK ns (keyAt ks i) = true then none else some (ns.take (posK ns (keyAt ks i)) ++ [keyAt ks i] ++ ns.drop (posK ns (keyAt ks i)), ps.take (posK ns (keyAt ks i)) ++ [i] ++ ps.drop (posK ns (keyAt ks i)))

theorem sortIn_len {ks : List ByteArray} : ∀ {i : Nat} {ns : List ByteArray} {ps : List Nat}, sortIn ks i = some (ns, ps) → ns.length = i ∧ ps.length = i := by
  intro i
  induction i with
  | zero => intro ns ps h; simp [sortIn] at h; obtain ⟨rfl, rfl⟩ := h; exact ⟨rfl, rfl⟩
  | succ i ih =>
    intro ns ps h
    rw [sortIn] at h
    split at h
    · cases h
    · rename_i ns0 ps0 h0
      obtain ⟨h1, h2⟩ := ih h0
      split at h
      · cases h
      · injection h with h
        injection h with e1 e2
        subst e1 e2
        have := (posK_spec (l := ns0) (keyAt ks i)).1
        simp
        omega

theorem sortIn_mem {ks : List ByteArray} : ∀ {i : Nat} {ns : List ByteArray} {ps : List Nat}, sortIn ks i = some (ns, ps) → ∀ x ∈ ps, x < i := by
  intro i
  induction i with
  | zero => intro ns ps h; simp [sortIn] at h; obtain ⟨rfl, rfl⟩ := h; simp
  | succ i ih =>
    intro ns ps h
    rw [sortIn] at h
    split at h
    · cases h
    · rename_i ns0 ps0 h0
      split at h
      · cases h
      · injection h with h
        injection h with e1 e2
        subst e1 e2
        intro x hx
        simp only [List.mem_append, List.mem_singleton] at hx
        rcases hx with (hx | hx) | hx
        · have := ih h0 x (List.mem_of_mem_take hx); omega
        · omega
        · have := ih h0 x (List.mem_of_mem_drop hx); omega

theorem sortIn_none {ks : List ByteArray} {i j : Nat} (h : sortIn ks i = none) (hij : i ≤ j) : sortIn ks j = none := by
  obtain ⟨d, rfl⟩ : ∃ d, j = i + d := ⟨j - i, by omega⟩
  clear hij
  induction d with
  | zero => exact h
  | succ d ih => rw [← Nat.add_assoc, sortIn, ih]

theorem sortIn_put {ks : List ByteArray} {i j : Nat} {ns : List ByteArray} {ps : List Nat} (h : sortIn ks i = some (ns, ps)) (hj : posK ns (keyAt ks i) = j) (hn : hasK ns (keyAt ks i) = false) : sortIn ks (i + 1) = some (ns.take j ++ [keyAt ks i] ++ ns.drop j, ps.take j ++ [i] ++ ps.drop j) := by
  rw [sortIn, h]
  simp only [hn, hj]
  rfl

theorem sortIn_twice {ks : List ByteArray} {i : Nat} {ns : List ByteArray} {ps : List Nat} (h : sortIn ks i = some (ns, ps)) (hn : hasK ns (keyAt ks i) = true) : sortIn ks (i + 1) = none := by
  rw [sortIn, h]
  simp only [hn]
  rfl

theorem hasK_at {l : List ByteArray} {key : ByteArray} {j : Nat} (hj : posK l key = j) : hasK l key = (decide (j < l.length) && decide ((keyAt l j).toList = key.toList)) := by unfold hasK; rw [hj]

theorem keyAt_mapGet {l : List ByteArray} {j : Nat} (hj : j < l.length) : (l.map Value.string)[j]? = some (.string (keyAt l j)) := by
  rw [List.getElem?_map, List.getElem?_eq_getElem hj]
  simp [keyAt, hj]

/-- A row of rows, by its cells alone. -/
def CellsAt (B : Nat) (w : World) (v : Value) (m : Nat) (cs : Nat → Value) : Prop :=
  ∃ a cap, v = .slice a m cap ∧ (∀ i, i < m → ∃ a n c, cs i = .slice a n c) ∧ (0 < m → ∃ b o, a = some ⟨b, o, none⟩ ∧ b < B ∧ ∀ i, i < m → w.cell? ⟨b, o + i, none⟩ = some (cs i))

theorem own_some {w : World} {base e s n x : Nat} {v : Value} {xs : List Value} (h : w.ownsRow base e s v n xs) (hx : v.ownBlock = some x) : ∃ cap, v = .slice (some ⟨x, 0, none⟩) n cap ∧ n ≤ cap := by
  rcases h.2 with ⟨rfl, _⟩ | ⟨g, cap, cur, rfl, _, _, hnc, _⟩
  · simp [Value.ownBlock] at hx
  · simp [Value.ownBlock] at hx
    subst hx
    exact ⟨cap, rfl, hnc⟩

theorem elemStr : Try.prog.elem 38 = 9 := by kernel_rfl
theorem elemRow : Try.prog.elem 35 = 24 := by kernel_rfl
theorem sizeStr (w : World) : (sizeOf 9).run Try.prog w = .ok 1 w := by
  obtain ⟨i, hi, hz, hs, hy⟩ := info_parts infoStr
  simp [sizeOf, typeInfo, hi, hs]
theorem infoRowV : (Try.prog.info? 24).map (fun i => (i.zero, i.size, i.bytes)) = some (some (.slice none 0 0), 1, 24) := by kernel_rfl
theorem sizeRow (w : World) : (sizeOf 24).run Try.prog w = .ok 1 w := by
  obtain ⟨i, hi, hz, hs, hy⟩ := info_parts infoRowV
  simp [sizeOf, typeInfo, hi, hs]

theorem sliced_to (g j cap : Nat) : sliced (some ⟨g, 0, none⟩) 0 j cap 1 = .slice (some ⟨g, 0, none⟩) j cap := by
  unfold sliced
  split
  · rename_i h; subst h; simp
  · simp [Addr.add]
theorem sliced_from (g j n cap : Nat) : ∃ ad, sliced (some ⟨g, 0, none⟩) j n cap 1 = .slice (some ad) (n - j) (cap - j) ∧ (j < n → n ≤ cap → ad = ⟨g, j, none⟩) := by
  unfold sliced
  split
  · rename_i h; subst h; exact ⟨_, rfl, fun h1 h2 => by omega⟩
  · exact ⟨_, rfl, fun _ _ => by simp [Addr.add]; intro h; exact h.symm⟩

theorem strs_to (g n cap j : Nat) (hj : j ≤ cap) (w : World) : (Instr.slice 38 (.slice (some ⟨g, 0, none⟩) n cap) none (some (.int .i64 (j : Int))) none).run Try.prog w = .ok (.slice (some ⟨g, 0, none⟩) j cap) w := by
  rw [run_slice_h (P := Try.prog) (w := w) 38 (some ⟨g, 0, none⟩) n cap (by rw [elemStr]; exact Try.underlying38) .i64 j (by omega) (by omega), elemStr, sizeStr]
  simp only [Result.andThen, Int.toNat_natCast, sliced_to]
theorem rows_to (g n cap j : Nat) (hj : j ≤ cap) (w : World) : (Instr.slice 35 (.slice (some ⟨g, 0, none⟩) n cap) none (some (.int .i64 (j : Int))) none).run Try.prog w = .ok (.slice (some ⟨g, 0, none⟩) j cap) w := by
  rw [run_slice_h (P := Try.prog) (w := w) 35 (some ⟨g, 0, none⟩) n cap (by rw [elemRow]; exact Try.underlying35) .i64 j (by omega) (by omega), elemRow, sizeRow]
  simp only [Result.andThen, Int.toNat_natCast, sliced_to]
theorem strs_from (g n cap j : Nat) (hj : j ≤ n) : ∃ ad, (∀ w, (Instr.slice 38 (.slice (some ⟨g, 0, none⟩) n cap) (some (.int .i64 (j : Int))) none none).run Try.prog w = .ok (.slice (some ad) (n - j) (cap - j)) w) ∧ (j < n → n ≤ cap → ad = ⟨g, j, none⟩) := by
  obtain ⟨ad, h1, h2⟩ := sliced_from g j n cap
  refine ⟨ad, fun w => ?_, h2⟩
  rw [run_slice_l (P := Try.prog) (w := w) 38 (some ⟨g, 0, none⟩) n cap (by rw [elemStr]; exact Try.underlying38) .i64 j (by omega) (by omega), elemStr, sizeStr]
  simp only [Result.andThen, Int.toNat_natCast, h1]
theorem rows_from (g n cap j : Nat) (hj : j ≤ n) : ∃ ad, (∀ w, (Instr.slice 35 (.slice (some ⟨g, 0, none⟩) n cap) (some (.int .i64 (j : Int))) none none).run Try.prog w = .ok (.slice (some ad) (n - j) (cap - j)) w) ∧ (j < n → n ≤ cap → ad = ⟨g, j, none⟩) := by
  obtain ⟨ad, h1, h2⟩ := sliced_from g j n cap
  refine ⟨ad, fun w => ?_, h2⟩
  rw [run_slice_l (P := Try.prog) (w := w) 35 (some ⟨g, 0, none⟩) n cap (by rw [elemRow]; exact Try.underlying35) .i64 j (by omega) (by omega), elemRow, sizeRow]
  simp only [Result.andThen, Int.toNat_natCast, h1]
end Go.Proofs.Ytpfnkpkcjefelaa
