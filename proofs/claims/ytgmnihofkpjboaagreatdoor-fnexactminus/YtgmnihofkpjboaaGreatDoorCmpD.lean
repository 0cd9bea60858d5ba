/-
  The order of two values, as a plain function of their nodes; lists of texts compared by the library.
-/
import Derived.Test.YtgmnihofkpjboaaGreatDoorCmp
import Derived.Test.YtgmnihofkpjboaaGreatDoorTree
import Derived.Test.YtgmnihofkpjboaaGreatDoorKi
import Derived.Test.YtgmnihofkpjboaaGreatDoorValG
namespace Go.Proofs.YtgmnihofkpjboaaGreatDoor
open Go.RowKit
set_option linter.unusedSimpArgs false
set_option linter.unusedVariables false

theorem keyAt_get {l : List ByteArray} {j : Nat} (h : j < l.length) : keyAt l j = l[j] := by simp [keyAt, h]

theorem cmpKeys_step {l m : List ByteArray} {k : Nat} (h1 : k < l.length) (h2 : k < m.length) : cmpKeys (l.drop k) (m.drop k) = if cmpS (keyAt l k) (keyAt m k) ≠ 0 then cmpS (keyAt l k) (keyAt m k) else cmpKeys (l.drop (k + 1)) (m.drop (k + 1)) := by
  rw [List.drop_eq_getElem_cons h1, List.drop_eq_getElem_cons h2, cmpKeys, keyAt_get h1, keyAt_get h2]
theorem cmpKeys_more {l m : List ByteArray} {k : Nat} (h1 : k < l.length) (h2 : m.length ≤ k) : cmpKeys (l.drop k) (m.drop k) = 1 := by
  rw [List.drop_eq_getElem_cons h1, List.drop_of_length_le h2, cmpKeys]
theorem cmpKeys_less {l m : List ByteArray} {k : Nat} (h1 : l.length ≤ k) (h2 : k < m.length) : cmpKeys (l.drop k) (m.drop k) = -1 := by
  rw [List.drop_of_length_le h1, List.drop_eq_getElem_cons h2, cmpKeys]
theorem cmpKeys_end {l m : List ByteArray} {k : Nat} (h1 : l.length ≤ k) (h2 : m.length ≤ k) : cmpKeys (l.drop k) (m.drop k) = 0 := by
  rw [List.drop_of_length_le h1, List.drop_of_length_le h2, cmpKeys]

/-- Lists of kids, by the first two that differ, then by how many there are. -/
def cmpKids (R : Int → Int → Int) : List Int → List Int → Int
  | [], [] => 0
  | [], _ :: _ => -1
  | _ :: _, [] => 1
  | a :: l, b :: m => if R a b ≠ 0 then R a b else cmpKids R l m

theorem cmpKids_step {R : Int → Int → Int} {l m : List Int} {k : Nat} (h1 : k < l.length) (h2 : k < m.length) : cmpKids R (l.drop k) (m.drop k) = if R (intAt l k) (intAt m k) ≠ 0 then R (intAt l k) (intAt m k) else cmpKids R (l.drop (k + 1)) (m.drop (k + 1)) := by
  rw [List.drop_eq_getElem_cons h1, List.drop_eq_getElem_cons h2, cmpKids, intAt_get h1, intAt_get h2]
theorem cmpKids_more {R : Int → Int → Int} {l m : List Int} {k : Nat} (h1 : k < l.length) (h2 : m.length ≤ k) : cmpKids R (l.drop k) (m.drop k) = 1 := by
  rw [List.drop_eq_getElem_cons h1, List.drop_of_length_le h2, cmpKids]
theorem cmpKids_less {R : Int → Int → Int} {l m : List Int} {k : Nat} (h1 : l.length ≤ k) (h2 : k < m.length) : cmpKids R (l.drop k) (m.drop k) = -1 := by
  rw [List.drop_of_length_le h1, List.drop_eq_getElem_cons h2, cmpKids]
theorem cmpKids_end {R : Int → Int → Int} {l m : List Int} {k : Nat} (h1 : l.length ≤ k) (h2 : m.length ≤ k) : cmpKids R (l.drop k) (m.drop k) = 0 := by
  rw [List.drop_of_length_le h1, List.drop_of_length_le h2, cmpKids]

theorem cmpKids_range {R : Int → Int → Int} (hR : ∀ a b, -1 ≤ R a b ∧ R a b ≤ 1) : ∀ l m, -1 ≤ cmpKids R l m ∧ cmpKids R l m ≤ 1 := by
  intro l
  induction l with
  | nil => intro m; cases m <;> simp [cmpKids]
  | cons a l ih =>
    intro m
    cases m with
    | nil => simp [cmpKids]
    | cons b m =>
      rw [cmpKids]
      split
      · exact hR _ _
      · exact ih m

/-- By Kind; by N; by S; by the keys; by the kids. -/
def ord (us vs : List VN) : Nat → Nat → Nat → Int
  | 0, _, _ => 0
  | f + 1, n, m =>
    if (nodeAt us n).kind ≠ (nodeAt vs m).kind then cmpI (nodeAt us n).kind (nodeAt vs m).kind
    else if (nodeAt us n).n ≠ (nodeAt vs m).n then cmpI (nodeAt us n).n (nodeAt vs m).n
    else if cmpS (nodeAt us n).s (nodeAt vs m).s ≠ 0 then cmpS (nodeAt us n).s (nodeAt vs m).s
    else if cmpKeys (nodeAt us n).keys (nodeAt vs m).keys ≠ 0 then cmpKeys (nodeAt us n).keys (nodeAt vs m).keys
    else cmpKids (fun a b => ord us vs f a.toNat b.toNat) (nodeAt us n).kids (nodeAt vs m).kids

theorem ord_range (us vs : List VN) : ∀ f n m, -1 ≤ ord us vs f n m ∧ ord us vs f n m ≤ 1 := by
  intro f
  induction f with
  | zero => intro n m; simp [ord]
  | succ f ih =>
    intro n m
    rw [ord]
    split
    · rcases cmpI_range (nodeAt us n).kind (nodeAt vs m).kind with h | h | h <;> omega
    split
    · rcases cmpI_range (nodeAt us n).n (nodeAt vs m).n with h | h | h <;> omega
    split
    · rcases cmpL_range (nodeAt us n).s.toList (nodeAt vs m).s.toList with h | h | h <;> (unfold cmpS; omega)
    split
    · rcases cmpKeys_range (nodeAt us n).keys (nodeAt vs m).keys with h | h | h <;> omega
    · exact cmpKids_range (fun a b => ih _ _) _ _

set_option maxHeartbeats 1600000 in
theorem slicesCompare_any (B : Nat) (v1 v2 : Value) (l m : List ByteArray) (w : World) (h1 : StrsAt B w v1 l) (h2 : StrsAt B w v2 m) :
    Calls Tryz.prog 63 #[v1, v2] w fun e w' => e = .returned (.int .i64 (cmpKeys l m)) ∧ w' = w := by
  obtain ⟨hl1, _, a1, c1, rfl, hc1⟩ := h1
  obtain ⟨hl2, _, a2, c2, rfl, hc2⟩ := h2
  have HC1 := hideIt hc1
  have HC2 := hideIt hc2
  clear hc1 hc2
  go_enter Tryz.func63, Tryz.ntmps63
  go_wp2_with fail
  go_loopw [11] (fun i wr => ∃ k : Nat, k ≤ l.length ∧ i = .int .i64 k ∧ Hid (k ≤ m.length ∧ cmpKeys (l.drop k) (m.drop k) = cmpKeys l m) ∧ wr = w) (fun i _ => l.length - (intOf i).toNat)
  case atStart => exact ⟨0, Nat.zero_le _, rfl, ⟨Nat.zero_le _, by simp⟩, rfl⟩
  case round =>
    obtain ⟨k, hk, rfl, HE, rfl⟩ := hrel
    by_cases hlt : k < l.length
    · obtain ⟨b1, o1, rfl, _, d1⟩ := HC1.out (by omega)
      have e1 := d1 k hlt
      clear d1
      by_cases hlm : k < m.length
      · obtain ⟨b2, o2, rfl, _, d2⟩ := HC2.out (by omega)
        have e2 := d2 k hlm
        clear d2
        have hge : ¬ (m.length : Int) ≤ (k : Int) := by omega
        have HS := hideIt (cmpKeys_step hlt hlm)
        by_cases hz : cmpS (keyAt l k) (keyAt m k) = 0
        · have HZ := hideIt hz
          clear hz
          go_wp2_with fail
          refine (cmpStr_any _ _ _).mono ?_
          rintro e w1 ⟨rfl, rfl⟩
          rw [HZ.out]
          go_wp2_with fail
          go_roundw
          case rel => exact ⟨k + 1, by omega, by go_num, ⟨by omega, by rw [← HE.out.2, HS.out]; simp [HZ.out]⟩, by trivial⟩
          case measure => simp [intOf]; omega
        · have HZ : Hid (cmpKeys l m = cmpS (keyAt l k) (keyAt m k)) := by rw [Hid, ← HE.out.2, HS.out]; simp [hz]
          have hne : (cmpS (keyAt l k) (keyAt m k) != 0) = true := by simp [hz]
          clear hz
          go_wp2_with fail
          refine (cmpStr_any _ _ _).mono ?_
          rintro e w1 ⟨rfl, rfl⟩
          go_wp2_with fail
          go_ret
          exact ⟨ret_int HZ.out.symm, rfl⟩
      · have HZ : Hid (cmpKeys l m = 1) := by rw [Hid, ← HE.out.2, cmpKeys_more hlt (by omega)]
        have hge : (m.length : Int) ≤ (k : Int) := by omega
        go_wp2_with fail
        go_ret
        exact ⟨ret_int HZ.out.symm, rfl⟩
    · obtain rfl : k = l.length := by omega
      by_cases hlm : l.length < m.length
      · have HZ : Hid (cmpKeys l m = -1) := by rw [Hid, ← HE.out.2, cmpKeys_less (Nat.le_refl _) hlm]
        go_wp2_with fail
        go_ret
        exact ⟨ret_int HZ.out.symm, rfl⟩
      · have HZ : Hid (cmpKeys l m = 0) := by rw [Hid, ← HE.out.2, cmpKeys_end (Nat.le_refl _) (by omega)]
        go_wp2_with fail
        go_ret
        exact ⟨ret_int HZ.out.symm, rfl⟩
end Go.Proofs.YtgmnihofkpjboaaGreatDoor

/-
  What the methods kind and parts say; lists of values compared by the library.
-/
namespace Go.Proofs.YtgmnihofkpjboaaGreatDoor
open Go.RowKit
set_option linter.unusedSimpArgs false
set_option linter.unusedVariables false

set_option maxRecDepth 100000 in
set_option maxHeartbeats 1600000 in
theorem compareFunc_any (lo B lo' B' : Nat) (us vs : List VN) (f f' : Nat) (l m : List Int) (it it' : Value) (w : World)
    (h1 : ItemsG lo B w it l.length (fun j u => ValG lo B w us f (intAt l j).toNat u)) (h2 : ItemsG lo' B' w it' m.length (fun j u => ValG lo' B' w vs f' (intAt m j).toNat u))
    (hlo : lo ≤ B) (hlo' : lo' ≤ B') (hB : B ≤ w.heap.size) (hB' : B' ≤ w.heap.size) (hl : l.length ≤ 80) (hm : m.length ≤ 80)
    (r1 : ∀ j, j < l.length → (intAt l j).toNat < us.length) (r2 : ∀ j, j < m.length → (intAt m j).toNat < vs.length)
    (ih : ∀ (n k : Nat) (v v' : Value) (w : World), n < us.length → k < vs.length → ValG lo B w us f n v → ValG lo' B' w vs f' k v' → B ≤ w.heap.size → B' ≤ w.heap.size →
      Calls Tryz.prog 53 #[v, v'] w fun e w' => e = .returned (.int .i64 (ord us vs f n k)) ∧ Below w.heap.size w w') :
    Calls Tryz.prog 64 #[it, it', .func (.func 53) #[] #[]] w fun e w' => e = .returned (.int .i64 (cmpKids (fun a b => ord us vs f a.toNat b.toNat) l m)) ∧ Below w.heap.size w w' := by
  obtain ⟨a1, c1, rfl, hc1⟩ := h1
  obtain ⟨a2, c2, rfl, hc2⟩ := h2
  have HC1 := hideIt hc1
  have HC2 := hideIt hc2
  have R1 := hideIt r1
  have R2 := hideIt r2
  have IH := hideIt ih
  clear hc1 hc2 r1 r2 ih
  go_enter Tryz.func64, Tryz.ntmps64
  go_wp2_with fail
  go_loopw [13] (fun i wr => ∃ k : Nat, k ≤ l.length ∧ i = .int .i64 k ∧ Hid (k ≤ m.length ∧ cmpKids (fun a b => ord us vs f a.toNat b.toNat) (l.drop k) (m.drop k) = cmpKids (fun a b => ord us vs f a.toNat b.toNat) l m) ∧ Below w.heap.size w wr) (fun i _ => l.length - (intOf i).toNat)
  case atStart => exact ⟨0, Nat.zero_le _, rfl, ⟨Nat.zero_le _, by simp⟩, Below.refl _ _⟩
  case round =>
    obtain ⟨k, hk, rfl, HE, hbw⟩ := hrel
    have hsz := hbw.size
    by_cases hlt : k < l.length
    · obtain ⟨b1, rfl, _, l1, d1⟩ := HC1.out (by omega)
      obtain ⟨t1, x1, e1, V1⟩ := d1 k hlt
      have e1' : wr.cell? ⟨b1, k, none⟩ = some (.iface t1 x1) := (below_cell hbw (by omega)).trans e1
      have HV1 := hideIt (ValG.keep (keepG_below (hbw.mono hB)) (Nat.le_refl _) hlo V1)
      clear d1 e1 V1
      by_cases hlm : k < m.length
      · obtain ⟨b2, rfl, _, l2, d2⟩ := HC2.out (by omega)
        obtain ⟨t2, x2, e2, V2⟩ := d2 k hlm
        have e2' : wr.cell? ⟨b2, k, none⟩ = some (.iface t2 x2) := (below_cell hbw (by omega)).trans e2
        have HV2 := hideIt (ValG.keep (keepG_below (hbw.mono hB')) (Nat.le_refl _) hlo' V2)
        clear d2 e2 V2
        have hge : ¬ (m.length : Int) ≤ (k : Int) := by omega
        have HS := hideIt (cmpKids_step (R := fun a b => ord us vs f a.toNat b.toNat) hlt hlm)
        go_wp2_with fail
        refine (IH.out (intAt l k).toNat (intAt m k).toNat _ _ _ (R1.out k hlt) (R2.out k hlm) HV1.out HV2.out (by omega) (by omega)).mono ?_
        rintro e w1 ⟨rfl, hb1⟩
        have HB1 := hideIt (hbw.trans (hb1.mono hsz))
        clear hb1
        obtain ⟨bz, hbz0⟩ : ∃ bz, (ord us vs f (intAt l k).toNat (intAt m k).toNat != 0) = bz := ⟨_, rfl⟩
        cases bz
        · have HZ : Hid (ord us vs f (intAt l k).toNat (intAt m k).toNat = 0) := by simpa [Hid] using hbz0
          go_wp2_with fail
          go_roundw
          case rel => exact ⟨k + 1, by omega, by go_num, ⟨by omega, by rw [← HE.out.2, HS.out]; simp [HZ.out]⟩, HB1.out⟩
          case measure => simp [intOf]; omega
        · have HZ : Hid (¬ ord us vs f (intAt l k).toNat (intAt m k).toNat = 0) := by simpa [Hid] using hbz0
          have HR : Hid (cmpKids (fun a b => ord us vs f a.toNat b.toNat) l m = ord us vs f (intAt l k).toNat (intAt m k).toNat) := by rw [Hid, ← HE.out.2, HS.out]; simp [HZ.out]
          go_wp2_with fail
          go_ret
          exact ⟨ret_int HR.out.symm, HB1.out⟩
      · have HZ : Hid (cmpKids (fun a b => ord us vs f a.toNat b.toNat) l m = 1) := by rw [Hid, ← HE.out.2, cmpKids_more hlt (by omega)]
        have hge : (m.length : Int) ≤ (k : Int) := by omega
        go_wp2_with fail
        go_ret
        exact ⟨ret_int HZ.out.symm, hbw⟩
    · obtain rfl : k = l.length := by omega
      by_cases hlm : l.length < m.length
      · have HZ : Hid (cmpKids (fun a b => ord us vs f a.toNat b.toNat) l m = -1) := by rw [Hid, ← HE.out.2, cmpKids_less (Nat.le_refl _) hlm]
        go_wp2_with fail
        go_ret
        exact ⟨ret_int HZ.out.symm, hbw⟩
      · have HZ : Hid (cmpKids (fun a b => ord us vs f a.toNat b.toNat) l m = 0) := by rw [Hid, ← HE.out.2, cmpKids_end (Nat.le_refl _) (by omega)]
        go_wp2_with fail
        go_ret
        exact ⟨ret_int HZ.out.symm, hbw⟩
end Go.Proofs.YtgmnihofkpjboaaGreatDoor

/-
  impl.compared: two values of unlike kinds.
-/
namespace Go.Proofs.YtgmnihofkpjboaaGreatDoor
open Go.RowKit
set_option linter.unusedSimpArgs false
set_option linter.unusedVariables false

set_option maxRecDepth 100000 in
set_option maxHeartbeats 6400000 in
theorem compared_diff (lo B lo' B' f f' n m : Nat) (us vs : List VN) (v v' : Value) (w : World) (h1 : ValG lo B w us f n v) (h2 : ValG lo' B' w vs f' m v') (hne : (nodeAt us n).kind ≠ (nodeAt vs m).kind) :
    Calls Tryz.prog 53 #[v, v'] w fun e w' => e = .returned (.int .i64 (cmpI (nodeAt us n).kind (nodeAt vs m).kind)) ∧ Below w.heap.size w w' := by
  cases f with
  | zero => exact h1.elim
  | succ f =>
  cases f' with
  | zero => exact h2.elim
  | succ f' =>
  rcases h1 with ⟨k1, rfl⟩ | ⟨k1, rfl⟩ | ⟨k1, rfl⟩ | ⟨k1, rfl⟩ | ⟨k1, _, rfl, a1, p1, rfl, _⟩ | ⟨k1, _, _, rfl, ⟨_, _, b1, q1, rfl, _⟩, a1, p1, rfl, _⟩ <;>
  rcases h2 with ⟨k2, rfl⟩ | ⟨k2, rfl⟩ | ⟨k2, rfl⟩ | ⟨k2, rfl⟩ | ⟨k2, _, rfl, a2, p2, rfl, _⟩ | ⟨k2, _, _, rfl, ⟨_, _, b2, q2, rfl, _⟩, a2, p2, rfl, _⟩ <;>
  first
  | exact absurd (k1.trans k2.symm) hne
  | (rw [k1, k2]
     clear hne k1 k2
     go_enter Tryz.func53, Tryz.ntmps53
     go_wp2_with fail
     first | refine (kind1_any _).mono ?_ | refine (kind2_any _ _).mono ?_ | refine (kind3_any _ _).mono ?_ | refine (kind4_any _ _).mono ?_ | refine (kind5_any _ _ _ _).mono ?_ | refine (kind6_any _ _ _ _ _ _ _).mono ?_
     rintro e w1 ⟨rfl, hb1⟩
     go_wp2_with fail
     first | refine (kind1_any _).mono ?_ | refine (kind2_any _ _).mono ?_ | refine (kind3_any _ _).mono ?_ | refine (kind4_any _ _).mono ?_ | refine (kind5_any _ _ _ _).mono ?_ | refine (kind6_any _ _ _ _ _ _ _).mono ?_
     rintro e w2 ⟨rfl, hb2⟩
     go_wp2_with fail
     refine (cmpInt_any _ _ _).mono ?_
     rintro e w3 ⟨rfl, rfl⟩
     go_wp2_with fail
     go_ret
     exact ⟨rfl, hb1.trans (hb2.mono hb1.size)⟩)
end Go.Proofs.YtgmnihofkpjboaaGreatDoor
