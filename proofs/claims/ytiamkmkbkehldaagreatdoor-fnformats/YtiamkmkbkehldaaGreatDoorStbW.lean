/-
  impl.compared: the order of two right values.
-/
import Derived.Test.YtiamkmkbkehldaaGreatDoorCmpD
import Derived.Test.YtiamkmkbkehldaaGreatDoorCmpE
import Derived.Test.YtiamkmkbkehldaaGreatDoorLowN
import Derived.Test.YtiamkmkbkehldaaGreatDoorCbP
import Derived.Test.YtiamkmkbkehldaaGreatDoorMarkM
import Derived.Test.YtiamkmkbkehldaaGreatDoorProg
import Derived.BigQuiet
import Derived.BigRegion
namespace Go.Proofs.YtiamkmkbkehldaaGreatDoor
open Go.RowKit
set_option linter.unusedSimpArgs false
set_option linter.unusedVariables false

/-- What the order asks of the nodes alone. -/
structure FineU (us : List VN) : Prop where
  size : us.length ≤ 80
  nodes : ∀ k, k < us.length → nodeB (nodeAt us k) = true ∧ kidsIn us k = true
  few : ∀ k, k < us.length → (nodeAt us k).kids.length ≤ k

theorem fine_of {us : List VN} (h : okB us = true) : FineU us := by
  obtain ⟨h1, h2, _, h4⟩ := okB_parts h
  exact ⟨h1.2, h2, h4⟩

theorem FineU.kid {us : List VN} (h : FineU us) {n j : Nat} (hn : n < us.length) (hj : j < (nodeAt us n).kids.length) : (intAt (nodeAt us n).kids j).toNat < us.length := by
  have := kidsIn_get (h.nodes n hn).2 hj
  omega

theorem compared_any (us vs : List VN) (hu : FineU us) (hv : FineU vs) (lo B lo' B' : Nat) (hlo : lo ≤ B) (hlo' : lo' ≤ B') : ∀ f f' : Nat, CmpIH lo B lo' B' us vs f f' := by
  intro f
  induction f with
  | zero => intro f' n k v v' w _ _ h; exact h.elim
  | succ f ih =>
    intro f' n k v v' w hn hk h1 h2 hB hB'
    cases f' with
    | zero => exact h2.elim
    | succ f' =>
      have IH := ih f'
      have nx := (hu.nodes n hn).1
      have ny := (hv.nodes k hk).1
      by_cases hne : (nodeAt us n).kind = (nodeAt vs k).kind
      · have f1 := hu.few n hn
        have f2 := hv.few k hk
        have s1 := hu.size
        have s2 := hv.size
        have absurd2 : ∀ {a b : Int}, (nodeAt us n).kind = a → (nodeAt vs k).kind = b → a ≠ b → False := fun e1 e2 h => h (by omega)
        rcases h1 with ⟨k1, rfl⟩ | ⟨k1, rfl⟩ | ⟨k1, rfl⟩ | ⟨k1, rfl⟩ | ⟨k1, it, rfl, i1⟩ | ⟨k1, ks, it, rfl, g1, i1⟩
        · rcases h2 with ⟨k2, rfl⟩ | ⟨k2, _⟩ | ⟨k2, _⟩ | ⟨k2, _⟩ | ⟨k2, _⟩ | ⟨k2, _⟩
          · rw [ord_same nx ny k1 k2]; exact compared_null IH hlo hlo' w hB hB'
          all_goals exact (absurd2 k1 k2 (by decide)).elim
        · rcases h2 with ⟨k2, _⟩ | ⟨k2, rfl⟩ | ⟨k2, _⟩ | ⟨k2, _⟩ | ⟨k2, _⟩ | ⟨k2, _⟩
          · exact (absurd2 k1 k2 (by decide)).elim
          · rw [ord_same nx ny k1 k2]; exact compared_bool _ _ IH hlo hlo' w hB hB'
          all_goals exact (absurd2 k1 k2 (by decide)).elim
        · rcases h2 with ⟨k2, _⟩ | ⟨k2, _⟩ | ⟨k2, rfl⟩ | ⟨k2, _⟩ | ⟨k2, _⟩ | ⟨k2, _⟩
          · exact (absurd2 k1 k2 (by decide)).elim
          · exact (absurd2 k1 k2 (by decide)).elim
          · rw [ord_same nx ny k1 k2]; exact compared_int _ _ IH hlo hlo' w hB hB'
          all_goals exact (absurd2 k1 k2 (by decide)).elim
        · rcases h2 with ⟨k2, _⟩ | ⟨k2, _⟩ | ⟨k2, _⟩ | ⟨k2, rfl⟩ | ⟨k2, _⟩ | ⟨k2, _⟩
          · exact (absurd2 k1 k2 (by decide)).elim
          · exact (absurd2 k1 k2 (by decide)).elim
          · exact (absurd2 k1 k2 (by decide)).elim
          · rw [ord_same nx ny k1 k2]; exact compared_text _ _ IH hlo hlo' w hB hB'
          all_goals exact (absurd2 k1 k2 (by decide)).elim
        · rcases h2 with ⟨k2, _⟩ | ⟨k2, _⟩ | ⟨k2, _⟩ | ⟨k2, _⟩ | ⟨k2, it', rfl, i2⟩ | ⟨k2, _⟩
          · exact (absurd2 k1 k2 (by decide)).elim
          · exact (absurd2 k1 k2 (by decide)).elim
          · exact (absurd2 k1 k2 (by decide)).elim
          · exact (absurd2 k1 k2 (by decide)).elim
          · have hr : ord us vs (f + 1) n k = cmpKids (fun a b => ord us vs f a.toNat b.toNat) (nodeAt us n).kids (nodeAt vs k).kids := by
              rw [ord_same nx ny k1 k2, zeroK nx (by omega), zeroK ny (by omega)]; rfl
            rw [hr]
            exact compared_list _ _ _ _ IH hlo hlo' w hB hB' i1 i2 (by omega) (by omega) (fun j hj => hu.kid hn hj) (fun j hj => hv.kid hk hj)
          · exact (absurd2 k1 k2 (by decide)).elim
        · rcases h2 with ⟨k2, _⟩ | ⟨k2, _⟩ | ⟨k2, _⟩ | ⟨k2, _⟩ | ⟨k2, _⟩ | ⟨k2, ks', it', rfl, g2, i2⟩
          · exact (absurd2 k1 k2 (by decide)).elim
          · exact (absurd2 k1 k2 (by decide)).elim
          · exact (absurd2 k1 k2 (by decide)).elim
          · exact (absurd2 k1 k2 (by decide)).elim
          · exact (absurd2 k1 k2 (by decide)).elim
          · have hr : ord us vs (f + 1) n k = if cmpKeys (nodeAt us n).keys (nodeAt vs k).keys ≠ 0 then cmpKeys (nodeAt us n).keys (nodeAt vs k).keys else cmpKids (fun a b => ord us vs f a.toNat b.toNat) (nodeAt us n).kids (nodeAt vs k).kids := by
              rw [ord_same nx ny k1 k2]; rfl
            rw [hr]
            exact compared_map _ _ _ _ _ _ _ _ IH hlo hlo' w hB hB' g1 g2 i1 i2 (by omega) (by omega) (fun j hj => hu.kid hn hj) (fun j hj => hv.kid hk hj)
      · have hr : ord us vs (f + 1) n k = cmpI (nodeAt us n).kind (nodeAt vs k).kind := by rw [ord, if_pos hne]
        rw [hr]
        exact compared_diff lo B lo' B' (f + 1) (f' + 1) n k us vs v v' w h1 h2 hne
end Go.Proofs.YtiamkmkbkehldaaGreatDoor

/-
  impl.Order: -2 where one of the two is not right, else the order of their values.
-/
namespace Go.Proofs.YtiamkmkbkehldaaGreatDoor
open Go.RowKit
set_option linter.unusedSimpArgs false
set_option linter.unusedVariables false

set_option maxRecDepth 100000 in
set_option maxHeartbeats 3200000 in
theorem implOrder_any (B : Nat) (v1 v2 : Value) (us vs : List VN) (w : World) (h1 : NodesAt B w v1 us) (h2 : NodesAt B w v2 vs) (hB : B ≤ w.heap.size) :
    Calls Tryz.prog 18 #[v1, v2] w fun e w' => e = .returned (.int .i64 (orderOf us vs)) ∧ Below w.heap.size w w' := by
  have H1 := hideIt h1
  have H2 := hideIt h2
  obtain ⟨_, a1, c1, rfl, _⟩ := h1
  obtain ⟨_, a2, c2, rfl, _⟩ := h2
  go_enter Tryz.func18, Tryz.ntmps18
  go_wp2_with fail
  cases ok1 : okB us
  · have HO := hideIt (orderOf_left (vs := vs) ok1)
    refine (valueOf_no B _ us _ H1.out hB ok1).mono ?_
    rintro e w1 ⟨rfl, hb1⟩
    have z1 := hb1.size
    go_wp2_with fail
    cases ok2 : okB vs
    · refine (valueOf_no B _ vs _ (H2.out.below (hb1.mono hB)) (by omega) ok2).mono ?_
      rintro e w2 ⟨rfl, hb2⟩
      go_wp2_with fail
      go_ret
      exact ⟨ret_int HO.out.symm, Below.next hb1 hb2⟩
    · refine (valueOf_yes B _ vs _ (H2.out.below (hb1.mono hB)) (by omega) ok2).mono ?_
      rintro e w2 ⟨lo2, t2, x2, rfl, _, _, _, hb2⟩
      go_wp2_with fail
      go_ret
      exact ⟨ret_int HO.out.symm, Below.next hb1 hb2⟩
  · refine (valueOf_yes B _ us _ H1.out hB ok1).mono ?_
    rintro e w1 ⟨lo1, t1, x1, rfl, hl1, hl1', hv1, hb1⟩
    have HV1 := hideIt hv1
    have z1 := hb1.size
    clear hv1
    go_wp2_with fail
    cases ok2 : okB vs
    · have HO := hideIt (orderOf_right (us := us) ok2)
      refine (valueOf_no B _ vs _ (H2.out.below (hb1.mono hB)) (by omega) ok2).mono ?_
      rintro e w2 ⟨rfl, hb2⟩
      go_wp2_with fail
      go_ret
      exact ⟨ret_int HO.out.symm, Below.next hb1 hb2⟩
    · have HO := hideIt (orderOf_yes ok1 ok2)
      refine (valueOf_yes B _ vs _ (H2.out.below (hb1.mono hB)) (by omega) ok2).mono ?_
      rintro e w2 ⟨lo2, t2, x2, rfl, hl2, hl2', hv2, hb2⟩
      have HV2 := hideIt hv2
      have z2 := hb2.size
      have HV1' := hideIt (ValIs.keep (Keep.of_below hb2) (Nat.le_refl _) (by omega) HV1.out)
      clear hv2
      obtain ⟨p1, _⟩ := okB_parts ok1
      obtain ⟨p2, _⟩ := okB_parts ok2
      have HF := hideIt (And.intro (fine_of ok1) (fine_of ok2))
      go_wp2_with fail
      refine (compared_any us vs HF.out.1 HF.out.2 lo1 w1.heap.size lo2 w2.heap.size (by omega) (by omega) us.length vs.length (us.length - 1) (vs.length - 1) _ _ _ (by omega) (by omega) HV1'.out HV2.out (by omega) (Nat.le_refl _)).mono ?_
      rintro e w3 ⟨rfl, hb3⟩
      have hr := ord_range us vs us.length (us.length - 1) (vs.length - 1)
      go_wp2_with fail
      go_ret
      exact ⟨ret_int HO.out.symm, Below.next (Below.next hb1 hb2) hb3⟩
end Go.Proofs.YtiamkmkbkehldaaGreatDoor

/-
  slices' swapRange and rotate at rows of numbers: what stands where behind them.
-/
namespace Go.Proofs.YtiamkmkbkehldaaGreatDoor
open Go.RowKit
set_option linter.unusedSimpArgs false
set_option linter.unusedVariables false

def nums (f : Nat → Int) (j : Nat) : Value := .int .i64 (f j)

theorem nums_set2 {w : World} {g t N : Nat} {f : Nat → Int} (h : w.rowIs g t N (nums f)) (x y : Nat) (u v : Int) : ((w.setCell ⟨g, x, none⟩ (.int .i64 u)).setCell ⟨g, y, none⟩ (.int .i64 v)).rowIs g t N (nums (fun p => if p = y then v else if p = x then u else f p)) := by
  refine ((h.set x _).set y _).congr fun p _ => ?_
  unfold nums
  by_cases e1 : p = y
  · simp [e1]
  · by_cases e2 : p = x
    · subst e2; simp [e1]
    · simp [e1, e2]

/-- Nothing but block g has turned; there may be more blocks. -/
def Sw (g : Nat) (w w' : World) : Prop := w'.os = w.os ∧ w'.tape = w.tape ∧ w'.output = w.output ∧ Only (· = g) w w'

theorem Sw.refl (g : Nat) (w : World) : Sw g w w := ⟨rfl, rfl, rfl, Only.refl _ _⟩
theorem Sw.trans {g : Nat} {a b c : World} (h : Sw g a b) (k : Sw g b c) : Sw g a c := ⟨k.1.trans h.1, k.2.1.trans h.2.1, k.2.2.1.trans h.2.2.1, h.2.2.2.trans k.2.2.2⟩
theorem Sw.set {g : Nat} {a b : World} (h : Sw g a b) (o : Nat) (v : Value) : Sw g a (b.setCell ⟨g, o, none⟩ v) := by
  have hb : Below g b (b.setCell ⟨g, o, none⟩ v) := (Below.refl _ _).setCell (p := ⟨g, o, none⟩) (Nat.le_refl _) v
  exact h.trans ⟨hb.os, hb.tape, hb.output, Only.set (P := (· = g)) b rfl v⟩
theorem Sw.drew {g : Nat} {a b : World} (h : Sw g a b) : Sw g a b.drew := ⟨h.1, h.2.1, h.2.2.1, h.2.2.2⟩
theorem Sw.drewN {g : Nat} {a b : World} (h : Sw g a b) (n : Nat) : Sw g a (b.drewN n) := ⟨h.1, h.2.1, h.2.2.1, h.2.2.2⟩
theorem Sw.below {g B : Nat} {a b : World} (h : Sw g a b) (hB : B ≤ g) (hs : B ≤ a.heap.size) : Below B a b := ⟨h.1, h.2.1, h.2.2.1, h.2.2.2.1, fun k hk => h.2.2.2.2 k (by omega) (by omega)⟩

set_option maxRecDepth 100000 in
set_option maxHeartbeats 4000000 in
theorem swapRange_any (g N cap : Nat) (f : Nat → Int) (a b n : Nat) (cf : Value) (w : World) (h : w.rowIs g 3 N (nums f)) (ha : a + n ≤ N) (hb : b + n ≤ N) (hd : a + n ≤ b ∨ b + n ≤ a) (hN : N ≤ 1099511627776) :
    Calls Tryz.prog 248 #[.slice (some ⟨g, 0, none⟩) N cap, .int .i64 a, .int .i64 b, .int .i64 n, cf] w fun e w' => e = .returned (.tuple #[]) ∧ w'.rowIs g 3 N (nums (swp a b n f)) ∧ Sw g w w' := by
  have HR := hideIt h
  clear h
  go_enter Tryz.func248, Tryz.ntmps248
  go_wp2_with fail
  go_loopw [10] (fun i wr => ∃ k : Nat, k ≤ n ∧ i = .int .i64 k ∧ wr.rowIs g 3 N (nums (swp a b k f)) ∧ Sw g w wr) (fun i _ => n - (intOf i).toNat)
  case atStart => exact ⟨0, Nat.zero_le _, rfl, HR.out.congr fun j _ => by unfold nums; rw [swp_zero], Sw.refl _ _⟩
  case round =>
    obtain ⟨k, hk, rfl, hrow, honly⟩ := hrel
    by_cases hlt : k < n
    · have c1 := hrow.cell (i := a + k) (by omega)
      have c2 := hrow.cell (i := b + k) (by omega)
      have f1 := hrow.frozen (a + k)
      have f2 := hrow.frozen (b + k)
      have hak : a + k < N := by omega
      have hbk : b + k < N := by omega
      have hakI : (a : Int) + (k : Int) < (N : Int) := by omega
      have hbkI : (b : Int) + (k : Int) < (N : Int) := by omega
      have ta : ((a : Int) + (k : Int)).toNat = a + k := by omega
      have tb : ((b : Int) + (k : Int)).toNat = b + k := by omega
      unfold nums at c1 c2
      have hnab : a + k ≠ b + k := by omega
      have hnba : b + k ≠ a + k := by omega
      have HNEW : Hid (((wr.setCell ⟨g, a + k, none⟩ (.int .i64 (swp a b k f (b + k)))).setCell ⟨g, b + k, none⟩ (.int .i64 (swp a b k f (a + k)))).drew.rowIs g 3 N (nums (swp a b (k + 1) f))) := by
        refine (nums_set2 hrow (a + k) (b + k) (swp a b k f (b + k)) (swp a b k f (a + k))).congr fun p _ => ?_
        unfold nums
        rw [swp_succ (by omega)]
      have HO := hideIt ((honly.set (a + k) (.int .i64 (swp a b k f (b + k)))).set (b + k) (.int .i64 (swp a b k f (a + k)))).drew
      clear hrow honly
      go_wp2_with fail
      go_region
      all_goals
        go_wp2_with fail
        go_roundw
        case rel => exact ⟨k + 1, by omega, by go_num, HNEW.out, HO.out⟩
        case measure => simp [intOf]; omega
    · obtain rfl : k = n := by omega
      go_wp2_with fail
      refine ⟨rfl, .tuple #[], results_none rfl _ _ _, rfl, hrow, honly⟩

set_option maxRecDepth 100000 in
set_option maxHeartbeats 4000000 in
theorem rotate_any (g N cap : Nat) (f : Nat → Int) (a m b : Nat) (cf : Value) (w : World) (h : w.rowIs g 3 N (nums f)) (h1 : a < m) (h2 : m < b) (h3 : b ≤ N) (hN : N ≤ 1099511627776) :
    Calls Tryz.prog 239 #[.slice (some ⟨g, 0, none⟩) N cap, .int .i64 a, .int .i64 m, .int .i64 b, cf] w fun e w' => e = .returned (.tuple #[]) ∧ w'.rowIs g 3 N (nums (rot a m b f)) ∧ Sw g w w' := by
  have HR := hideIt h
  clear h
  have i0 : (m : Int) - (a : Int) = ((m - a : Nat) : Int) := by omega
  have j0 : (b : Int) - (m : Int) = ((b - m : Nat) : Int) := by omega
  go_enter Tryz.func239, Tryz.ntmps239
  go_wp2_with fail
  go_loopw [10, 11] (fun vi vj wr => ∃ (s i j : Nat) (fk : Nat → Int), vi = .int .i64 i ∧ vj = .int .i64 j ∧ 0 < i ∧ 0 < j ∧ Hid (s + i = m) ∧ i ≤ m ∧ m + j ≤ b ∧ Hid (∀ p, rot s (s + i) (s + i + j) fk p = rot a m b f p) ∧ wr.rowIs g 3 N (nums fk) ∧ Sw g w wr) (fun vi vj _ => (intOf vi).toNat + (intOf vj).toNat)
  case atStart => exact ⟨a, m - a, b - m, f, by go_num, by go_num, by omega, by omega, (by rw [Hid]; omega), by omega, by omega, (fun p => by rw [show a + (m - a) = m by omega, show m + (b - m) = b by omega]), HR.out, Sw.refl _ _⟩
  case round =>
    obtain ⟨s, i, j, fk, rfl, rfl, hi, hj, HS, him, hjb, HT, hrow, hsw⟩ := hrel
    have HROW := hideIt hrow
    have HSW := hideIt hsw
    clear hrow hsw i0 j0
    have es : (m : Int) - (i : Int) = (s : Int) := by have := HS.out; omega
    by_cases e : i = j
    · have q : ((i : Int) != (j : Int)) = false := by rw [e]; simp
      have HE := hideIt e
      clear e
      go_wp2_with fail
      refine (swapRange_any g N cap fk s m i cf wr HROW.out (by have := HS.out; omega) (by have := HE.out; omega) (Or.inl (by have := HS.out; omega)) hN).mono ?_
      rintro e w1 ⟨rfl, hr1, hs1⟩
      go_wp2_with fail
      refine ⟨rfl, .tuple #[], results_none rfl _ _ _, rfl, hr1.congr fun p _ => ?_, HSW.out.trans hs1⟩
      unfold nums
      rw [← HT.out p, ← HS.out, ← HE.out, rot_same]
    · have q : ((i : Int) != (j : Int)) = true := by rw [bne_iff_ne]; omega
      have HE := hideIt e
      clear e
      by_cases c : j < i
      · have c' : (j : Int) < (i : Int) := by omega
        have es2 : (i : Int) - (j : Int) = ((i - j : Nat) : Int) := by omega
        have HT2 : Hid (∀ p, rot (s + j) (s + j + (i - j)) (s + j + (i - j) + j) (swp s m j fk) p = rot a m b f p) := fun p => by
          rw [← HT.out p, ← rot_more c hj fk p, ← HS.out, show s + j + (i - j) = s + i by omega]
        go_wp2_with fail
        refine (swapRange_any g N cap fk s m j cf wr HROW.out (by have := HS.out; omega) (by omega) (Or.inl (by have := HS.out; omega)) hN).mono ?_
        rintro e w1 ⟨rfl, hr1, hs1⟩
        go_wp2_with fail
        go_roundw
        case rel => exact ⟨s + j, i - j, j, swp s m j fk, by go_num, by go_num, by omega, hj, (by have := HS.out; rw [Hid]; omega), by omega, hjb, HT2, hr1, HSW.out.trans hs1⟩
        case measure => simp [intOf]; omega
      · have c' : ¬ (j : Int) < (i : Int) := by omega
        have es2 : (j : Int) - (i : Int) = ((j - i : Nat) : Int) := by have := HE.out; omega
        have es3 : (m : Int) + (j : Int) - (i : Int) = ((s + j : Nat) : Int) := by have := HS.out; omega
        have HT2 : Hid (∀ p, rot s (s + i) (s + i + (j - i)) (swp s (s + j) i fk) p = rot a m b f p) := fun p => by
          have := HE.out
          rw [← HT.out p, ← rot_less (show i < j by omega) hi fk p, show s + i + (j - i) = s + j by omega]
        go_wp2_with fail
        refine (swapRange_any g N cap fk s (s + j) i cf wr HROW.out (by have := HS.out; omega) (by have := HS.out; omega) (Or.inl (by have := HE.out; omega)) hN).mono ?_
        rintro e w1 ⟨rfl, hr1, hs1⟩
        go_wp2_with fail
        go_roundw
        case rel => exact ⟨s, i, j - i, swp s (s + j) i fk, by go_num, by go_num, hi, by have := HE.out; omega, HS, him, by omega, HT2, hr1, HSW.out.trans hs1⟩
        case measure => simp [intOf]; omega
end Go.Proofs.YtiamkmkbkehldaaGreatDoor
