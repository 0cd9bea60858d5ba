/-
  The specification's check of a whole filter: it answers as okF.
-/
import Derived.Test.YtbclgogolimbgaaFSpc2
namespace Go.Proofs.Ytbclgogolimbgaa
open Go.RowKit
set_option linter.unusedSimpArgs false
set_option linter.unusedVariables false

set_option maxRecDepth 100000 in
set_option maxHeartbeats 3200000 in
theorem l7Tree_any (B : Nat) (v : Value) (vs : List FN) (N : Nat) : ∀ (n : Nat) (w : World), n < N → n < vs.length → FNodesAt B w v vs →
    Calls Try.prog 67 #[v, .int .i64 n] w fun e w' => e = .returned (.tuple #[.int .i64 (trF (tr (fkids vs) n)), .int .i64 (trD (tr (fkids vs) n))]) ∧ w' = w := by
  induction N with
  | zero => intro n w h; omega
  | succ N ih =>
    intro n w hN hn hv
    have HV : Hid (FNodesAt B w v vs) := hv
    have IH := hideIt ih
    clear ih
    obtain ⟨hlen, a, cap, rfl, hcell⟩ := hv
    obtain ⟨b0, o0, rfl, hb0, hc⟩ := hcell (by omega)
    obtain ⟨kc, ka, ki, hnode⟩ := hc n hn
    have hc4 := hnode.c5
    obtain ⟨hkl, hkb, ak, ck, rfl, hkc⟩ := hnode.inn.kids
    clear hcell hc hnode
    have HK : Hid (fkids vs n = (fnAt vs n).kids) := hideIt rfl
    generalize (fnAt vs n).kids = kids at *
    generalize fkids vs = K at *
    go_enter Try.func67, Try.ntmps67
    go_wp2_with fail
    go_loopw [6, 7, 8] (fun t d i wr => ∃ (r b h : Nat) (z : Int), r ≤ kids.length ∧ i = .int .i64 z ∧ z = (r : Int) - 1 ∧ t = .int .i64 ((b : Int) - 1) ∧ d = .int .i64 h ∧ b ≤ n ∧ h ≤ n ∧ Hid (stAt (tr K) kids n r = some (b, h)) ∧ wr = w) (fun _ _ i _ => (intOf i + 1).toNat)
    case atStart => exact ⟨kids.length, n, 0, _, Nat.le_refl _, rfl, rfl, rfl, rfl, Nat.le_refl _, Nat.zero_le _, stAt_end _ _ _, rfl⟩
    case round =>
      obtain ⟨r, b, h, z, hr, rfl, hz, rfl, rfl, hbn, hhn, HS, rfl⟩ := hrel
      by_cases hr0 : r = 0
      · obtain rfl : z = -1 := by omega
        have HT : Hid (tr K n = some (b, h + 1)) := tr_of_st (by rw [HK.out, ← hr0]; exact HS.out)
        clear hz
        go_wp2_with fail
        go_ret2
        exact ⟨ret_pair (by rw [HT.out]; simp [trF]) (by rw [HT.out]; simp [trD]), rfl⟩
      · obtain ⟨q, rfl⟩ : ∃ q, r = q + 1 := ⟨r - 1, by omega⟩
        obtain rfl : z = (q : Int) := by omega
        obtain ⟨b1, o1, rfl, hb1, hkc1⟩ := hkc (by omega)
        have hck := hkc1 q (by omega)
        have hql : q < kids.length := by omega
        have HQ : Hid (stAt (tr K) kids n q = stepKid (tr K) (some (b, h)) (intAt kids q)) := by
          have := stAt_step (tr K) kids n q hql
          rw [HS.out] at this
          exact this
        clear hz hkc hkc1 hr0
        by_cases hb : b = 0
        · have HT : Hid (tr K n = none) := tr_none_of (r := q) (by rw [HK.out]; omega) (by rw [HK.out, HQ.out]; simp [stepKid, hb])
          have hneg : (b : Int) - 1 < 0 := by omega
          go_wp2_with fail
          go_ret2
          exact ⟨ret_pair (by rw [HT.out]; rfl) (by rw [HT.out]; rfl), rfl⟩
        · obtain ⟨m, rfl⟩ : ∃ m, b = m + 1 := ⟨b - 1, by omega⟩
          have hcast : (((m + 1 : Nat) : Int) - 1) = (m : Int) := by omega
          rw [hcast]
          have HC : Hid ((((m + 1 : Nat) : Int) - 1) = (m : Int)) := hcast
          clear hcast
          have hneg : ¬ (m : Int) < 0 := by omega
          by_cases hkid : intAt kids q = (m : Int)
          · have hne : (intAt kids q != (m : Int)) = false := by simp [hkid]
            have HX : Hid (stAt (tr K) kids n q = (tr K m).map (fun p => (p.1, max h p.2))) := by
              refine HQ.out.trans ?_
              simp [stepKid, hkid]
            clear hkid
            go_wp2_with fail
            refine (IH.out m _ (by omega) (by omega) HV.out).mono ?_
            rintro e w' ⟨rfl, rfl⟩
            cases htr : tr K m with
            | none =>
              have HT : Hid (tr K n = none) := tr_none_of (r := q) (by rw [HK.out]; omega) (by rw [HK.out, HX.out, htr]; rfl)
              have h1 : trF none < 0 := by decide
              simp only [trF, trD]
              go_wp2_with fail
              go_ret2
              exact ⟨ret_pair (by rw [HT.out]; rfl) (by rw [HT.out]; rfl), rfl⟩
            | some p =>
              obtain ⟨p1, p2⟩ := p
              have hd := tr_deep m _ htr
              have HY : Hid (stAt (tr K) kids n q = some (p1, max h p2)) := HX.out.trans (by rw [htr]; rfl)
              simp only [trF, trD]
              simp only at hd
              have h0 : ¬ (p1 : Int) < 0 := by omega
              clear htr
              go_wp2_with fail
              go_roundw
              case rel => exact ⟨q, p1, max h p2, _, by omega, rfl, rfl, rfl, by first | rw [max_if] | (congr 1; omega), by omega, by omega, HY, by trivial⟩
              case measure => simp [intOf]
          · have hne : (intAt kids q != (m : Int)) = true := by simp [hkid]
            have HT : Hid (tr K n = none) := tr_none_of (r := q) (by rw [HK.out]; omega) (by rw [HK.out, HQ.out]; simp [stepKid, hkid])
            clear hkid
            go_wp2_with fail
            go_ret2
            exact ⟨ret_pair (by rw [HT.out]; rfl) (by rw [HT.out]; rfl), rfl⟩

set_option maxRecDepth 100000 in
set_option maxHeartbeats 3200000 in
theorem specFilterOk_any (B : Nat) (v : Value) (vs : List FN) (w : World) (h : FNodesAt B w v vs) (hB : B ≤ w.heap.size) :
    Calls Try.prog 32 #[v] w fun e w' => e = .returned (.bool (okF vs)) ∧ Below w.heap.size w w' := by
  have HV : Hid (FNodesAt B w v vs) := h
  obtain ⟨hlen, a, cap, rfl, hcell⟩ := h
  by_cases h1 : vs.length < 1
  · have HO : Hid (okF vs = false) := okF_size (Or.inl h1)
    have h1' : (vs.length : Int) < 1 := by omega
    go_enter Try.func32, Try.ntmps32
    go_wp2_with fail
    go_ret
    exact ⟨ret_bool HO.out.symm, Below.refl _ _⟩
  by_cases h2 : 40 < vs.length
  · have HO : Hid (okF vs = false) := okF_size (Or.inr h2)
    have h1' : ¬ (vs.length : Int) < 1 := by omega
    have h2' : (40 : Int) < (vs.length : Int) := by omega
    go_enter Try.func32, Try.ntmps32
    go_wp2_with fail
    go_ret
    exact ⟨ret_bool HO.out.symm, Below.refl _ _⟩
  have h1' : ¬ (vs.length : Int) < 1 := by omega
  have h2' : ¬ (40 : Int) < (vs.length : Int) := by omega
  obtain ⟨b0, o0, rfl, hb0, hc⟩ := hcell (by omega)
  clear hcell
  go_enter Try.func32, Try.ntmps32
  go_wp2_with fail
  go_loopw [3] (fun i wr => ∃ k : Nat, k ≤ vs.length ∧ i = .int .i64 k ∧ (∀ j, j < k → fnodeB (fnAt vs j) = true ∧ fkidsIn vs j = true) ∧ Below w.heap.size w wr) (fun i _ => vs.length - (intOf i).toNat)
  case atStart => exact ⟨0, Nat.zero_le _, rfl, fun j hj => by omega, Below.refl _ _⟩
  case round =>
    obtain ⟨k, hk, rfl, hall, hbel⟩ := hrel
    have HA := hideIt hall
    clear hall
    by_cases hlt : k < vs.length
    · obtain ⟨kc, ka, ki, hn⟩ := hc k hlt
      have hn' := hn.below (hbel.mono hB) hb0
      have c0 := hn'.c0
      have c1 := hn'.c1
      have c2 := hn'.c2
      have c3 := hn'.c3
      have c4 := hn'.c4
      have c5 := hn'.c5
      have hin := hideIt hn'.inn
      have hsize := hbel.size
      have HC := hideIt hc
      clear hc hn hn'
      go_wp2_with fail
      refine (l7NodeOk_any B (fnAt vs k) kc ka ki _ hin.out (by omega)).mono ?_
      rintro e w1 ⟨rfl, hb1⟩
      have hbel1 : Below w.heap.size w w1 := hbel.trans (hb1.mono hsize)
      have hnode1 := (hin.out.below (hb1.mono (by omega)))
      have d4 : w1.cell? ⟨b0, o0 + k * 6 + 5, none⟩ = some ki := (below_cell hb1 (by omega)).trans c5
      obtain ⟨hkl, hkb, ak, ck, rfl, hkc⟩ := hnode1.kids
      by_cases hnb : fnodeB (fnAt vs k) = true
      · have hN := hideIt hnb
        clear hnode1
        go_wp2_with fail
        go_loopw [4] (fun i wr => ∃ q : Nat, q ≤ (fnAt vs k).kids.length ∧ i = .int .i64 q ∧ (∀ j, j < q → inB (intAt (fnAt vs k).kids j) 0 ((k : Int) - 1) = true) ∧ wr = w1) (fun i _ => (fnAt vs k).kids.length - (intOf i).toNat)
        case atStart => exact ⟨0, Nat.zero_le _, rfl, fun j hj => by omega, rfl⟩
        case round =>
          obtain ⟨q, hq, rfl, hin2, rfl⟩ := hrel
          have HI := hideIt hin2
          clear hin2
          by_cases hlq : q < (fnAt vs k).kids.length
          · obtain ⟨b1, o1, rfl, hb1', hkc1⟩ := hkc (by omega)
            have hck := hkc1 q hlq
            clear hkc1 hkc
            go_wp2_with fail
            refine (l1In_any _ _ _ _).mono ?_
            rintro e w2 ⟨rfl, rfl⟩
            by_cases hib : inB (intAt (fnAt vs k).kids q) 0 ((k : Int) - 1) = true
            · have HI2 : Hid (∀ j, j < q + 1 → inB (intAt (fnAt vs k).kids j) 0 ((k : Int) - 1) = true) := fun j hj => by
                by_cases e : j = q
                · subst e; exact hib
                · exact HI.out j (by omega)
              go_wp2_with fail
              go_roundw
              case rel => exact ⟨q + 1, by omega, by go_num, HI2.out, by trivial⟩
              case measure => simp [intOf]; omega
            · have hib' : inB (intAt (fnAt vs k).kids q) 0 ((k : Int) - 1) = false := by simpa using hib
              have HO : Hid (okF vs = false) := okF_kid hlt hlq hib'
              clear hib
              go_wp2_with fail
              go_ret
              exact ⟨ret_bool HO.out.symm, hbel1⟩
          · obtain rfl : q = (fnAt vs k).kids.length := by omega
            have HA2 : Hid (∀ j, j < k + 1 → fnodeB (fnAt vs j) = true ∧ fkidsIn vs j = true) := fun j hj => by
              by_cases e : j = k
              · subst e; exact ⟨hN.out, fkidsIn_of HI.out⟩
              · exact HA.out j (by omega)
            go_wp2_with fail
            go_roundw
            case rel => exact ⟨k + 1, by omega, by go_num, HA2.out, hbel1⟩
            case measure => simp [intOf]; omega
      · have hnb' : fnodeB (fnAt vs k) = false := by simpa using hnb
        have HO : Hid (okF vs = false) := okF_node hlt hnb'
        clear hnb hnode1
        go_wp2_with fail
        go_ret
        exact ⟨ret_bool HO.out.symm, hbel1⟩
    · obtain rfl : k = vs.length := by omega
      have HO : Hid (okF vs = rootK (fkids vs) vs.length 12) := okF_of (by omega) (by omega) HA.out
      obtain ⟨n, hn⟩ : ∃ n, vs.length = n + 1 := ⟨vs.length - 1, by omega⟩
      have hcast : ((vs.length : Int) - 1) = (n : Int) := by omega
      have HV' := hideIt (HV.out.below (hbel.mono hB))
      have HN := hideIt hn
      have HR : Hid (rootK (fkids vs) vs.length 12 = match tr (fkids vs) n with
        | some p => decide (p.1 = 0) && decide ((p.2 : Int) ≤ 12)
        | none => false) := by
        unfold rootK Hid
        rw [show vs.length - 1 = n by omega]
        rfl
      clear hc hn
      go_wp2_with fail
      refine (l7Tree_any B _ vs (n + 1) n _ (by omega) (by have := HN.out; omega) HV'.out).mono ?_
      rintro e w1 ⟨rfl, rfl⟩
      cases htr : tr (fkids vs) n with
      | none =>
        have HR2 : Hid (rootK (fkids vs) vs.length 12 = false) := by rw [Hid, HR.out, htr]
        simp only [trF, trD]
        clear htr
        go_wp2_with fail
        go_ret
        exact ⟨ret_bool (by rw [HO.out, HR2.out]), hbel⟩
      | some p =>
        obtain ⟨p1, p2⟩ := p
        have HR2 : Hid (rootK (fkids vs) vs.length 12 = (decide (p1 = 0) && decide ((p2 : Int) ≤ 12))) := by rw [Hid, HR.out, htr]
        simp only [trF, trD]
        clear htr
        by_cases hp : p1 = 0
        · have hq : ((p1 : Int) == 0) = true := by simp [hp]
          have HP := hideIt hp
          clear hp
          go_wp2_with fail
          go_ret
          exact ⟨ret_bool (by rw [HO.out, HR2.out]; simp [HP.out]), hbel⟩
        · have hq : ((p1 : Int) == 0) = false := by simp [hp]
          have HP := hideIt hp
          clear hp
          go_wp2_with fail
          go_ret
          exact ⟨ret_bool (by rw [HO.out, HR2.out]; simp [HP.out]), hbel⟩
end Go.Proofs.Ytbclgogolimbgaa
