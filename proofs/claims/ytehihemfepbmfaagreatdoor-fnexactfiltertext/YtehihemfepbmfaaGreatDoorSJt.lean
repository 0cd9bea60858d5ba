/-
  The specification's l1Dec: a number in decimal.
-/
import Derived.Test.YtehihemfepbmfaaGreatDoorProg
import Derived.Test.YtehihemfepbmfaaGreatDoorPkP
import Derived.Lib.ItoaNum
import Derived.Laws.IdiomStrings
import Derived.Below
import Derived.WideShapes
import Derived.WalkKit
import Derived.Test.YtehihemfepbmfaaGreatDoorIQuo
import Derived.Test.YtehihemfepbmfaaGreatDoorStepC
import Derived.Deep.RegionWith
import Derived.Test.YtehihemfepbmfaaGreatDoorRowB
import Derived.Test.YtehihemfepbmfaaGreatDoorSpc3
namespace Go.Proofs.YtehihemfepbmfaaGreatDoor
open Go.RowKit Go.WideShapes
set_option linter.unusedSimpArgs false
set_option linter.unusedVariables false

theorem dec_len (u : Nat) : (Lib.decDigits u).length ≤ u + 1 := by
  induction u using Nat.strongRecOn with
  | ind u ih =>
    rw [Lib.decDigits]
    split
    · simp
    · rw [List.length_append]
      have := ih (u / 10) (by omega)
      simp
      omega
theorem dec_step {u : Nat} (h : 10 ≤ u) : Lib.decDigits u = Lib.decDigits (u / 10) ++ [UInt8.ofNat (48 + u % 10)] := by
  rw [Lib.decDigits, dif_neg (by omega)]
theorem dig_int {d : Nat} (h : d < 10) : (((UInt8.ofNat (48 + d)).toNat : Nat) : Int) = 48 + (d : Int) := by
  rw [UInt8.toNat_ofNat_of_lt' (by show 48 + d < 256; omega)]
  omega
theorem one_dig {d : Int} (h0 : 0 ≤ d) (h1 : d < 10) (w : World) : (convert 22 9 (.slice (some ⟨w.heap.size, 0, none⟩) 1 1)).run Tryz.prog (w.alloc (.cells #[.int .u8 (48 + d)] 5)) = .ok (.string (txt [UInt8.ofNat (48 + d.toNat)])) (w.alloc (.cells #[.int .u8 (48 + d)] 5)) := by
  have := run_convert_bytes_back (P := Tryz.prog) (w.alloc (.cells #[.int .u8 (48 + d)] 5)) 22 9 5 ⟨w.heap.size, 0, none⟩ 1 [UInt8.ofNat (48 + d.toNat)] Tryz.underlying22 Tryz.underlying5 Tryz.underlying9 (fun j hj => by
    obtain rfl : j = 0 := by simpa using hj
    rw [add_plain, Nat.zero_add]
    have e := dig_int (d := d.toNat) (by omega)
    rw [Int.toNat_of_nonneg h0] at e
    simp only [List.getElem_cons_zero, e]
    simp)
  exact this

set_option maxRecDepth 100000 in
set_option maxHeartbeats 1600000 in
theorem l1Dec_pos (u : Nat) (w : World) (hu : u ≤ 4000000000000000000) : Calls Tryz.prog 62 #[.int .i64 u] w fun e w' => e = .returned (.string (txt (Lib.decDigits u))) ∧ Below w.heap.size w w' := by
  have hn0 : ¬ (u : Int) < 0 := by omega
  go_enter Tryz.func62, Tryz.ntmps62
  go_wp2_with fail
  go_loopw [0, 3] (fun v o wr => ∃ (m : Nat) (l : List UInt8), m ≤ u ∧ v = .int .i64 m ∧ o = .string (txt l) ∧ Lib.decDigits u = Lib.decDigits m ++ l ∧ Below w.heap.size w wr) (fun v _ _ => (intOf v).toNat)
  case atStart => exact ⟨u, [], Nat.le_refl _, rfl, rfl, by simp, Below.refl _ _⟩
  case round =>
    obtain ⟨m, l, hm, rfl, rfl, hd, hb⟩ := hrel
    have HD := hideB hd
    have HB := hideB hb
    have zb := hb.size
    have hll : l.length ≤ 4000000000000000001 := by
      have h1 := dec_len u
      have h2 := congrArg List.length hd
      rw [List.length_append] at h2
      omega
    have hz : (txt l).size ≤ 4000000000000000001 := by rw [txt_size]; exact hll
    have hz1 : ∀ x, (txt [x]).size = 1 := fun x => txt_size [x]
    clear hd hb hll
    by_cases h10 : 10 ≤ m
    · have h10' : 10 ≤ (m : Int) := by omega
      have hc := one_dig (d := (m : Int) % 10) (by omega) (by omega) wr
      have e1 : ((m : Int) % 10).toNat = m % 10 := by omega
      rw [e1] at hc
      have HS := hideB (dec_step h10)
      obtain ⟨y, hy⟩ : ∃ y, UInt8.ofNat (48 + m % 10) = y := ⟨_, rfl⟩
      rw [hy] at hc HS
      clear hy e1
      have HQ : Hid (Value.int .i64 ((m : Int) / 10) = .int .i64 ((m / 10 : Nat) : Int)) := by rw [Hid]; congr 1
      go_wp2_with fail
      refine ⟨⟨m / 10, y :: l, by omega, HQ.out, str_txt (txt_app [y] l), by rw [HD.out, HS.out, List.append_assoc]; rfl, HB.out.alloc zb _⟩, by simp [intOf]; omega⟩
    · have h10' : ¬ 10 ≤ (m : Int) := by omega
      have hc := one_dig (d := (m : Int)) (by omega) (by omega) wr
      rw [Int.toNat_natCast] at hc
      have HS := hideB (Lib.decDigits_one (i := m) (by omega))
      obtain ⟨y, hy⟩ : ∃ y, UInt8.ofNat (48 + m) = y := ⟨_, rfl⟩
      rw [hy] at hc HS
      clear hy
      go_wp2_with fail
      go_ret
      exact ⟨by rw [HD.out, HS.out]; exact ret_str (txt_app _ _), HB.out.alloc zb _⟩

set_option maxRecDepth 100000 in
set_option maxHeartbeats 1600000 in
theorem l1Dec_any (n : Int) (w : World) (h0 : -4000000000000000000 ≤ n) (h1 : n ≤ 4000000000000000000) : Calls Tryz.prog 62 #[.int .i64 n] w fun e w' => e = .returned (.string (txt (Lib.itoa n))) ∧ Below w.heap.size w w' := by
  by_cases h : n < 0
  · have C := hideB (fun w => l1Dec_pos n.natAbs w (by omega))
    have e : ((n.natAbs : Nat) : Int) = -n := by omega
    have hz : (txt (Lib.decDigits n.natAbs)).size ≤ 4000000000000000001 := by rw [txt_size]; have := dec_len n.natAbs; omega
    have HI := hideB (show Lib.itoa n = 45 :: Lib.decDigits n.natAbs by unfold Lib.itoa; rw [if_pos h])
    rw [e] at C
    clear e
    obtain ⟨D, hD⟩ : ∃ D, Lib.decDigits n.natAbs = D := ⟨_, rfl⟩
    rw [hD] at C hz HI
    clear hD
    go_enter Tryz.func62, Tryz.ntmps62
    go_wp2_with (go_at_call 62; refine (C.out _).mono ?_; rintro e w1 ⟨rfl, hb1⟩)
    go_ret
    exact ⟨by rw [HI.out]; exact ret_str (txt_app [45] D), hb1⟩
  · have e : Lib.itoa n = Lib.decDigits n.toNat := by unfold Lib.itoa; rw [if_neg h]
    have e2 : ((n.toNat : Nat) : Int) = n := by omega
    have := l1Dec_pos n.toNat w (by omega)
    rw [e2] at this
    rw [e]
    exact this
end Go.Proofs.YtehihemfepbmfaaGreatDoor

/-
  The specification's l2Quoted.
-/
namespace Go.Proofs.YtehihemfepbmfaaGreatDoor
open Go.RowKit Go.WideShapes
set_option linter.unusedSimpArgs false
set_option linter.unusedVariables false
theorem two_belowQ {w wr w1 w2 : World} (h : Below w.heap.size w wr) (h1 : Below wr.heap.size wr w1) (h2 : Below w1.heap.size w1 w2) : Below w.heap.size w w2 :=
  (h.trans (h1.mono h.size)).trans (h2.mono (h.trans (h1.mono h.size)).size)
theorem quo_tail (o : List UInt8) (c : UInt8) : txt o ++ ⟨#[92, 117, 48, 48]⟩ ++ txt [hexB ((c.toNat : Int) / 16).toNat] ++ txt [hexB ((c.toNat : Int) % 16).toNat] = txt (o ++ [92, 117, 48, 48, hexB (c.toNat / 16), hexB (c.toNat % 16)]) := by
  have e1 : ((c.toNat : Int) / 16).toNat = c.toNat / 16 := by omega
  have e2 : ((c.toNat : Int) % 16).toNat = c.toNat % 16 := by omega
  rw [e1, e2, app_txt, txt_app, txt_app]
  simp

set_option maxRecDepth 100000 in
set_option maxHeartbeats 3200000 in
theorem sQuo_any (s : ByteArray) (w : World) (hs : s.size ≤ 16777216) : Calls Tryz.prog 97 #[.string s] w fun e w' => e = .returned (.string (txt (quoT s))) ∧ Below w.heap.size w w' := by
  go_enter Tryz.func97, Tryz.ntmps97
  go_wp2_with fail
  go_loopw [3, 4] (fun o i wr => ∃ k : Nat, k ≤ s.size ∧ i = .int .i64 k ∧ o = .string (txt (34 :: quo (s.data.toList.take k))) ∧ Below w.heap.size w wr) (fun _ i _ => s.size - (intOf i).toNat)
  case atStart => exact ⟨0, Nat.zero_le _, rfl, rfl, Below.refl _ _⟩
  case round =>
    obtain ⟨k, hk, rfl, rfl, hbel⟩ := hrel
    have HB := hideB hbel
    clear hbel
    by_cases hlt : k < s.size
    · have hl := quo_take_len s.data.toList k
      have HS : Hid (34 :: quo (s.data.toList.take (k + 1)) = (34 :: quo (s.data.toList.take k)) ++ quoB (s.data.toList[k]'(by rw [len_is]; exact hlt))) := by rw [Hid, quo_snoc s.data.toList k (by rw [len_is]; exact hlt)]; rfl
      have hl' : (34 :: quo (s.data.toList.take k)).length ≤ 6 * s.data.toList.length + 1 := by rw [List.length_cons]; omega
      obtain ⟨o, ho⟩ : ∃ o, 34 :: quo (s.data.toList.take k) = o := ⟨_, rfl⟩
      rw [ho] at HS hl' ⊢
      clear ho hl
      have hz : (txt o).size ≤ 134217728 := by rw [txt_size]; rw [len_is] at hl'; omega
      rw [getK hlt] at HS
      obtain ⟨c, hc⟩ : ∃ c, s[k] = c := ⟨_, rfl⟩
      rw [hc] at HS
      have hn : c.toNat < 256 := c.toNat_lt
      have hsl := run_one (P := Tryz.prog) (t := 9) Tryz.underlying9 hlt hc
      by_cases h34 : c = 34
      · subst h34
        have hz1 := txt_size [(34 : UInt8)]
        go_wp2_with fail
        refine ⟨⟨k + 1, by omega, by go_num, ?_, HB.out⟩, by simp [intOf]; omega⟩
        rw [HS.out]; exact str_txt (by rw [app_txt, txt_app]; simp [quoB])
      have n34 : ¬ (c.toNat : Int) = 34 := u8_ne h34
      have b34 : ((c.toNat : Int) == 34) = false := by simpa using n34
      by_cases h92 : c = 92
      · subst h92
        have hz1 := txt_size [(92 : UInt8)]
        go_wp2_with fail
        refine ⟨⟨k + 1, by omega, by go_num, ?_, HB.out⟩, by simp [intOf]; omega⟩
        rw [HS.out]; exact str_txt (by rw [app_txt, txt_app]; simp [quoB])
      have n92 : ¬ (c.toNat : Int) = 92 := u8_ne h92
      have b92 : ((c.toNat : Int) == 92) = false := by simpa using n92
      by_cases h8 : c = 8
      · subst h8
        go_wp2_with fail
        refine ⟨⟨k + 1, by omega, by go_num, ?_, HB.out⟩, by simp [intOf]; omega⟩
        rw [HS.out]; exact str_txt (app_txt _ _)
      have n8 : ¬ (c.toNat : Int) = 8 := u8_ne h8
      have b8 : ((c.toNat : Int) == 8) = false := by simpa using n8
      by_cases h9 : c = 9
      · subst h9
        go_wp2_with fail
        refine ⟨⟨k + 1, by omega, by go_num, ?_, HB.out⟩, by simp [intOf]; omega⟩
        rw [HS.out]; exact str_txt (app_txt _ _)
      have n9 : ¬ (c.toNat : Int) = 9 := u8_ne h9
      have b9 : ((c.toNat : Int) == 9) = false := by simpa using n9
      by_cases h10 : c = 10
      · subst h10
        go_wp2_with fail
        refine ⟨⟨k + 1, by omega, by go_num, ?_, HB.out⟩, by simp [intOf]; omega⟩
        rw [HS.out]; exact str_txt (app_txt _ _)
      have n10 : ¬ (c.toNat : Int) = 10 := u8_ne h10
      have b10 : ((c.toNat : Int) == 10) = false := by simpa using n10
      by_cases h12 : c = 12
      · subst h12
        go_wp2_with fail
        refine ⟨⟨k + 1, by omega, by go_num, ?_, HB.out⟩, by simp [intOf]; omega⟩
        rw [HS.out]; exact str_txt (app_txt _ _)
      have n12 : ¬ (c.toNat : Int) = 12 := u8_ne h12
      have b12 : ((c.toNat : Int) == 12) = false := by simpa using n12
      by_cases h13 : c = 13
      · subst h13
        go_wp2_with fail
        refine ⟨⟨k + 1, by omega, by go_num, ?_, HB.out⟩, by simp [intOf]; omega⟩
        rw [HS.out]; exact str_txt (app_txt _ _)
      have n13 : ¬ (c.toNat : Int) = 13 := u8_ne h13
      have b13 : ((c.toNat : Int) == 13) = false := by simpa using n13
      by_cases hp : c < 32 ∨ c = 127
      · have HE := hideB (show quoB c = [92, 117, 48, 48, hexB (c.toNat / 16), hexB (c.toNat % 16)] by simp only [quoB, h34, h92, h8, h9, h10, h12, h13, hp, if_false, if_true])
        have p1 : ((c.toNat : Int) < 32) ∨ (c.toNat : Int) = 127 := by
          rcases hp with h | h
          · exact .inl (by have : c.toNat < 32 := UInt8.lt_iff_toNat_lt.1 h; omega)
          · exact .inr (by subst h; rfl)
        clear h34 h92 h8 h9 h10 h12 h13 hp
        rcases p1 with p1 | p1
        all_goals (
          first | (have b127 : ((c.toNat : Int) == 127) = true := by simpa using p1) | skip
          have hz1 := txt_one
          have hw1 := u8_quo c
          have hw2 := u8_rem c
          have q2 : ¬ 9223372036854775807 < (txt o).size + 4 := by omega
          have q3 : ¬ 9223372036854775807 < (txt o).size + 4 + 1 := by omega
          have q4 : ¬ 9223372036854775807 < (txt o).size + 4 + 1 + 1 := by omega
          have r3 : ¬ 9223372036854775807 < (txt o).size + 5 := by omega
          have r4 : ¬ 9223372036854775807 < (txt o).size + 6 := by omega
          go_wp2_with (go_at_call 132; refine (l2Hex_int _ _ (by omega) (by omega)).mono ?_; rintro e w' ⟨rfl, hb⟩)
          refine ⟨⟨k + 1, by omega, by go_num, ?_, two_belowQ HB.out (by assumption) (by assumption)⟩, by simp [intOf]; omega⟩
          rw [HS.out, HE.out]
          first
            | exact str_txt (quo_tail o c)
            | (have h127 : c = 127 := UInt8.toNat_inj.1 (by show c.toNat = 127; omega)
               rw [h127]
               exact str_txt (quo_tail o 127)))
      · have HE := hideB (show quoB c = [c] by simp only [quoB, h34, h92, h8, h9, h10, h12, h13, hp, if_false])
        have p1 : ¬ (c.toNat : Int) < 32 := fun h => hp (.inl (UInt8.lt_iff_toNat_lt.2 (by show c.toNat < 32; omega)))
        have p2 : ¬ (c.toNat : Int) = 127 := u8_ne (fun h => hp (.inr h))
        have b127 : ((c.toNat : Int) == 127) = false := by simpa using p2
        have hz1 := txt_size [c]
        clear h34 h92 h8 h9 h10 h12 h13 hp
        go_wp2_with fail
        refine ⟨⟨k + 1, by omega, by go_num, ?_, HB.out⟩, by simp [intOf]; omega⟩
        rw [HS.out, HE.out]; exact str_txt (txt_app _ _)
    · obtain rfl : k = s.size := by omega
      have hl := quo_len s.data.toList
      have HL := hideB (show s.data.toList.take s.size = s.data.toList by rw [← len_is, List.take_length])
      rw [HL.out]
      have hz : (txt (34 :: quo s.data.toList)).size ≤ 134217728 := by rw [txt_size, List.length_cons]; rw [len_is] at hl; omega
      go_wp2_with fail
      go_ret
      exact ⟨ret_str (app_txt _ _), HB.out⟩
end Go.Proofs.YtehihemfepbmfaaGreatDoor

/-
  The specification's l2Scalar and l2Text: JSON's bytes of a node.
-/
namespace Go.Proofs.YtehihemfepbmfaaGreatDoor
open Go.RowKit Go.WideShapes
set_option linter.unusedSimpArgs false
set_option linter.unusedVariables false

set_option maxRecDepth 100000 in
set_option maxHeartbeats 1600000 in
theorem l2Scalar_any (f deep : Nat) (lines : Bool) (kd nn : Int) (ss : ByteArray) (kv iv : Value) (keys : List ByteArray) (kids : List VT) (w : World) (h : kd = 1 ∨ (kd = 2 ∧ 0 ≤ nn ∧ nn ≤ 1) ∨ (kd = 3 ∧ -1000000000000000 ≤ nn ∧ nn ≤ 1000000000000000) ∨ (kd = 4 ∧ ss.size ≤ 60)) :
    Calls Tryz.prog 63 #[.agg #[.int .i64 kd, .int .i64 nn, .string ss, kv, iv]] w fun e w' => e = .returned (.string (txt (jsonT lines (f + 1) deep (.mk kd nn ss keys kids)))) ∧ Below w.heap.size w w' := by
  have HLF := hideIt (jsonT_leaf lines f deep (kind := kd) (n := nn) (s := ss) (keys := keys) (kids := kids))
  rcases h with rfl | ⟨rfl, h0, h1⟩ | ⟨rfl, h0, h1⟩ | ⟨rfl, h1⟩
  · have HE := hideIt (HLF.out.1 rfl)
    go_enter Tryz.func63, Tryz.ntmps63
    go_wp2_with fail
    go_ret
    exact ⟨by rw [HE.out]; rfl, (Below.refl _ _).alloc (Nat.le_refl _) _⟩
  · have HE := hideIt (HLF.out.2.1 rfl)
    rcases (show nn = 0 ∨ nn = 1 by omega) with rfl | rfl
    · go_enter Tryz.func63, Tryz.ntmps63
      go_wp2_with fail
      go_ret
      exact ⟨by rw [HE.out]; rfl, (Below.refl _ _).alloc (Nat.le_refl _) _⟩
    · go_enter Tryz.func63, Tryz.ntmps63
      go_wp2_with fail
      go_ret
      exact ⟨by rw [HE.out]; rfl, (Below.refl _ _).alloc (Nat.le_refl _) _⟩
  · have HE := hideIt (HLF.out.2.2.1 rfl)
    go_enter Tryz.func63, Tryz.ntmps63
    go_wp2_with fail
    refine (l1Dec_any nn _ (by omega) (by omega)).mono ?_
    rintro e w1 ⟨rfl, hb1⟩
    have HB := hideIt (((Below.refl _ _).alloc (Nat.le_refl _) _).trans (hb1.mono (by simp)))
    clear hb1
    go_wp2_with fail
    go_ret
    exact ⟨by rw [HE.out]; rfl, HB.out⟩
  · have HE := hideIt (HLF.out.2.2.2.1 rfl)
    go_enter Tryz.func63, Tryz.ntmps63
    go_wp2_with fail
    refine (sQuo_any ss _ (by omega)).mono ?_
    rintro e w1 ⟨rfl, hb1⟩
    have HB := hideIt (((Below.refl _ _).alloc (Nat.le_refl _) _).trans (hb1.mono (by simp)))
    clear hb1
    go_wp2_with fail
    go_ret
    exact ⟨by rw [HE.out]; rfl, HB.out⟩

/-- The blanks ahead of a line. -/
def marg (deep : Nat) : ByteArray := txt (List.replicate (2 * deep) 32)
theorem marg_size (deep : Nat) : (marg deep).size = 2 * deep := by unfold marg; rw [txt_size]; simp
theorem marg_next (deep : Nat) : marg deep ++ ⟨#[32, 32]⟩ = marg (deep + 1) := by
  unfold marg
  rw [app_txt]
  congr 1
  rw [show 2 * (deep + 1) = 2 * deep + 2 by omega, ← List.replicate_append_replicate]; rfl
theorem line_txt (o : List UInt8) (deep : Nat) : txt o ++ ⟨#[10]⟩ ++ marg deep = txt (o ++ lineJ true deep) := by
  unfold marg lineJ
  rw [app_txt, app_txt, bytes_txt]
  congr 1
  simp
theorem line_txt2 (o : List UInt8) (deep : Nat) : txt o ++ ⟨#[10]⟩ ++ marg deep ++ ⟨#[32, 32]⟩ = txt (o ++ lineJ true (deep + 1)) := by
  rw [ByteArray.append_assoc, marg_next, line_txt]

def opJ (named : Bool) : UInt8 := if named = true then 123 else 91
def endJ (named : Bool) : UInt8 := if named = true then 125 else 93
def kdJ (named : Bool) : Int := if named = true then 6 else 5
theorem jsonT_row (lines named : Bool) (f deep : Nat) (n : Int) (s : ByteArray) (keys : List ByteArray) (kids : List VT) : jsonT lines (f + 1) deep (.mk (kdJ named) n s keys kids) = opJ named :: (wholeJ (jsonT lines f (deep + 1)) lines named deep keys kids ++ [endJ named]) := by
  have h := jsonT_leaf lines f deep (kind := kdJ named) (n := n) (s := s) (keys := keys) (kids := kids)
  cases named
  · exact h.2.2.2.2.1 rfl
  · exact h.2.2.2.2.2 rfl
end Go.Proofs.YtehihemfepbmfaaGreatDoor

/-
  The specification's l2Text: JSON's bytes of a node.
-/
namespace Go.Proofs.YtehihemfepbmfaaGreatDoor
open Go.RowKit Go.WideShapes
set_option linter.unusedSimpArgs false
set_option linter.unusedVariables false
def commaJ2 (k : Nat) : List UInt8 := if k = 0 then [] else [44]
theorem partsJ_cons (c : UInt8) (F : VT → List UInt8) (lines named : Bool) (deep : Nat) (keys : List ByteArray) (kids : List VT) (k : Nat) :
    c :: partsJ F lines named deep keys kids (k + 1) = (c :: partsJ F lines named deep keys kids k) ++ commaJ2 k ++ lineJ lines (deep + 1) ++ (if named = true then keyJ lines (keyAt keys k) else []) ++ F (kidT kids k) := rfl
theorem rep_two (d : Nat) : List.replicate (2 * (d + 1)) (32 : UInt8) = List.replicate (2 * d) 32 ++ [32, 32] := by
  rw [show 2 * (d + 1) = 2 * d + 2 by omega, ← List.replicate_append_replicate]; rfl
theorem lenMapJ {α β : Type} (g : α → β) (l : List α) : (l.map g).length = l.length := List.length_map ..

end Go.Proofs.YtehihemfepbmfaaGreatDoor
