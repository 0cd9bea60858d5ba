/-
  The program's ReadJson.
-/
import Derived.Test.YtagcgnhpdmhegaaGreatDoorRdFr
import Derived.Test.YtagcgnhpdmhegaaGreatDoorRdN
import Derived.Test.YtagcgnhpdmhegaaGreatDoorMapP
import Derived.Test.YtagcgnhpdmhegaaGreatDoorJbQ
import Derived.Test.YtagcgnhpdmhegaaGreatDoorLowN
import Derived.Test.YtagcgnhpdmhegaaGreatDoorRd4
import Derived.Test.YtagcgnhpdmhegaaGreatDoorJbP
namespace Go.Proofs.YtagcgnhpdmhegaaGreatDoor
open Go.RowKit
set_option linter.unusedSimpArgs false
set_option linter.unusedVariables false

/-- The value that the whole text says. -/
def allJ (L : List UInt8) : Option (VT × Nat) := match rdJ L (L.length + 1) 0 with
  | none => none
  | some (t, q) => if q < L.length then none else some (t, q)
theorem allJ_no {L : List UInt8} (h : rdJ L (L.length + 1) 0 = none) : allJ L = none := by unfold allJ; rw [h]
theorem allJ_short {L : List UInt8} {t : VT} {q : Nat} (h : rdJ L (L.length + 1) 0 = some (t, q)) (hq : q < L.length) : allJ L = none := by unfold allJ; rw [h]; dsimp only; rw [if_pos hq]
theorem allJ_yes {L : List UInt8} {t : VT} {q : Nat} (h : rdJ L (L.length + 1) 0 = some (t, q)) (hq : ¬ q < L.length) : allJ L = some (t, q) := by unfold allJ; rw [h]; dsimp only; rw [if_neg hq]
theorem allJ_of {L : List UInt8} {t : VT} {q : Nat} (h : allJ L = some (t, q)) : rdJ L (L.length + 1) 0 = some (t, q) := by
  unfold allJ at h
  cases e : rdJ L (L.length + 1) 0 with
  | none => simp [e] at h
  | some x =>
    obtain ⟨t', q'⟩ := x
    simp only [e] at h
    split at h
    · cases h
    · exact h

set_option maxRecDepth 100000 in
set_option maxHeartbeats 1600000 in
theorem unlessC_yes (G : FuncId) (a b : Value) (w : World) (Z : Value → World → Prop) (hcf : ∀ w, (callFunc G #[a, b]).run Tryz.prog w = .ok (.enter G #[a, b]) w)
    (hc : Calls Tryz.prog G #[a, b] (w.alloc (.cells #[.bool false] 4)) fun e w' => ∃ v, e = .returned v ∧ Z v w')
    (hZ : ∀ v w', Z v w' → w'.cell? ⟨w.heap.size, 0, none⟩ = some (.bool false) ∧ w'.frozen? ⟨w.heap.size, 0, none⟩ = false) :
    Calls Tryz.prog 49 #[.func (.func G) #[] #[a, b]] w fun e w' => ∃ v, e = .returned (.tuple #[v, .bool true]) ∧ ∃ w1, Z v w1 ∧ w' = w1.setCell ⟨w.heap.size, 0, none⟩ (.bool true) := by
  have hmf : ∀ (fn : Fn) (first cap : Array Value) (w : World), (Instr.makeFunc fn first cap).run Tryz.prog w = .ok (.func fn first cap) w := fun _ _ _ _ => rfl
  go_enter_defers Tryz.func49, Tryz.ntmps49
  go_wp2_with fail
  refine hc.mono ?_
  rintro e w1 ⟨v, rfl, hz⟩
  obtain ⟨c1, f1⟩ := hZ v w1 hz
  go_wp2_with fail
  refine leaves_cons (f := 81) (args := #[.pointer (some ⟨w.heap.size, 0, none⟩)]) (by simp) (by simp [go_sem]) ?_
  refine (catchV_idle ⟨w.heap.size, 0, none⟩ _).mono ?_
  rintro e u' w'' ⟨rfl, rfl, rfl⟩
  have c2 : (w1.setCell ⟨w.heap.size, 0, none⟩ (.bool true)).cell? ⟨w.heap.size, 0, none⟩ = some (.bool true) := World.cell?_setCell_same _ _ _ c1
  simp [Leaves, settle, results, Tryz.results49, go_sem, c2]
  exact ⟨w1, hz, rfl⟩

set_option maxRecDepth 100000 in
set_option maxHeartbeats 1600000 in
theorem unlessC_no (G : FuncId) (a b : Value) (w : World) (Z : World → Prop) (hcf : ∀ w, (callFunc G #[a, b]).run Tryz.prog w = .ok (.enter G #[a, b]) w)
    (hc : Calls Tryz.prog G #[a, b] (w.alloc (.cells #[.bool false] 4)) fun e w' => e = gup ∧ Z w')
    (hZ : ∀ w', Z w' → w'.cell? ⟨w.heap.size, 0, none⟩ = some (.bool false) ∧ w'.frozen? ⟨w.heap.size, 0, none⟩ = false) :
    Calls Tryz.prog 49 #[.func (.func G) #[] #[a, b]] w fun e w' => e = .returned (.tuple #[.nilIface, .bool false]) ∧ ∃ w1, Z w1 ∧ w' = w1.setCell ⟨w.heap.size, 0, none⟩ (.bool false) := by
  have hmf : ∀ (fn : Fn) (first cap : Array Value) (w : World), (Instr.makeFunc fn first cap).run Tryz.prog w = .ok (.func fn first cap) w := fun _ _ _ _ => rfl
  go_enter_defers Tryz.func49, Tryz.ntmps49
  go_wp2_with fail
  refine hc.mono ?_
  rintro e w1 ⟨rfl, hz⟩
  obtain ⟨c1, f1⟩ := hZ w1 hz
  unfold gup
  go_wp2_with fail
  refine leaves_cons (f := 81) (args := #[.pointer (some ⟨w.heap.size, 0, none⟩)]) (by simp) (by simp [go_sem]) ?_
  refine (catchV_gave ⟨w.heap.size, 0, none⟩ false _ c1 f1).mono ?_
  rintro e u' w'' ⟨rfl, rfl, rfl⟩
  have c2 : (w1.setCell ⟨w.heap.size, 0, none⟩ (.bool false)).cell? ⟨w.heap.size, 0, none⟩ = some (.bool false) := World.cell?_setCell_same _ _ _ c1
  simp [Leaves, settle, results, Tryz.results49, go_sem, c2]
  exact ⟨w1, hz, rfl⟩

set_option maxRecDepth 100000 in
set_option maxHeartbeats 3200000 in
theorem closure_json {rb sb : Nat} {s : ByteArray} {w : World} (h : SrAt w rb s 0) (hc : w.cell? ⟨sb, 0, none⟩ = some (.string s)) (hl : sb < w.heap.size) (hne : sb ≠ rb) (hs : s.size ≤ 4000) :
    Calls Tryz.prog 50 #[.pointer (some ⟨rb, 0, none⟩), .pointer (some ⟨sb, 0, none⟩)] w fun e w' => ((∃ t q x, allJ s.data.toList = some (t, q) ∧ e = .returned x ∧ TreeP (NewB w w') w' (s.size + 1) t x) ∨ (allJ s.data.toList = none ∧ e = gup)) ∧ But rb w w' := by
  have HLN := hideB (len_is s)
  have HC := hideIt (around_any hs (s.size + 1) 0 w h (by omega))
  have HSC : Hid (∀ w', But rb w w' → w'.cell? ⟨sb, 0, none⟩ = some (.string s)) := fun w' hb => (cellOf (hb.block sb hl hne)).trans hc
  clear h hc
  go_enter Tryz.func50, Tryz.ntmps50
  go_wp2_with fail
  refine HC.out.mono ?_
  rintro e w1 ⟨⟨t, q, x, hr, rfl, htr, hs1, _⟩ | ⟨hr, rfl⟩, hb1⟩
  · obtain ⟨ty, xx, rfl⟩ := htr.iface
    have HR : Hid (rdJ s.data.toList (s.data.toList.length + 1) 0 = some (t, q)) := by rw [Hid, HLN.out]; exact hr
    have HT := hideIt htr
    have HB1 := hideIt hb1
    have k1 := hs1.br.place
    have k2 := HSC.out w1 hb1
    clear hr htr hs1 hb1
    by_cases hq : q < s.size
    · have hq' : (q : Int) < (s.size : Int) := by omega
      have HN : Hid (allJ s.data.toList = none) := allJ_short HR.out (by rw [HLN.out]; exact hq)
      go_wp2_with fail
      exact ⟨rfl, .inr ⟨HN.out, rfl⟩, HB1.out⟩
    · have hq' : ¬ (q : Int) < (s.size : Int) := by omega
      have HY := hideIt (allJ_yes HR.out (by rw [HLN.out]; exact hq))
      go_wp2_with fail
      go_ret
      exact ⟨.inl ⟨t, q, _, HY.out, rfl, HT.out⟩, HB1.out⟩
  · have HN : Hid (allJ s.data.toList = none) := allJ_no (by rw [HLN.out]; exact hr)
    have HB1 := hideIt hb1
    clear hr hb1
    unfold gup
    go_wp2_with fail
    exact ⟨rfl, .inr ⟨HN.out, rfl⟩, HB1.out⟩
theorem call_cjson (a b : Value) (w : World) : (callFunc 50 #[a, b]).run Tryz.prog w = .ok (.enter 50 #[a, b]) w := by kernel_rfl

set_option maxRecDepth 100000 in
set_option maxHeartbeats 1600000 in
theorem newSign_any (s b : ByteArray) (w : World) : Calls Tryz.prog 48 #[.string s, .string b] w fun e w' => e = .returned (.agg #[.string s, .int .i64 0, .string b]) ∧ Below w.heap.size w w' := by
  go_enter Tryz.func48, Tryz.ntmps48
  go_wp2_with fail
  refine bodyPost_ret (v := .agg #[.string s, .int .i64 0, .string b]) (by simp [results, Tryz.results48, go_sem]) rfl ?_
  exact ⟨rfl, (Below.refl _ _).alloc (Nat.le_refl _) _⟩

set_option maxRecDepth 100000 in
set_option maxHeartbeats 1600000 in
theorem readJsonValue_any (s : ByteArray) (hs : s.size ≤ 4000) (w : World) :
    Calls Tryz.prog 25 #[.string s] w fun e w' => ((∃ t q x, allJ s.data.toList = some (t, q) ∧ e = .returned (.tuple #[x, .bool true]) ∧ TreeP (NewB w w') w' (s.size + 1) t x) ∨ (allJ s.data.toList = none ∧ e = .returned (.tuple #[.nilIface, .bool false]))) ∧ Below w.heap.size w w' := by
  have hmf : ∀ (fn : Fn) (first cap : Array Value) (w : World), (Instr.makeFunc fn first cap).run Tryz.prog w = .ok (.func fn first cap) w := fun _ _ _ _ => rfl
  have HBA : Hid (Below w.heap.size w (w.alloc (.cells #[.string s] 9))) := (Below.refl _ _).alloc (Nat.le_refl _) _
  have HNS := hideB (newSign_any s ⟨#[9, 10, 13, 32]⟩ (w.alloc (.cells #[.string s] 9)))
  go_enter Tryz.func25, Tryz.ntmps25
  go_wp2_with fail
  refine HNS.out.mono ?_
  rintro e w2 ⟨rfl, hb2⟩
  have HB2 := hideB hb2
  clear hb2
  obtain ⟨w3, hw3⟩ : ∃ w3, w2.alloc (.cells #[.string s, .int .i64 0, .string ⟨#[9, 10, 13, 32]⟩] 99) = w3 := ⟨_, rfl⟩
  have hz1 : (w.alloc (.cells #[.string s] 9)).heap.size = w.heap.size + 1 := by simp
  have hz2 : w.heap.size + 1 ≤ w2.heap.size := by rw [← hz1]; exact HB2.out.size
  have hz3 : w3.heap.size = w2.heap.size + 1 := by rw [← hw3]; simp
  have HB3 : Hid (Below w2.heap.size w2 w3) := by rw [Hid, ← hw3]; exact (Below.refl _ _).alloc (Nat.le_refl _) _
  have HBW : Hid (Below w.heap.size w w3) := (HBA.out.trans (HB2.out.mono (by rw [hz1]; omega))).trans (HB3.out.mono (by omega))
  have HCS : Hid (w3.cell? ⟨w.heap.size, 0, none⟩ = some (.string s)) := by
    have h1 : w2.heap[w.heap.size]? = some (.cells #[.string s] 9) := (HB2.out.block w.heap.size (by rw [hz1]; omega)).trans (heap_alloc_new w _)
    have h2 : w3.heap[w.heap.size]? = some (.cells #[.string s] 9) := (HB3.out.block w.heap.size (by omega)).trans h1
    rw [Hid, Lib.cell_of_heap h2]
    rfl
  have HSR : Hid (SrAt w3 w2.heap.size s 0) := by rw [Hid, ← hw3]; exact ⟨⟨by simp, by simp, by simp, by simp, Nat.zero_le _⟩, by simp⟩
  have HB4 : Hid (Below w3.heap.size w3 (w3.alloc (.cells #[.bool false] 4))) := (Below.refl _ _).alloc (Nat.le_refl _) _
  have hz4 : (w3.alloc (.cells #[.bool false] 4)).heap.size = w3.heap.size + 1 := by simp
  have HC := hideIt (closure_json (HSR.out.below HB4.out) ((cellOf (HB4.out.block w.heap.size (by omega))).trans HCS.out) (by rw [hz4]; omega) (show w.heap.size ≠ w2.heap.size by omega) hs)
  have HKEEP : Hid (∀ w', But w2.heap.size (w3.alloc (.cells #[.bool false] 4)) w' → w'.cell? ⟨w3.heap.size, 0, none⟩ = some (.bool false) ∧ w'.frozen? ⟨w3.heap.size, 0, none⟩ = false) := fun w' hb => by
    have hh := (hb.block w3.heap.size (by rw [hz4]; omega) (by omega)).trans (heap_alloc_new w3 (.cells #[.bool false] 4))
    exact ⟨by rw [Lib.cell_of_heap hh]; rfl, Lib.frozen_of_heap hh 0⟩
  have HFIN : Hid (∀ w9 b, But w2.heap.size (w3.alloc (.cells #[.bool false] 4)) w9 → Below w.heap.size w (w9.setCell ⟨w3.heap.size, 0, none⟩ (.bool b))) := fun w9 b hb => by
    have h1 : Below w.heap.size w w9 := (HBW.out.trans (HB4.out.mono (by omega))).trans ((hb.below (by omega)).mono (by omega))
    exact ⟨h1.os, h1.tape, h1.output, by simpa using h1.size, fun c hc => (Below.heap_setCell _ _ _ _ (by show c ≠ w3.heap.size; omega)).trans (h1.block c hc)⟩
  cases ha : allJ s.data.toList with
  | none =>
    rw [ha] at HC
    have hcn : Calls Tryz.prog 50 #[.pointer (some ⟨w2.heap.size, 0, none⟩), .pointer (some ⟨w.heap.size, 0, none⟩)] (w3.alloc (.cells #[.bool false] 4)) fun e w' => e = gup ∧ But w2.heap.size (w3.alloc (.cells #[.bool false] 4)) w' := HC.out.mono (by
      rintro e w' ⟨⟨t, q, x, h1, _⟩ | ⟨_, h2⟩, h3⟩
      · cases h1
      · exact ⟨h2, h3⟩)
    have HU := hideIt (unlessC_no 50 _ _ w3 _ (call_cjson _ _) hcn HKEEP.out)
    have HAJ := hideIt ha
    clear hcn HC ha
    go_wp2_with fail
    refine HU.out.mono ?_
    rintro e w1 ⟨rfl, w9, hb9, rfl⟩
    have HB1 := hideIt (HFIN.out w9 false hb9)
    clear hb9
    generalize w9.setCell ⟨w3.heap.size, 0, none⟩ (.bool false) = w1 at HB1 ⊢
    go_wp2_with fail
    refine bodyPost_ret (v := .tuple #[.nilIface, .bool false]) (by simp [results, Tryz.results25, go_sem]) rfl ?_
    exact ⟨.inr ⟨HAJ.out, rfl⟩, HB1.out⟩
  | some tq =>
    obtain ⟨t, q⟩ := tq
    rw [ha] at HC
    have hcy : Calls Tryz.prog 50 #[.pointer (some ⟨w2.heap.size, 0, none⟩), .pointer (some ⟨w.heap.size, 0, none⟩)] (w3.alloc (.cells #[.bool false] 4)) fun e w' => ∃ x, e = .returned x ∧ TreeP (NewB (w3.alloc (.cells #[.bool false] 4)) w') w' (s.size + 1) t x ∧ But w2.heap.size (w3.alloc (.cells #[.bool false] 4)) w' := HC.out.mono (by
      rintro e w' ⟨⟨t', q', x, h1, h2, h3⟩ | ⟨h1, _⟩, h5⟩
      · simp only [Option.some.injEq, Prod.mk.injEq] at h1
        obtain ⟨rfl, rfl⟩ := h1
        exact ⟨x, h2, h3, h5⟩
      · cases h1)
    have HU := hideIt (unlessC_yes 50 _ _ w3 (fun x w' => TreeP (NewB (w3.alloc (.cells #[.bool false] 4)) w') w' (s.size + 1) t x ∧ But w2.heap.size (w3.alloc (.cells #[.bool false] 4)) w') (call_cjson _ _) hcy (fun x w' hz => HKEEP.out w' hz.2))
    have HAJ := hideIt ha
    clear hcy HC ha
    go_wp2_with fail
    refine HU.out.mono ?_
    rintro e w1 ⟨x, rfl, w9, ⟨htr, hb9⟩, rfl⟩
    have HB1 := hideIt (HFIN.out w9 true hb9)
    have HT1 : Hid (TreeP (NewB w (w9.setCell ⟨w3.heap.size, 0, none⟩ (.bool true))) (w9.setCell ⟨w3.heap.size, 0, none⟩ (.bool true)) (s.size + 1) t x) :=
      htr.keep (fun b hb' => Below.heap_setCell _ _ _ _ (by show b ≠ w3.heap.size; have := hb'.1; omega)) (fun b hb' => ⟨by have := hb'.1; omega, by simpa using hb'.2⟩)
    clear htr hb9
    generalize w9.setCell ⟨w3.heap.size, 0, none⟩ (.bool true) = w1 at HB1 HT1 ⊢
    obtain ⟨ty, xx, rfl⟩ := HT1.out.iface
    go_wp2_with fail
    refine bodyPost_ret (v := .tuple #[.iface ty xx, .bool true]) (by simp [results, Tryz.results25, go_sem]) rfl ?_
    exact ⟨.inl ⟨t, q, _, HAJ.out, rfl, HT1.out⟩, HB1.out⟩
/-- A function from a text to nodes, and whether it says any. -/
def Reads (F : FuncId) (s : ByteArray) (V : Option (List VN × Nat)) : Prop :=
  ∀ w, Calls Tryz.prog F #[.string s] w fun e w' => ∃ r base KV IV, e = .returned (.tuple #[r, .bool V.isSome]) ∧ w.heap.size ≤ base ∧ base ≤ w'.heap.size ∧ Nest base w' r (nsOf V) KV IV ∧ Below w.heap.size w w'
def jsonF (s : ByteArray) : Option (List VN × Nat) := frontV s.data.toList (allJ s.data.toList)

set_option maxRecDepth 100000 in
set_option maxHeartbeats 3200000 in
theorem implReadJson_any (s : ByteArray) (hs : s.size ≤ 9223372036854775807) : Reads 11 s (jsonF s) := by
  intro w
  have hlen := len_is s
  by_cases hbig : 4000 < s.size
  · have hbig' : (4000 : Int) < (s.size : Int) := by omega
    have HV : Hid (jsonF s = none) := by rw [Hid]; unfold jsonF frontV; rw [if_pos (by omega)]
    rw [HV.out]
    go_enter Tryz.func11, Tryz.ntmps11
    go_wp2_with fail
    refine bodyPost_ret (v := .tuple #[.slice none 0 0, .bool false]) (by simp [results, Tryz.results11, go_sem]) rfl ?_
    exact ⟨.slice none 0 0, w.heap.size, fun _ => undef, fun _ => undef, rfl, Nat.le_refl _, Nat.le_refl _, Nest.nil _ _ _ _, Below.refl _ _⟩
  have hbig' : ¬ (4000 : Int) < (s.size : Int) := by omega
  have HFV : Hid (jsonF s = okOf (s.size + 1) (allJ s.data.toList)) := by rw [Hid]; unfold jsonF frontV; rw [if_neg (by omega), hlen]
  rw [HFV.out]
  have HC := hideIt (readJsonValue_any s (by omega) w)
  have HLEN := hideIt hlen
  clear hlen
  cases hr : allJ s.data.toList with
  | none =>
    have HO : Hid (okOf (s.size + 1) (none : Option (VT × Nat)) = none) := rfl
    rw [HO.out]
    rw [hr] at HC
    clear hr
    go_enter Tryz.func11, Tryz.ntmps11
    go_wp2_with fail
    refine HC.out.mono ?_
    rintro e w1 ⟨⟨t, q, x, h1, _⟩ | ⟨_, rfl⟩, hb1⟩
    · cases h1
    have HB1 := hideIt hb1
    clear hb1
    go_wp2_with fail
    refine bodyPost_ret (v := .tuple #[.slice none 0 0, .bool false]) (by simp [results, Tryz.results11, go_sem]) rfl ?_
    exact ⟨.slice none 0 0, w.heap.size, fun _ => undef, fun _ => undef, rfl, Nat.le_refl _, HB1.out.size, Nest.nil _ _ _ _, HB1.out⟩
  | some tq =>
    obtain ⟨t, q⟩ := tq
    obtain ⟨_, hq2, hq3, hq4, _⟩ := rdJ_ok s.data.toList (by rw [HLEN.out]; omega) _ 0 t q (allJ_of hr)
    rw [HLEN.out] at hq2 hq3 hq4
    have hnn : (layT (s.size + 1) t 0).length ≤ 4000 := by omega
    have HFT := hideIt (fits_lay hq4 0 (by omega))
    rw [hr] at HC
    obtain ⟨ns, hns⟩ : ∃ ns, layT (s.size + 1) t 0 = ns := ⟨_, rfl⟩
    obtain ⟨V, hV⟩ : ∃ V, okOf (s.size + 1) (some (t, q)) = V := ⟨_, rfl⟩
    have HO : Hid (V = if okB ns = true then some (ns, q) else none) := by rw [Hid, ← hV, ← hns]; rfl
    rw [hV]
    rw [hns] at hnn HFT
    have HNS := hideIt hns
    clear hq2 hq3 hq4 hns hr hV
    go_enter Tryz.func11, Tryz.ntmps11
    go_wp2_with fail
    refine HC.out.mono ?_
    rintro e w1 ⟨⟨t', q', x, h1, rfl, htr⟩ | ⟨h1, _⟩, hb1⟩
    rotate_left
    · cases h1
    simp only [Option.some.injEq, Prod.mk.injEq] at h1
    obtain ⟨rfl, rfl⟩ := h1
    obtain ⟨ty, xx, rfl⟩ := htr.iface
    have HB1 := hideIt hb1
    have z1 := hb1.size
    have HT1 : Hid (TreeAt w1.heap.size w1 (s.size + 1) t (.iface ty xx)) := htr.at (fun b hb' => hb'.2)
    have HRN := hideIt (rightNodes_any (s.size + 1) t _ ns w1 HT1.out HNS.out (by omega) HFT.out)
    clear htr hb1
    go_wp2_with fail
    refine HRN.out.mono ?_
    rintro e w2 ⟨r, base, KV, IV, rfl, hb1, hb2, hn2, hbl2⟩
    have HB2 := hideIt (HB1.out.trans (hbl2.mono z1))
    have HN2 := hideIt hn2
    have HBB : Hid (w.heap.size ≤ base ∧ base ≤ w2.heap.size) := ⟨Nat.le_trans z1 hb1, hb2⟩
    obtain ⟨ar, cr, er⟩ := own_slice hn2.row
    obtain ⟨M, hM⟩ : ∃ M, (rightNs ns).length = M := ⟨_, rfl⟩
    rw [hM] at er
    subst er
    have HR : Hid (rightNs ns = nsOf V ∧ okB ns = V.isSome) := by
      rw [Hid, HO.out]
      unfold rightNs
      cases okB ns <;> exact ⟨rfl, rfl⟩
    clear hn2 hbl2 hM hb1 hb2
    obtain ⟨b, hb⟩ : ∃ b, okB ns = b := ⟨_, rfl⟩
    have HBV : Hid (b = V.isSome) := by rw [Hid, ← hb]; exact HR.out.2
    rw [hb]
    clear hb
    go_wp2_with fail
    refine bodyPost_ret (v := .tuple #[.slice ar M cr, .bool b]) (by simp [results, Tryz.results11, go_sem]) rfl ?_
    exact ⟨.slice ar M cr, base, KV, IV, by rw [HBV.out], HBB.out.1, HBB.out.2, by rw [← HR.out.1]; exact HN2.out, HB2.out⟩
end Go.Proofs.YtagcgnhpdmhegaaGreatDoor

/-
  Plain: the tree of right nodes is good; the nodes that are laid for a tree, and its tree again.
-/
namespace Go.Proofs.YtagcgnhpdmhegaaGreatDoor
open Go.RowKit
set_option linter.unusedSimpArgs false
set_option linter.unusedVariables false

theorem good_tree {vs : List VN} (hok : okB vs = true) : ∀ f i, i < vs.length → i < f → goodT f (treeOf vs f i) := by
  intro f
  induction f with
  | zero => intro i _ h; omega
  | succ f ih =>
    intro i hi hf
    obtain ⟨_, p2, _, _⟩ := okB_parts hok
    rw [treeOf]
    refine ⟨?_, fun j hj => ?_⟩
    · have := (p2 i hi).1
      rw [nodeT_eq] at this
      rw [List.length_map]
      exact this
    · rw [List.length_map] at hj
      have hki := kidsIn_get (p2 i hi).2 hj
      rw [kidT_map hj]
      exact ih _ (by omega) (by omega)
theorem whole_len {vs : List VN} (hok : okB vs = true) : (layT vs.length (treeOf vs vs.length (vs.length - 1)) 0).length = vs.length := by
  obtain ⟨p1, _⟩ := okB_parts hok
  obtain ⟨h, htr⟩ := root_first hok
  rw [← lay_tree, lay_run vs vs.length (vs.length - 1) 0 0 h (by omega) htr]
  unfold run
  rw [List.length_map, List.length_range']
  omega
theorem whole_lay {vs : List VN} (hok : okB vs = true) : layT vs.length (treeOf vs vs.length (vs.length - 1)) 0 = vs := by
  obtain ⟨p1, _⟩ := okB_parts hok
  obtain ⟨h, htr⟩ := root_first hok
  rw [← lay_tree, lay_run vs vs.length (vs.length - 1) 0 0 h (by omega) htr]
  rw [show vs.length - 1 + 1 - 0 = vs.length by omega, show (((0 : Nat) : Int) - ((0 : Nat) : Int)) = 0 by omega, run_all]
  have : (shiftN 0) = id := by funext x; exact shift_zero x
  rw [this, List.map_id]
end Go.Proofs.YtagcgnhpdmhegaaGreatDoor

/-
  Plain: what JSON has written of a right value is read again.
-/
namespace Go.Proofs.YtagcgnhpdmhegaaGreatDoor
open Go.RowKit
set_option linter.unusedSimpArgs false
set_option linter.unusedVariables false

theorem json_front {ns : List VN} {lines : Bool} (hok : okB ns = true) {s : ByteArray} (hs : s.size ≤ 4000) (he : s.data.toList = jsonV lines ns) : jsonF s = some (ns, s.size) := by
  have hl := len_is s
  rw [jsonV_yes hok] at he
  obtain ⟨p1, _⟩ := okB_parts hok
  have hg := good_tree hok ns.length (ns.length - 1) (by omega) (by omega)
  obtain ⟨T, hT⟩ : ∃ T, jsonT lines ns.length 0 (treeOf ns ns.length (ns.length - 1)) = T := ⟨_, rfl⟩
  rw [hT] at he
  have hsit0 : Sit s.data.toList 0 (T ++ (if lines = true then [10] else [])) := ⟨Nat.zero_le _, [], by rw [List.drop_zero, he, List.append_nil]⟩
  have hsit : Sit s.data.toList 0 (jsonT lines ns.length 0 (treeOf ns ns.length (ns.length - 1))) := by rw [hT]; exact hsit0.left
  have hlen : T.length + (if lines = true then [10] else ([] : List UInt8)).length = s.size := by rw [← hl, he, List.length_append]
  have hnd : NoDig s.data.toList (0 + (jsonT lines ns.length 0 (treeOf ns ns.length (ns.length - 1))).length) := by
    rw [hT, Nat.zero_add]
    cases lines
    · intro e; have := e.1; simp at hlen; omega
    · have h1 := hsit0.right
      rw [Nat.zero_add] at h1
      have h2 := Sit.one (x := 10) (B := []) h1
      exact nodig_of (by rw [h2.2]; rfl)
  have hsk : skipJ s.data.toList (0 + (jsonT lines ns.length 0 (treeOf ns ns.length (ns.length - 1))).length) = s.size := by
    rw [hT, Nat.zero_add]
    cases lines
    · simp at hlen
      rw [hlen]
      exact runJ_past (by omega)
    · have h1 := hsit0.right
      rw [Nat.zero_add] at h1
      have h2 := skip_blank (L := s.data.toList) (B := [10]) (p := T.length) (fun j x hx => by cases j with | zero => simp at hx; subst hx; rfl | succ j => simp at hx) h1 (fun e => by have := e.1; simp at hlen this; omega)
      rw [h2]
      simpa using hlen
  have h1 := (read_json (L := s.data.toList) lines ns.length ns.length 0 _ (Nat.le_refl _) hg 0 hsit).2 hnd
  obtain ⟨_, _, h4, _⟩ := rdJ_ok s.data.toList (by omega) ns.length 0 _ _ h1
  rw [whole_len hok] at h4
  have h3 := (read_json (L := s.data.toList) lines ns.length (s.size + 1) 0 _ (by omega) hg 0 hsit).2 hnd
  rw [hsk] at h3
  have h6 : layT (s.size + 1) (treeOf ns ns.length (ns.length - 1)) 0 = ns := by rw [layT_more hg.full (by omega), whole_lay hok]
  have h7 : allJ s.data.toList = some (treeOf ns ns.length (ns.length - 1), s.size) := allJ_yes (by rw [hl]; exact h3) (by omega)
  unfold jsonF frontV
  rw [if_neg (by omega), h7, hl]
  unfold okOf
  dsimp only
  rw [h6, if_pos hok]
end Go.Proofs.YtagcgnhpdmhegaaGreatDoor

/-
  Plain: trees changed at the end of a path: a part taken or laid there, the rest as it was.
-/
namespace Go.Proofs.YtagcgnhpdmhegaaGreatDoor
open Go.RowKit
set_option linter.unusedSimpArgs false
set_option linter.unusedVariables false

/-! ### How many nodes, how deep -/
theorem cat_sumT (f : Nat) (kids : List VT) : ∀ k, k ≤ kids.length → (catNs (fun i => layT f (kidT kids i) 0) k).length = ((kids.take k).map fun t => (layT f t 0).length).sum := by
  intro k
  induction k with
  | zero => intro _; rfl
  | succ k ih =>
    intro hk
    rw [catNs_len, ih (by omega), take_kid (by omega), List.map_append, List.sum_append]
    simp
theorem lay_sum (f : Nat) (kind n : Int) (s : ByteArray) (keys : List ByteArray) (kids : List VT) : (layT (f + 1) (.mk kind n s keys kids) 0).length = (kids.map fun t => (layT f t 0).length).sum + 1 := by
  rw [layT_eq, (acc_cat f kids _ (Nat.le_refl _)).1, List.length_append, cat_sumT f kids _ (Nat.le_refl _), List.take_length]
  rfl
end Go.Proofs.YtagcgnhpdmhegaaGreatDoor
