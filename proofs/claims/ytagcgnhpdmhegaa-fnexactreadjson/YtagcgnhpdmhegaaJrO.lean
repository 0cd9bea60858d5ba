/-
  The program's ReadJson.
-/
import Derived.Test.YtagcgnhpdmhegaaRdFr
import Derived.Test.YtagcgnhpdmhegaaJrF
namespace Go.Proofs.Ytagcgnhpdmhegaa
open Go.RowKit
set_option linter.unusedSimpArgs false
set_option linter.unusedVariables false

/-- The value that the whole text says. -/
def allJ (L : List UInt8) : Option (VT × Nat) := match rdJ L (L.length + 1) 0 with
  | none => none
  | some (t, q) => if q < L.length then none else some (t, q)
theorem allJ_no {L : List UInt8} (h : rdJ L (L.length + 1) 0 = none) : allJ L = none := by unfold allJ; rw [h]
theorem allJ_short {L : List UInt8} {t : VT} {q : Nat} (h : rdJ L (L.length + 1) 0 = some (t, q)) (hq : q < L.length) : allJ L = none := by unfold allJ; rw [h]; dsimp only; rw [if_pos hq]
theorem allJ_yes {L : List UInt8} {t : VT} {q : Nat} (h : rdJ L (L.length + 1) 0 = some (t, q)) (hq : ¬ q < L.length) : allJ L = some (t, q) := by unfold allJ; rw [h]; dsimp only; rw [if_neg hq]
theorem allJ_of {L : List UInt8} {t : VT} {q : Nat} (h : allJ L = some (t, q)) : rdJ L (L.length + 1) 0 = some (t, q) := by
  unfold allJ at h
  cases e : rdJ L (L.length + 1) 0 with
  | none => simp [e] at h
  | some x =>
    obtain ⟨t', q'⟩ := x
    simp only [e] at h
    split at h
    · cases h
    · exact h

set_option maxRecDepth 100000 in
set_option maxHeartbeats 1600000 in
theorem unlessC_yes (G : FuncId) (a b : Value) (w : World) (Z : Value → World → Prop) (hcf : ∀ w, (callFunc G #[a, b]).run Try.prog w = .ok (.enter G #[a, b]) w)
    (hc : Calls Try.prog G #[a, b] (w.alloc (.cells #[.bool false] 4)) fun e w' => ∃ v, e = .returned v ∧ Z v w')
    (hZ : ∀ v w', Z v w' → w'.cell? ⟨w.heap.size, 0, none⟩ = some (.bool false) ∧ w'.frozen? ⟨w.heap.size, 0, none⟩ = false) :
    Calls Try.prog 31 #[.func (.func G) #[] #[a, b]] w fun e w' => ∃ v, e = .returned (.tuple #[v, .bool true]) ∧ ∃ w1, Z v w1 ∧ w' = w1.setCell ⟨w.heap.size, 0, none⟩ (.bool true) := by
  have hmf : ∀ (fn : Fn) (first cap : Array Value) (w : World), (Instr.makeFunc fn first cap).run Try.prog w = .ok (.func fn first cap) w := fun _ _ _ _ => rfl
  go_enter_defers Try.func31, Try.ntmps31
  go_wp2_with fail
  refine hc.mono ?_
  rintro e w1 ⟨v, rfl, hz⟩
  obtain ⟨c1, f1⟩ := hZ v w1 hz
  go_wp2_with fail
  refine leaves_cons (f := 44) (args := #[.pointer (some ⟨w.heap.size, 0, none⟩)]) (by simp) (by simp [go_sem]) ?_
  refine (catchV_idle ⟨w.heap.size, 0, none⟩ _).mono ?_
  rintro e u' w'' ⟨rfl, rfl, rfl⟩
  have c2 : (w1.setCell ⟨w.heap.size, 0, none⟩ (.bool true)).cell? ⟨w.heap.size, 0, none⟩ = some (.bool true) := World.cell?_setCell_same _ _ _ c1
  simp [Leaves, settle, results, Try.results31, go_sem, c2]
  exact ⟨w1, hz, rfl⟩

set_option maxRecDepth 100000 in
set_option maxHeartbeats 1600000 in
theorem unlessC_no (G : FuncId) (a b : Value) (w : World) (Z : World → Prop) (hcf : ∀ w, (callFunc G #[a, b]).run Try.prog w = .ok (.enter G #[a, b]) w)
    (hc : Calls Try.prog G #[a, b] (w.alloc (.cells #[.bool false] 4)) fun e w' => e = gup ∧ Z w')
    (hZ : ∀ w', Z w' → w'.cell? ⟨w.heap.size, 0, none⟩ = some (.bool false) ∧ w'.frozen? ⟨w.heap.size, 0, none⟩ = false) :
    Calls Try.prog 31 #[.func (.func G) #[] #[a, b]] w fun e w' => e = .returned (.tuple #[.nilIface, .bool false]) ∧ ∃ w1, Z w1 ∧ w' = w1.setCell ⟨w.heap.size, 0, none⟩ (.bool false) := by
  have hmf : ∀ (fn : Fn) (first cap : Array Value) (w : World), (Instr.makeFunc fn first cap).run Try.prog w = .ok (.func fn first cap) w := fun _ _ _ _ => rfl
  go_enter_defers Try.func31, Try.ntmps31
  go_wp2_with fail
  refine hc.mono ?_
  rintro e w1 ⟨rfl, hz⟩
  obtain ⟨c1, f1⟩ := hZ w1 hz
  unfold gup
  go_wp2_with fail
  refine leaves_cons (f := 44) (args := #[.pointer (some ⟨w.heap.size, 0, none⟩)]) (by simp) (by simp [go_sem]) ?_
  refine (catchV_gave ⟨w.heap.size, 0, none⟩ false _ c1 f1).mono ?_
  rintro e u' w'' ⟨rfl, rfl, rfl⟩
  have c2 : (w1.setCell ⟨w.heap.size, 0, none⟩ (.bool false)).cell? ⟨w.heap.size, 0, none⟩ = some (.bool false) := World.cell?_setCell_same _ _ _ c1
  simp [Leaves, settle, results, Try.results31, go_sem, c2]
  exact ⟨w1, hz, rfl⟩

set_option maxRecDepth 100000 in
set_option maxHeartbeats 3200000 in
theorem closure_json {rb sb : Nat} {s : ByteArray} {w : World} (h : SrAt w rb s 0) (hc : w.cell? ⟨sb, 0, none⟩ = some (.string s)) (hl : sb < w.heap.size) (hne : sb ≠ rb) (hs : s.size ≤ 4000) :
    Calls Try.prog 32 #[.pointer (some ⟨rb, 0, none⟩), .pointer (some ⟨sb, 0, none⟩)] w fun e w' => ((∃ t q x, allJ s.data.toList = some (t, q) ∧ e = .returned x ∧ TreeP (NewB w w') w' (s.size + 1) t x) ∨ (allJ s.data.toList = none ∧ e = gup)) ∧ But rb w w' := by
  have HLN := hideB (len_is s)
  have HC := hideIt (around_any hs (s.size + 1) 0 w h (by omega))
  have HSC : Hid (∀ w', But rb w w' → w'.cell? ⟨sb, 0, none⟩ = some (.string s)) := fun w' hb => (cellOf (hb.block sb hl hne)).trans hc
  clear h hc
  go_enter Try.func32, Try.ntmps32
  go_wp2_with fail
  refine HC.out.mono ?_
  rintro e w1 ⟨⟨t, q, x, hr, rfl, htr, hs1, _⟩ | ⟨hr, rfl⟩, hb1⟩
  · obtain ⟨ty, xx, rfl⟩ := htr.iface
    have HR : Hid (rdJ s.data.toList (s.data.toList.length + 1) 0 = some (t, q)) := by rw [Hid, HLN.out]; exact hr
    have HT := hideIt htr
    have HB1 := hideIt hb1
    have k1 := hs1.br.place
    have k2 := HSC.out w1 hb1
    clear hr htr hs1 hb1
    by_cases hq : q < s.size
    · have hq' : (q : Int) < (s.size : Int) := by omega
      have HN : Hid (allJ s.data.toList = none) := allJ_short HR.out (by rw [HLN.out]; exact hq)
      go_wp2_with fail
      exact ⟨rfl, .inr ⟨HN.out, rfl⟩, HB1.out⟩
    · have hq' : ¬ (q : Int) < (s.size : Int) := by omega
      have HY := hideIt (allJ_yes HR.out (by rw [HLN.out]; exact hq))
      go_wp2_with fail
      go_ret
      exact ⟨.inl ⟨t, q, _, HY.out, rfl, HT.out⟩, HB1.out⟩
  · have HN : Hid (allJ s.data.toList = none) := allJ_no (by rw [HLN.out]; exact hr)
    have HB1 := hideIt hb1
    clear hr hb1
    unfold gup
    go_wp2_with fail
    exact ⟨rfl, .inr ⟨HN.out, rfl⟩, HB1.out⟩
theorem call_cjson (a b : Value) (w : World) : (callFunc 32 #[a, b]).run Try.prog w = .ok (.enter 32 #[a, b]) w := by kernel_rfl

set_option maxRecDepth 100000 in
set_option maxHeartbeats 1600000 in
theorem newSign_any (s b : ByteArray) (w : World) : Calls Try.prog 30 #[.string s, .string b] w fun e w' => e = .returned (.agg #[.string s, .int .i64 0, .string b]) ∧ Below w.heap.size w w' := by
  go_enter Try.func30, Try.ntmps30
  go_wp2_with fail
  refine bodyPost_ret (v := .agg #[.string s, .int .i64 0, .string b]) (by simp [results, Try.results30, go_sem]) rfl ?_
  exact ⟨rfl, (Below.refl _ _).alloc (Nat.le_refl _) _⟩

set_option maxRecDepth 100000 in
set_option maxHeartbeats 1600000 in
theorem readJsonValue_any (s : ByteArray) (hs : s.size ≤ 4000) (w : World) :
    Calls Try.prog 11 #[.string s] w fun e w' => ((∃ t q x, allJ s.data.toList = some (t, q) ∧ e = .returned (.tuple #[x, .bool true]) ∧ TreeP (NewB w w') w' (s.size + 1) t x) ∨ (allJ s.data.toList = none ∧ e = .returned (.tuple #[.nilIface, .bool false]))) ∧ Below w.heap.size w w' := by
  have hmf : ∀ (fn : Fn) (first cap : Array Value) (w : World), (Instr.makeFunc fn first cap).run Try.prog w = .ok (.func fn first cap) w := fun _ _ _ _ => rfl
  have HBA : Hid (Below w.heap.size w (w.alloc (.cells #[.string s] 9))) := (Below.refl _ _).alloc (Nat.le_refl _) _
  have HNS := hideB (newSign_any s ⟨#[9, 10, 13, 32]⟩ (w.alloc (.cells #[.string s] 9)))
  go_enter Try.func11, Try.ntmps11
  go_wp2_with fail
  refine HNS.out.mono ?_
  rintro e w2 ⟨rfl, hb2⟩
  have HB2 := hideB hb2
  clear hb2
  obtain ⟨w3, hw3⟩ : ∃ w3, w2.alloc (.cells #[.string s, .int .i64 0, .string ⟨#[9, 10, 13, 32]⟩] 61) = w3 := ⟨_, rfl⟩
  have hz1 : (w.alloc (.cells #[.string s] 9)).heap.size = w.heap.size + 1 := by simp
  have hz2 : w.heap.size + 1 ≤ w2.heap.size := by rw [← hz1]; exact HB2.out.size
  have hz3 : w3.heap.size = w2.heap.size + 1 := by rw [← hw3]; simp
  have HB3 : Hid (Below w2.heap.size w2 w3) := by rw [Hid, ← hw3]; exact (Below.refl _ _).alloc (Nat.le_refl _) _
  have HBW : Hid (Below w.heap.size w w3) := (HBA.out.trans (HB2.out.mono (by rw [hz1]; omega))).trans (HB3.out.mono (by omega))
  have HCS : Hid (w3.cell? ⟨w.heap.size, 0, none⟩ = some (.string s)) := by
    have h1 : w2.heap[w.heap.size]? = some (.cells #[.string s] 9) := (HB2.out.block w.heap.size (by rw [hz1]; omega)).trans (heap_alloc_new w _)
    have h2 : w3.heap[w.heap.size]? = some (.cells #[.string s] 9) := (HB3.out.block w.heap.size (by omega)).trans h1
    rw [Hid, Lib.cell_of_heap h2]
    rfl
  have HSR : Hid (SrAt w3 w2.heap.size s 0) := by rw [Hid, ← hw3]; exact ⟨⟨by simp, by simp, by simp, by simp, Nat.zero_le _⟩, by simp⟩
  have HB4 : Hid (Below w3.heap.size w3 (w3.alloc (.cells #[.bool false] 4))) := (Below.refl _ _).alloc (Nat.le_refl _) _
  have hz4 : (w3.alloc (.cells #[.bool false] 4)).heap.size = w3.heap.size + 1 := by simp
  have HC := hideIt (closure_json (HSR.out.below HB4.out) ((cellOf (HB4.out.block w.heap.size (by omega))).trans HCS.out) (by rw [hz4]; omega) (show w.heap.size ≠ w2.heap.size by omega) hs)
  have HKEEP : Hid (∀ w', But w2.heap.size (w3.alloc (.cells #[.bool false] 4)) w' → w'.cell? ⟨w3.heap.size, 0, none⟩ = some (.bool false) ∧ w'.frozen? ⟨w3.heap.size, 0, none⟩ = false) := fun w' hb => by
    have hh := (hb.block w3.heap.size (by rw [hz4]; omega) (by omega)).trans (heap_alloc_new w3 (.cells #[.bool false] 4))
    exact ⟨by rw [Lib.cell_of_heap hh]; rfl, Lib.frozen_of_heap hh 0⟩
  have HFIN : Hid (∀ w9 b, But w2.heap.size (w3.alloc (.cells #[.bool false] 4)) w9 → Below w.heap.size w (w9.setCell ⟨w3.heap.size, 0, none⟩ (.bool b))) := fun w9 b hb => by
    have h1 : Below w.heap.size w w9 := (HBW.out.trans (HB4.out.mono (by omega))).trans ((hb.below (by omega)).mono (by omega))
    exact ⟨h1.os, h1.tape, h1.output, by simpa using h1.size, fun c hc => (Below.heap_setCell _ _ _ _ (by show c ≠ w3.heap.size; omega)).trans (h1.block c hc)⟩
  cases ha : allJ s.data.toList with
  | none =>
    rw [ha] at HC
    have hcn : Calls Try.prog 32 #[.pointer (some ⟨w2.heap.size, 0, none⟩), .pointer (some ⟨w.heap.size, 0, none⟩)] (w3.alloc (.cells #[.bool false] 4)) fun e w' => e = gup ∧ But w2.heap.size (w3.alloc (.cells #[.bool false] 4)) w' := HC.out.mono (by
      rintro e w' ⟨⟨t, q, x, h1, _⟩ | ⟨_, h2⟩, h3⟩
      · cases h1
      · exact ⟨h2, h3⟩)
    have HU := hideIt (unlessC_no 32 _ _ w3 _ (call_cjson _ _) hcn HKEEP.out)
    have HAJ := hideIt ha
    clear hcn HC ha
    go_wp2_with fail
    refine HU.out.mono ?_
    rintro e w1 ⟨rfl, w9, hb9, rfl⟩
    have HB1 := hideIt (HFIN.out w9 false hb9)
    clear hb9
    generalize w9.setCell ⟨w3.heap.size, 0, none⟩ (.bool false) = w1 at HB1 ⊢
    go_wp2_with fail
    refine bodyPost_ret (v := .tuple #[.nilIface, .bool false]) (by simp [results, Try.results11, go_sem]) rfl ?_
    exact ⟨.inr ⟨HAJ.out, rfl⟩, HB1.out⟩
  | some tq =>
    obtain ⟨t, q⟩ := tq
    rw [ha] at HC
    have hcy : Calls Try.prog 32 #[.pointer (some ⟨w2.heap.size, 0, none⟩), .pointer (some ⟨w.heap.size, 0, none⟩)] (w3.alloc (.cells #[.bool false] 4)) fun e w' => ∃ x, e = .returned x ∧ TreeP (NewB (w3.alloc (.cells #[.bool false] 4)) w') w' (s.size + 1) t x ∧ But w2.heap.size (w3.alloc (.cells #[.bool false] 4)) w' := HC.out.mono (by
      rintro e w' ⟨⟨t', q', x, h1, h2, h3⟩ | ⟨h1, _⟩, h5⟩
      · simp only [Option.some.injEq, Prod.mk.injEq] at h1
        obtain ⟨rfl, rfl⟩ := h1
        exact ⟨x, h2, h3, h5⟩
      · cases h1)
    have HU := hideIt (unlessC_yes 32 _ _ w3 (fun x w' => TreeP (NewB (w3.alloc (.cells #[.bool false] 4)) w') w' (s.size + 1) t x ∧ But w2.heap.size (w3.alloc (.cells #[.bool false] 4)) w') (call_cjson _ _) hcy (fun x w' hz => HKEEP.out w' hz.2))
    have HAJ := hideIt ha
    clear hcy HC ha
    go_wp2_with fail
    refine HU.out.mono ?_
    rintro e w1 ⟨x, rfl, w9, ⟨htr, hb9⟩, rfl⟩
    have HB1 := hideIt (HFIN.out w9 true hb9)
    have HT1 : Hid (TreeP (NewB w (w9.setCell ⟨w3.heap.size, 0, none⟩ (.bool true))) (w9.setCell ⟨w3.heap.size, 0, none⟩ (.bool true)) (s.size + 1) t x) :=
      htr.keep (fun b hb' => Below.heap_setCell _ _ _ _ (by show b ≠ w3.heap.size; have := hb'.1; omega)) (fun b hb' => ⟨by have := hb'.1; omega, by simpa using hb'.2⟩)
    clear htr hb9
    generalize w9.setCell ⟨w3.heap.size, 0, none⟩ (.bool true) = w1 at HB1 HT1 ⊢
    obtain ⟨ty, xx, rfl⟩ := HT1.out.iface
    go_wp2_with fail
    refine bodyPost_ret (v := .tuple #[.iface ty xx, .bool true]) (by simp [results, Try.results11, go_sem]) rfl ?_
    exact ⟨.inl ⟨t, q, _, HAJ.out, rfl, HT1.out⟩, HB1.out⟩
/-- A function from a text to nodes, and whether it says any. -/
def Reads (F : FuncId) (s : ByteArray) (V : Option (List VN × Nat)) : Prop :=
  ∀ w, Calls Try.prog F #[.string s] w fun e w' => ∃ r base KV IV, e = .returned (.tuple #[r, .bool V.isSome]) ∧ w.heap.size ≤ base ∧ base ≤ w'.heap.size ∧ Nest base w' r (nsOf V) KV IV ∧ Below w.heap.size w w'
def jsonF (s : ByteArray) : Option (List VN × Nat) := frontV s.data.toList (allJ s.data.toList)

set_option maxRecDepth 100000 in
set_option maxHeartbeats 3200000 in
theorem implReadJson_any (s : ByteArray) (hs : s.size ≤ 9223372036854775807) : Reads 5 s (jsonF s) := by
  intro w
  have hlen := len_is s
  by_cases hbig : 4000 < s.size
  · have hbig' : (4000 : Int) < (s.size : Int) := by omega
    have HV : Hid (jsonF s = none) := by rw [Hid]; unfold jsonF frontV; rw [if_pos (by omega)]
    rw [HV.out]
    go_enter Try.func5, Try.ntmps5
    go_wp2_with fail
    refine bodyPost_ret (v := .tuple #[.slice none 0 0, .bool false]) (by simp [results, Try.results5, go_sem]) rfl ?_
    exact ⟨.slice none 0 0, w.heap.size, fun _ => undef, fun _ => undef, rfl, Nat.le_refl _, Nat.le_refl _, Nest.nil _ _ _ _, Below.refl _ _⟩
  have hbig' : ¬ (4000 : Int) < (s.size : Int) := by omega
  have HFV : Hid (jsonF s = okOf (s.size + 1) (allJ s.data.toList)) := by rw [Hid]; unfold jsonF frontV; rw [if_neg (by omega), hlen]
  rw [HFV.out]
  have HC := hideIt (readJsonValue_any s (by omega) w)
  have HLEN := hideIt hlen
  clear hlen
  cases hr : allJ s.data.toList with
  | none =>
    have HO : Hid (okOf (s.size + 1) (none : Option (VT × Nat)) = none) := rfl
    rw [HO.out]
    rw [hr] at HC
    clear hr
    go_enter Try.func5, Try.ntmps5
    go_wp2_with fail
    refine HC.out.mono ?_
    rintro e w1 ⟨⟨t, q, x, h1, _⟩ | ⟨_, rfl⟩, hb1⟩
    · cases h1
    have HB1 := hideIt hb1
    clear hb1
    go_wp2_with fail
    refine bodyPost_ret (v := .tuple #[.slice none 0 0, .bool false]) (by simp [results, Try.results5, go_sem]) rfl ?_
    exact ⟨.slice none 0 0, w.heap.size, fun _ => undef, fun _ => undef, rfl, Nat.le_refl _, HB1.out.size, Nest.nil _ _ _ _, HB1.out⟩
  | some tq =>
    obtain ⟨t, q⟩ := tq
    obtain ⟨_, hq2, hq3, hq4, _⟩ := rdJ_ok s.data.toList (by rw [HLEN.out]; omega) _ 0 t q (allJ_of hr)
    rw [HLEN.out] at hq2 hq3 hq4
    have hnn : (layT (s.size + 1) t 0).length ≤ 4000 := by omega
    have HFT := hideIt (fits_lay hq4 0 (by omega))
    rw [hr] at HC
    obtain ⟨ns, hns⟩ : ∃ ns, layT (s.size + 1) t 0 = ns := ⟨_, rfl⟩
    obtain ⟨V, hV⟩ : ∃ V, okOf (s.size + 1) (some (t, q)) = V := ⟨_, rfl⟩
    have HO : Hid (V = if okB ns = true then some (ns, q) else none) := by rw [Hid, ← hV, ← hns]; rfl
    rw [hV]
    rw [hns] at hnn HFT
    have HNS := hideIt hns
    clear hq2 hq3 hq4 hns hr hV
    go_enter Try.func5, Try.ntmps5
    go_wp2_with fail
    refine HC.out.mono ?_
    rintro e w1 ⟨⟨t', q', x, h1, rfl, htr⟩ | ⟨h1, _⟩, hb1⟩
    rotate_left
    · cases h1
    simp only [Option.some.injEq, Prod.mk.injEq] at h1
    obtain ⟨rfl, rfl⟩ := h1
    obtain ⟨ty, xx, rfl⟩ := htr.iface
    have HB1 := hideIt hb1
    have z1 := hb1.size
    have HT1 : Hid (TreeAt w1.heap.size w1 (s.size + 1) t (.iface ty xx)) := htr.at (fun b hb' => hb'.2)
    have HRN := hideIt (rightNodes_any (s.size + 1) t _ ns w1 HT1.out HNS.out (by omega) HFT.out)
    clear htr hb1
    go_wp2_with fail
    refine HRN.out.mono ?_
    rintro e w2 ⟨r, base, KV, IV, rfl, hb1, hb2, hn2, hbl2⟩
    have HB2 := hideIt (HB1.out.trans (hbl2.mono z1))
    have HN2 := hideIt hn2
    have HBB : Hid (w.heap.size ≤ base ∧ base ≤ w2.heap.size) := ⟨Nat.le_trans z1 hb1, hb2⟩
    obtain ⟨ar, cr, er⟩ := own_slice hn2.row
    obtain ⟨M, hM⟩ : ∃ M, (rightNs ns).length = M := ⟨_, rfl⟩
    rw [hM] at er
    subst er
    have HR : Hid (rightNs ns = nsOf V ∧ okB ns = V.isSome) := by
      rw [Hid, HO.out]
      unfold rightNs
      cases okB ns <;> exact ⟨rfl, rfl⟩
    clear hn2 hbl2 hM hb1 hb2
    obtain ⟨b, hb⟩ : ∃ b, okB ns = b := ⟨_, rfl⟩
    have HBV : Hid (b = V.isSome) := by rw [Hid, ← hb]; exact HR.out.2
    rw [hb]
    clear hb
    go_wp2_with fail
    refine bodyPost_ret (v := .tuple #[.slice ar M cr, .bool b]) (by simp [results, Try.results5, go_sem]) rfl ?_
    exact ⟨.slice ar M cr, base, KV, IV, by rw [HBV.out], HBB.out.1, HBB.out.2, by rw [← HR.out.1]; exact HN2.out, HB2.out⟩
end Go.Proofs.Ytagcgnhpdmhegaa
