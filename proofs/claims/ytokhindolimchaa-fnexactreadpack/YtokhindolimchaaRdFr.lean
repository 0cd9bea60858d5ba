/-
  The program's packReader.read.
-/
import Derived.Test.YtokhindolimchaaPkL3
import Derived.Test.YtokhindolimchaaBrM
import Derived.Test.YtokhindolimchaaRdM
import Derived.Test.YtokhindolimchaaRd
import Derived.Test.YtokhindolimchaaSAdd
namespace Go.Proofs.Ytokhindolimchaa
open Go.RowKit
set_option linter.unusedSimpArgs false
set_option linter.unusedVariables false

/-- What readLong answers at whatever byte. -/
theorem plong_any {rb p f : Nat} {s : ByteArray} {w : World} (h : BrAt w rb s (p + 1)) (hs : s.size ≤ 4000) (hp : p < s.size) (hf : s.size < p + (f + 1)) (IH : GAll 38 s.data.toList (rdP s.data.toList f) f rb s) (h1 : 192 ≤ byAt s.data.toList p) (h2 : byAt s.data.toList p < 224) :
    Calls Try.prog 75 #[.pointer (some ⟨rb, 0, none⟩), .int .u8 ((byAt s.data.toList p : Nat) : Int)] w (ReadOr (rdP s.data.toList (f + 1) p) (f + 1) rb s p w) := by
  have hl : p < s.data.toList.length := by rw [len_is]; exact hp
  rcases (show byAt s.data.toList p = 192 ∨ byAt s.data.toList p = 194 ∨ byAt s.data.toList p = 195 ∨ (byAt s.data.toList p = 193 ∨ (196 ≤ byAt s.data.toList p ∧ byAt s.data.toList p < 204)) ∨ (204 ≤ byAt s.data.toList p ∧ byAt s.data.toList p < 208) ∨ (208 ≤ byAt s.data.toList p ∧ byAt s.data.toList p < 212) ∨ (212 ≤ byAt s.data.toList p ∧ byAt s.data.toList p < 217) ∨ (217 ≤ byAt s.data.toList p ∧ byAt s.data.toList p < 220) ∨ (220 ≤ byAt s.data.toList p ∧ byAt s.data.toList p < 222) ∨ (222 ≤ byAt s.data.toList p ∧ byAt s.data.toList p < 224) by omega) with c | c | c | c | c | c | c | c | c | c
  · have := plong_small (f := f) h 192 (by omega) (by omega)
    rw [rdP_null hl c, c]
    exact this
  · have := plong_small (f := f) h 194 (by omega) (by omega)
    rw [rdP_no hl c, c]
    exact this
  · have := plong_small (f := f) h 195 (by omega) (by omega)
    rw [rdP_yes hl c, c]
    exact this
  · have := plong_small (f := f) h (byAt s.data.toList p) (by omega) (by omega)
    rw [if_neg (by omega), if_neg (by omega), if_neg (by omega)] at this
    rw [rdP_bad hl c]
    exact this
  · obtain ⟨k, hk⟩ : ∃ k, byAt s.data.toList p = 204 + k := ⟨byAt s.data.toList p - 204, by omega⟩
    have := plong_wide (f := f) h hs k (by omega)
    rw [rdP_wide hl c, hk, show 204 + k - 204 = k by omega]
    exact this
  · obtain ⟨k, hk⟩ : ∃ k, byAt s.data.toList p = 208 + k := ⟨byAt s.data.toList p - 208, by omega⟩
    have := plong_sgn (f := f) h hs k (by omega)
    rw [rdP_sgn hl c, hk, show 208 + k - 208 = k by omega]
    exact this
  · have := plong_small (f := f) h (byAt s.data.toList p) (by omega) (by omega)
    rw [if_neg (by omega), if_neg (by omega), if_neg (by omega)] at this
    rw [rdP_bad2 hl c]
    exact this
  · obtain ⟨k, hk⟩ : ∃ k, byAt s.data.toList p = 217 + k := ⟨byAt s.data.toList p - 217, by omega⟩
    have := plong_text (f := f) h hs k (by omega)
    rw [rdP_long hl c, hk, show 217 + k - 217 = k by omega]
    exact this
  · obtain ⟨k, hk⟩ : ∃ k, byAt s.data.toList p = 220 + k := ⟨byAt s.data.toList p - 220, by omega⟩
    have := plong_list h hs hf IH k (by omega)
    rw [rdP_list2 hl c, hk, show 220 + k - 220 = k by omega]
    exact this
  · obtain ⟨k, hk⟩ : ∃ k, byAt s.data.toList p = 222 + k := ⟨byAt s.data.toList p - 222, by omega⟩
    have := plong_map h hs hf IH k (by omega)
    rw [rdP_map2 hl c, hk, show 222 + k - 222 = k by omega]
    exact this

set_option maxRecDepth 100000 in
set_option maxHeartbeats 6400000 in
theorem pread_any (rb : Nat) (s : ByteArray) (hs : s.size ≤ 4000) : ∀ f, GAll 38 s.data.toList (rdP s.data.toList f) f rb s := by
  intro f
  induction f with
  | zero => intro p w h hf; have := h.le; omega
  | succ f ih =>
    intro p w h hf
    have H := hideIt h
    have IH := hideIt ih
    have hle := h.le
    have hlen := len_is s
    have HLN := hideIt hlen
    have HCF := hideIt (call_pread (.pointer (some ⟨rb, 0, none⟩)))
    clear ih
    by_cases hend : p = s.size
    · subst hend
      have HN := hideIt (rdP_end (L := s.data.toList) (f := f) (p := s.size) (by omega))
      clear hlen
      go_enter Try.func38, Try.ntmps38
      go_wp2_with fail
      refine (next_no H.out (by omega)).mono ?_
      rintro e w1 ⟨rfl, _, b1⟩
      unfold gup
      go_wp2_with fail
      exact ⟨rfl, .inr ⟨HN.out, rfl, b1⟩⟩
    have hp : p < s.size := by omega
    have hpl : p < s.data.toList.length := by omega
    have HNX := hideIt (next_yes h hp (by omega))
    have hby := getB hp
    rw [← hby] at HNX
    have hb256 := byAt_lt s.data.toList p
    have HLG := hideIt (fun w (hb : BrAt w rb s (p + 1)) h1 h2 => plong_any hb hs hp hf IH.out h1 h2)
    have C0 := hideIt (rdP_num (L := s.data.toList) (f := f) hpl)
    have C1 := hideIt (rdP_map (L := s.data.toList) (f := f) hpl)
    have C2 := hideIt (rdP_list (L := s.data.toList) (f := f) hpl)
    have C3 := hideIt (rdP_word (L := s.data.toList) (f := f) hpl)
    have C4 := hideIt (rdP_neg (L := s.data.toList) (f := f) hpl)
    obtain ⟨b, hb⟩ : ∃ b, byAt s.data.toList p = b := ⟨_, rfl⟩
    rw [hb] at HNX hb256 HLG C0 C1 C2 C3 C4
    clear hby hb h hlen
    by_cases c0 : b < 128
    · have HE := hideIt (C0.out c0)
      have k0 : (b : Int) < 128 := by omega
      go_enter Try.func38, Try.ntmps38
      go_wp2_with fail
      refine HNX.out.mono ?_
      rintro e w1 ⟨rfl, h1, k1⟩
      have HH := hideIt h1
      have HK := hideIt k1
      clear h1 k1
      go_wp2_with fail
      go_ret
      exact .inl ⟨_, _, _, HE.out, rfl, (leafP f).2.2.1 b, HH.out, HK.out, by omega⟩
    have j0 : ¬ (b : Int) < 128 := by omega
    by_cases c1 : b < 144
    · have HE := hideIt (C1.out ⟨by omega, c1⟩)
      have k0 : (b : Int) < 144 := by omega
      obtain ⟨n, hn⟩ : ∃ n, b - 128 = n := ⟨_, rfl⟩
      rw [hn] at HE
      have hsub : (b : Int) - 128 = (n : Int) := by omega
      have hnb : n ≤ 16 := by omega
      clear hn
      go_enter Try.func38, Try.ntmps38
      go_wp2_with fail
      refine HNX.out.mono ?_
      rintro e w1 ⟨rfl, h1, k1⟩
      have HK := hideIt k1
      have HC := hideIt (readPairs_any 38 s.data.toList (rdP s.data.toList f) f rb s IH.out (rdP_full s.data.toList f) (fun p t q z h hz => by have := rdP_text s.data.toList f p t q z h hz; have := HLN.out; omega) HCF.out n (p + 1) w1 h1 (by omega) (by omega) hs)
      clear h1 k1
      go_wp2_with fail
      refine HC.out.mono ?_
      intro e w3 hro
      have HRO := hideIt (hro.read (p := p) HK.out (by omega))
      rcases hro with ⟨t, q', x, _, rfl, _⟩ | ⟨_, rfl, _⟩
      · go_wp2_with fail
        go_ret
        rw [HE.out]
        exact HRO.out
      · unfold gup
        go_wp2_with fail
        refine ⟨rfl, ?_⟩
        rw [HE.out]
        exact HRO.out
    have j1 : ¬ (b : Int) < 144 := by omega
    by_cases c2 : b < 160
    · have HE := hideIt (C2.out ⟨by omega, c2⟩)
      have k0 : (b : Int) < 160 := by omega
      obtain ⟨n, hn⟩ : ∃ n, b - 144 = n := ⟨_, rfl⟩
      rw [hn] at HE
      have hsub : (b : Int) - 144 = (n : Int) := by omega
      have hnb : n ≤ 16 := by omega
      clear hn
      go_enter Try.func38, Try.ntmps38
      go_wp2_with fail
      refine HNX.out.mono ?_
      rintro e w1 ⟨rfl, h1, k1⟩
      have HK := hideIt k1
      have HC := hideIt (readItems_any 38 s.data.toList (rdP s.data.toList f) f rb s IH.out HCF.out n (p + 1) w1 h1 (by omega) (by omega) hs)
      clear h1 k1
      go_wp2_with fail
      refine HC.out.mono ?_
      intro e w3 hro
      have HRO := hideIt (hro.read (p := p) HK.out (by omega))
      rcases hro with ⟨t, q', x, _, rfl, _⟩ | ⟨_, rfl, _⟩
      · go_wp2_with fail
        go_ret
        rw [HE.out]
        exact HRO.out
      · unfold gup
        go_wp2_with fail
        refine ⟨rfl, ?_⟩
        rw [HE.out]
        exact HRO.out
    have j2 : ¬ (b : Int) < 160 := by omega
    by_cases c3 : b < 192
    · have HE := hideIt (C3.out ⟨by omega, c3⟩)
      have k0 : (b : Int) < 192 := by omega
      obtain ⟨n, hn⟩ : ∃ n, b - 160 = n := ⟨_, rfl⟩
      rw [hn] at HE
      have hsub : (b : Int) - 160 = (n : Int) := by omega
      have hnb : n ≤ 32 := by omega
      clear hn
      go_enter Try.func38, Try.ntmps38
      go_wp2_with fail
      refine HNX.out.mono ?_
      rintro e w1 ⟨rfl, h1, k1⟩
      have HH := hideIt h1
      have HK := hideIt k1
      clear h1 k1
      by_cases hfit : p + 1 + n ≤ s.size
      · have HW : Hid (rdP s.data.toList (f + 1) p = some (wordT (cutT s.data.toList (p + 1) n), p + 1 + n)) := by rw [Hid, HE.out]; unfold wordI; rw [if_pos (by rw [HLN.out]; exact hfit)]
        go_wp2_with fail
        refine (take_yes HH.out hfit (by omega)).mono ?_
        rintro e w3 ⟨rfl, h3, k3⟩
        have HB3 := hideIt h3
        have HK3 := hideIt (HK.out.trans k3)
        clear h3 k3
        go_wp2_with fail
        go_ret
        exact .inl ⟨_, _, _, HW.out, rfl, (leafP f).2.2.2 _, HB3.out, HK3.out, by omega⟩
      · have HW : Hid (rdP s.data.toList (f + 1) p = none) := by rw [Hid, HE.out]; unfold wordI; rw [if_neg (by rw [HLN.out]; exact hfit)]
        go_wp2_with fail
        refine (take_no HH.out (by omega) (by omega) (by omega)).mono ?_
        rintro e w3 ⟨rfl, k3⟩
        have HK3 := hideIt (HK.out.trans k3)
        clear k3
        unfold gup
        go_wp2_with fail
        exact ⟨rfl, .inr ⟨HW.out, rfl, HK3.out⟩⟩
    have j3 : ¬ (b : Int) < 192 := by omega
    by_cases c4 : 224 ≤ b
    · have HE := hideIt (C4.out c4)
      have k0 : (224 : Int) ≤ (b : Int) := by omega
      have hi8 : IntKind.i8.wrap (b : Int) = (b : Int) - 256 := by
        unfold IntKind.wrap
        simp [IntKind.bits, IntKind.signed]
        omega
      go_enter Try.func38, Try.ntmps38
      go_wp2_with fail
      refine HNX.out.mono ?_
      rintro e w1 ⟨rfl, h1, k1⟩
      have HH := hideIt h1
      have HK := hideIt k1
      clear h1 k1
      go_wp2_with fail
      go_ret
      exact .inl ⟨_, _, _, HE.out, rfl, (leafP f).2.2.1 _, HH.out, HK.out, by omega⟩
    have j4 : ¬ (224 : Int) ≤ (b : Int) := by omega
    go_enter Try.func38, Try.ntmps38
    go_wp2_with fail
    refine HNX.out.mono ?_
    rintro e w1 ⟨rfl, h1, k1⟩
    have HK := hideIt k1
    have HC := hideIt (HLG.out w1 h1 (by omega) (by omega))
    clear h1 k1
    go_wp2_with fail
    refine HC.out.mono ?_
    intro e w3 hro
    have HRO := hideIt (hro.lift HK.out)
    rcases hro with ⟨t, q', x, hz, rfl, _⟩ | ⟨hz, rfl, _⟩
    · clear hz
      go_wp2_with fail
      go_ret
      exact HRO.out
    · clear hz
      unfold gup
      go_wp2_with fail
      exact ⟨rfl, HRO.out⟩
end Go.Proofs.Ytokhindolimchaa

/-
  What turns giving up into false: unlessGivenUp at a reading that hands back a value.
-/
namespace Go.Proofs.Ytokhindolimchaa
open Go.RowKit
set_option linter.unusedSimpArgs false
set_option linter.unusedVariables false

theorem catchV_gave (q : Addr) (x : Bool) (w : World) (hc : w.cell? q = some (.bool x)) (hz : w.frozen? q = false) :
    CallsD Try.prog 93 #[.pointer (some q)] (.panicking [{ v := .iface 109 (.agg #[]), recovered := false }]) w fun e u' w' =>
      e = .returned (.tuple #[]) ∧ u' = .panicking [{ v := .iface 109 (.agg #[]), recovered := true }] ∧ w' = w.setCell q (.bool false) := by
  refine callsD_of_wpS Try.func93 rfl fun c₀ cs hu => ?_
  apply wpS_seq
  apply wpS_region
  simp [wpOpsS, go_sem, recoverD, hu, Try.ntmps93, Exit.thenS]
  refine wpS_cond (t := true) (by simp [Act.eval, Array.replicate]) ?_
  simp only [if_true]
  apply wpS_region
  simp [wpOpsS, go_sem, hc, hz, bodyPostS, results, Try.results93]

theorem catchV_idle (q : Addr) (w : World) :
    CallsD Try.prog 93 #[.pointer (some q)] .returning w fun e u' w' => e = .returned (.tuple #[]) ∧ u' = .returning ∧ w' = w := by
  refine callsD_of_wpS Try.func93 rfl fun c₀ cs hu => ?_
  apply wpS_seq
  apply wpS_region
  simp [wpOpsS, go_sem, recoverD, hu, Try.ntmps93, Exit.thenS]
  refine wpS_cond (t := false) (by simp [Act.eval, Array.replicate]) ?_
  simp only [Bool.false_eq_true, if_false]
  refine wpS_of_wp (wp_skip ?_)
  cases c₀
  simp_all [bodyPostS, results, Try.results93]

set_option maxRecDepth 100000 in
set_option maxHeartbeats 1600000 in
theorem unlessV_yes (G : FuncId) (x : Value) (w : World) (Z : Value → World → Prop) (hcf : ∀ w, (callFunc G #[x]).run Try.prog w = .ok (.enter G #[x]) w)
    (hc : Calls Try.prog G #[x] (w.alloc (.cells #[.bool false] 4)) fun e w' => ∃ v, e = .returned v ∧ Z v w')
    (hZ : ∀ v w', Z v w' → w'.cell? ⟨w.heap.size, 0, none⟩ = some (.bool false) ∧ w'.frozen? ⟨w.heap.size, 0, none⟩ = false) :
    Calls Try.prog 55 #[.func (.func G) #[x] #[]] w fun e w' => ∃ v, e = .returned (.tuple #[v, .bool true]) ∧ ∃ w1, Z v w1 ∧ w' = w1.setCell ⟨w.heap.size, 0, none⟩ (.bool true) := by
  have hmf : ∀ (fn : Fn) (first cap : Array Value) (w : World), (Instr.makeFunc fn first cap).run Try.prog w = .ok (.func fn first cap) w := fun _ _ _ _ => rfl
  go_enter_defers Try.func55, Try.ntmps55
  go_wp2_with fail
  refine hc.mono ?_
  rintro e w1 ⟨v, rfl, hz⟩
  obtain ⟨c1, f1⟩ := hZ v w1 hz
  go_wp2_with fail
  refine leaves_cons (f := 93) (args := #[.pointer (some ⟨w.heap.size, 0, none⟩)]) (by simp) (by simp [go_sem]) ?_
  refine (catchV_idle ⟨w.heap.size, 0, none⟩ _).mono ?_
  rintro e u' w'' ⟨rfl, rfl, rfl⟩
  have c2 : (w1.setCell ⟨w.heap.size, 0, none⟩ (.bool true)).cell? ⟨w.heap.size, 0, none⟩ = some (.bool true) := World.cell?_setCell_same _ _ _ c1
  simp [Leaves, settle, results, Try.results55, go_sem, c2]
  exact ⟨w1, hz, rfl⟩

set_option maxRecDepth 100000 in
set_option maxHeartbeats 1600000 in
theorem unlessV_no (G : FuncId) (x : Value) (w : World) (Z : World → Prop) (hcf : ∀ w, (callFunc G #[x]).run Try.prog w = .ok (.enter G #[x]) w)
    (hc : Calls Try.prog G #[x] (w.alloc (.cells #[.bool false] 4)) fun e w' => e = gup ∧ Z w')
    (hZ : ∀ w', Z w' → w'.cell? ⟨w.heap.size, 0, none⟩ = some (.bool false) ∧ w'.frozen? ⟨w.heap.size, 0, none⟩ = false) :
    Calls Try.prog 55 #[.func (.func G) #[x] #[]] w fun e w' => e = .returned (.tuple #[.nilIface, .bool false]) ∧ ∃ w1, Z w1 ∧ w' = w1.setCell ⟨w.heap.size, 0, none⟩ (.bool false) := by
  have hmf : ∀ (fn : Fn) (first cap : Array Value) (w : World), (Instr.makeFunc fn first cap).run Try.prog w = .ok (.func fn first cap) w := fun _ _ _ _ => rfl
  go_enter_defers Try.func55, Try.ntmps55
  go_wp2_with fail
  refine hc.mono ?_
  rintro e w1 ⟨rfl, hz⟩
  obtain ⟨c1, f1⟩ := hZ w1 hz
  unfold gup
  go_wp2_with fail
  refine leaves_cons (f := 93) (args := #[.pointer (some ⟨w.heap.size, 0, none⟩)]) (by simp) (by simp [go_sem]) ?_
  refine (catchV_gave ⟨w.heap.size, 0, none⟩ false _ c1 f1).mono ?_
  rintro e u' w'' ⟨rfl, rfl, rfl⟩
  have c2 : (w1.setCell ⟨w.heap.size, 0, none⟩ (.bool false)).cell? ⟨w.heap.size, 0, none⟩ = some (.bool false) := World.cell?_setCell_same _ _ _ c1
  simp [Leaves, settle, results, Try.results55, go_sem, c2]
  exact ⟨w1, hz, rfl⟩
end Go.Proofs.Ytokhindolimchaa

/-
  The program's readFront, over whatever reads a value.
-/
namespace Go.Proofs.Ytokhindolimchaa
open Go.RowKit
set_option linter.unusedSimpArgs false
set_option linter.unusedVariables false

/-- What is read of a text, and how much of it. -/
def frontV (L : List UInt8) (r : Option (VT × Nat)) : Option (List VN × Nat) := if 4000 < L.length then none else okOf (L.length + 1) r
def nsOf (r : Option (List VN × Nat)) : List VN := match r with
  | none => []
  | some (ns, _) => ns
def usedOf (r : Option (List VN × Nat)) : Nat := match r with
  | none => 0
  | some (_, q) => q

set_option maxRecDepth 100000 in
set_option maxHeartbeats 3200000 in
theorem readFront_any (G : FuncId) (R : Nat → Option (VT × Nat)) (rb : Nat) (s : ByteArray) (hG : s.size ≤ 4000 → GAll G s.data.toList R (s.size + 1) rb s) (hok : s.size ≤ 4000 → RdOk (s.size + 1) s.data.toList R) (hcf : ∀ w, (callFunc G #[.pointer (some ⟨rb, 0, none⟩)]).run Try.prog w = .ok (.enter G #[.pointer (some ⟨rb, 0, none⟩)]) w) (w : World) (h : BrAt w rb s 0) (hs : s.size ≤ 9223372036854775807) :
    Calls Try.prog 28 #[.pointer (some ⟨rb, 0, none⟩), .func (.func G) #[.pointer (some ⟨rb, 0, none⟩)] #[]] w fun e w' => ∃ r base KV IV, e = .returned (.tuple #[r, .int .i64 (usedOf (frontV s.data.toList (R 0))), .bool (frontV s.data.toList (R 0)).isSome]) ∧ w.heap.size ≤ base ∧ base ≤ w'.heap.size ∧ Nest base w' r (nsOf (frontV s.data.toList (R 0))) KV IV ∧ But rb w w' := by
  have H := hideIt h
  have hlen := len_is s
  have c0 := h.src
  have hrb := h.lt
  clear h
  by_cases hbig : 4000 < s.size
  · have hbig' : (4000 : Int) < (s.size : Int) := by omega
    have HV : Hid (frontV s.data.toList (R 0) = none) := by rw [Hid]; unfold frontV; rw [if_pos (by omega)]
    go_enter Try.func28, Try.ntmps28
    go_wp2_with fail
    refine bodyPost_ret (v := .tuple #[.slice none 0 0, .int .i64 0, .bool false]) (by simp [results, Try.results28, go_sem]) rfl ?_
    rw [HV.out]
    exact ⟨.slice none 0 0, w.heap.size, fun _ => undef, fun _ => undef, rfl, Nat.le_refl _, Nat.le_refl _, Nest.nil _ _ _ _, But.refl _ _⟩
  have hbig' : ¬ (4000 : Int) < (s.size : Int) := by omega
  have HG := hideIt (hG (by omega))
  have HOK := hideIt (hok (by omega))
  have HFV : Hid (frontV s.data.toList (R 0) = okOf (s.size + 1) (R 0)) := by rw [Hid]; unfold frontV; rw [if_neg (by omega), hlen]
  rw [HFV.out]
  have HBA : Hid (Below w.heap.size w (w.alloc (.cells #[.bool false] 4))) := (Below.refl _ _).alloc (Nat.le_refl _) _
  have HC := hideIt (HG.out 0 _ (H.out.below HBA.out) (by omega))
  have HLEN := hideIt hlen
  clear hG hok hlen
  have hz1 : (w.alloc (.cells #[.bool false] 4)).heap.size = w.heap.size + 1 := by simp
  have HKEEP : Hid (∀ w', But rb (w.alloc (.cells #[.bool false] 4)) w' → w'.cell? ⟨w.heap.size, 0, none⟩ = some (.bool false) ∧ w'.frozen? ⟨w.heap.size, 0, none⟩ = false) := fun w' hb => by
    have hh := (hb.block w.heap.size (by rw [hz1]; omega) (by omega)).trans (heap_alloc_new w (.cells #[.bool false] 4))
    exact ⟨by rw [Lib.cell_of_heap hh]; rfl, Lib.frozen_of_heap hh 0⟩
  cases hr : R 0 with
  | none =>
    have HO : Hid (okOf (s.size + 1) (none : Option (VT × Nat)) = none) := rfl
    rw [hr] at HC
    have hcn : Calls Try.prog G #[.pointer (some ⟨rb, 0, none⟩)] (w.alloc (.cells #[.bool false] 4)) fun e w' => e = gup ∧ But rb (w.alloc (.cells #[.bool false] 4)) w' := HC.out.mono (by
      rintro e w' (⟨t, q, x, h1, _⟩ | ⟨_, h2, h3⟩)
      · cases h1
      · exact ⟨h2, h3⟩)
    have HU := hideIt (unlessV_no G (.pointer (some ⟨rb, 0, none⟩)) w _ hcf hcn HKEEP.out)
    clear hcn HC
    go_enter Try.func28, Try.ntmps28
    go_wp2_with fail
    refine HU.out.mono ?_
    rintro e w1 ⟨rfl, w9, hb9, rfl⟩
    have HB1 : Hid (But rb w (w9.setCell ⟨w.heap.size, 0, none⟩ (.bool false))) := by
      have h1 := (But.of_below (rb := rb) HBA.out).trans hb9
      exact ⟨h1.os, h1.tape, h1.output, by simpa using h1.size, fun c hc hn => (Below.heap_setCell _ _ _ _ (by show c ≠ w.heap.size; omega)).trans (h1.block c hc hn)⟩
    clear hb9
    generalize w9.setCell ⟨w.heap.size, 0, none⟩ (.bool false) = w1 at HB1 ⊢
    go_wp2_with fail
    refine bodyPost_ret (v := .tuple #[.slice none 0 0, .int .i64 0, .bool false]) (by simp [results, Try.results28, go_sem]) rfl ?_
    rw [HO.out]
    exact ⟨.slice none 0 0, w.heap.size, fun _ => undef, fun _ => undef, rfl, Nat.le_refl _, HB1.out.size, Nest.nil _ _ _ _, HB1.out⟩
  | some tq =>
    obtain ⟨t, q⟩ := tq
    obtain ⟨hq1, hq2, hq3, hq4, _⟩ := HOK.out 0 t q hr
    have hqs : q ≤ 4000 := by have := HLEN.out; omega
    have hnn : (layT (s.size + 1) t 0).length ≤ 4000 := by omega
    have HFT := hideIt (fits_lay hq4 0 (by omega))
    rw [hr] at HC
    obtain ⟨ns, hns⟩ : ∃ ns, layT (s.size + 1) t 0 = ns := ⟨_, rfl⟩
    have HO : Hid (okOf (s.size + 1) (some (t, q)) = if okB ns = true then some (ns, q) else none) := by rw [Hid, ← hns]; rfl
    rw [hns] at hnn HFT
    have HNS := hideIt hns
    clear hq3 hq4 hns
    have hcy : Calls Try.prog G #[.pointer (some ⟨rb, 0, none⟩)] (w.alloc (.cells #[.bool false] 4)) fun e w' => ∃ x, e = .returned x ∧ TreeP (NewB (w.alloc (.cells #[.bool false] 4)) w') w' (s.size + 1) t x ∧ BrAt w' rb s q ∧ But rb (w.alloc (.cells #[.bool false] 4)) w' := HC.out.mono (by
      rintro e w' (⟨t', q', x, h1, h2, h3, h4, h5, _⟩ | ⟨h1, _⟩)
      · simp only [Option.some.injEq, Prod.mk.injEq] at h1
        obtain ⟨rfl, rfl⟩ := h1
        exact ⟨x, h2, h3, h4, h5⟩
      · cases h1)
    clear HC
    have HU := hideIt (unlessV_yes G (.pointer (some ⟨rb, 0, none⟩)) w (fun x w' => TreeP (NewB (w.alloc (.cells #[.bool false] 4)) w') w' (s.size + 1) t x ∧ BrAt w' rb s q ∧ But rb (w.alloc (.cells #[.bool false] 4)) w') hcf hcy (fun x w' hz => HKEEP.out w' hz.2.2))
    clear hcy
    go_enter Try.func28, Try.ntmps28
    go_wp2_with fail
    refine HU.out.mono ?_
    rintro e w1 ⟨x, rfl, w9, ⟨htr, hbr9, hb9⟩, rfl⟩
    have HB1 : Hid (But rb w (w9.setCell ⟨w.heap.size, 0, none⟩ (.bool true))) := by
      have h1 := (But.of_below (rb := rb) HBA.out).trans hb9
      exact ⟨h1.os, h1.tape, h1.output, by simpa using h1.size, fun c hc hn => (Below.heap_setCell _ _ _ _ (by show c ≠ w.heap.size; omega)).trans (h1.block c hc hn)⟩
    have HT1 : Hid (TreeAt (w9.setCell ⟨w.heap.size, 0, none⟩ (.bool true)).heap.size (w9.setCell ⟨w.heap.size, 0, none⟩ (.bool true)) (s.size + 1) t x) :=
      (htr.keep (P' := fun b => b < (w9.setCell ⟨w.heap.size, 0, none⟩ (.bool true)).heap.size) (fun b hb' => Below.heap_setCell _ _ _ _ (by show b ≠ w.heap.size; have := hb'.1; omega)) (fun b hb' => by simpa using hb'.2)).at (fun b hb' => hb')
    have HR1 : Hid (BrAt (w9.setCell ⟨w.heap.size, 0, none⟩ (.bool true)) rb s q) := hbr9.keep (Below.heap_setCell _ _ _ _ (by show rb ≠ w.heap.size; omega)) (by simp)
    clear htr hbr9 hb9
    generalize w9.setCell ⟨w.heap.size, 0, none⟩ (.bool true) = w1 at HB1 HT1 HR1 ⊢
    obtain ⟨ty, xx, rfl⟩ := HT1.out.iface
    have z1 := HB1.out.size
    have HRN := hideIt (rightNodes_any (s.size + 1) t _ ns w1 HT1.out HNS.out (by omega) HFT.out)
    go_wp2_with fail
    refine HRN.out.mono ?_
    rintro e w2 ⟨r, base, KV, IV, rfl, hb1, hb2, hn2, hbl2⟩
    have HR2 := hideIt (HR1.out.below hbl2)
    have c2 := HR2.out.place
    have HB2 := hideIt (HB1.out.next (hbl2.mono z1))
    have HN2 := hideIt hn2
    obtain ⟨ar, cr, er⟩ := own_slice hn2.row
    obtain ⟨M, hM⟩ : ∃ M, (rightNs ns).length = M := ⟨_, rfl⟩
    rw [hM] at er
    subst er
    clear hn2 hbl2 hM
    cases hok : okB ns
    · have HRN : Hid (rightNs ns = []) := by rw [Hid]; unfold rightNs; rw [hok]; rfl
      rw [hok] at HO
      go_wp2_with fail
      refine bodyPost_ret (v := .tuple #[.slice none 0 0, .int .i64 0, .bool false]) (by simp [results, Try.results28, go_sem]) rfl ?_
      rw [HO.out]
      exact ⟨.slice none 0 0, w2.heap.size, fun _ => undef, fun _ => undef, rfl, HB2.out.size, Nat.le_refl _, Nest.nil _ _ _ _, HB2.out⟩
    · have HRN : Hid (rightNs ns = ns) := by rw [Hid]; unfold rightNs; rw [hok]; rfl
      rw [hok] at HO
      rw [HRN.out] at HN2
      go_wp2_with fail
      go_quiet (fail)
      have HB3 := hideIt (HB2.out.trans (But.of_below (below_drewB (w := w2) nq)))
      have HN3 := hideIt (HN2.out.below (below_drewB (w := w2) nq))
      have hb3 : base ≤ (w2.drewN nq).heap.size := hb2
      generalize w2.drewN nq = w3 at HB3 HN3 hb3 ⊢
      go_wp2_with fail
      refine bodyPost_ret (v := .tuple #[.slice ar M cr, .int .i64 q, .bool true]) (by simp [results, Try.results28, go_sem]) rfl ?_
      rw [HO.out]
      exact ⟨.slice ar M cr, base, KV, IV, rfl, Nat.le_trans z1 hb1, hb3, HN3.out, HB3.out⟩
end Go.Proofs.Ytokhindolimchaa
