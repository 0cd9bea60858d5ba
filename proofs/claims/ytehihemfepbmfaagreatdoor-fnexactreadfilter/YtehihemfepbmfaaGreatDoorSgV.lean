/-
  The specification's l7Rf: a filter that binds at least so much. (Made by mksgv.py.)
-/
import Derived.Test.YtehihemfepbmfaaGreatDoorSgP
import Derived.Test.YtehihemfepbmfaaGreatDoorSgS
import Derived.Test.YtehihemfepbmfaaGreatDoorSgSb
namespace Go.Proofs.YtehihemfepbmfaaGreatDoor
open Go.RowKit
set_option linter.unusedSimpArgs false
set_option linter.unusedVariables false
set_option linter.unusedSectionVars false

/-- What was read so far, at place n. -/
def LfN (r : RF) (n : Int) (rb base : Nat) (Z : Nat → Prop) (s : ByteArray) (p0 : Nat) (w : World) : Prop :=
  ∃ (fs : List FN) (p : Nat), p0 ≤ p ∧ ((r = some (n, fs, skF s.data.toList p) ∧ LfAt w rb base Z s p false fs ∧ fs.length ≤ 40) ∨ (r = none ∧ fs.length + p0 ≤ 42 + p ∧ LfAt w rb base Z s p true fs))
theorem LfOr.n {r : RF} {rb base p0 : Nat} {Z : Nat → Prop} {s : ByteArray} {w w' : World} {e : Ending} (h : LfOr r rb base Z s p0 w e w') : ∃ n, e = .returned (.int .i64 n) ∧ LB rb base Z w w' ∧ LfN r n rb base Z s p0 w' := by
  obtain ⟨hb, n, fs, p, he, hp, hc⟩ := h
  exact ⟨n, he, hb, fs, p, hp, hc⟩
theorem LfN.or {r : RF} {n : Int} {rb base p0 p1 : Nat} {Z : Nat → Prop} {s : ByteArray} {w w' : World} (h : LfN r n rb base Z s p1 w') (hp1 : p0 ≤ p1) (hb : LB rb base Z w w') : LfOr r rb base Z s p0 w (.returned (.int .i64 n)) w' := by
  obtain ⟨fs, p, hp, hc | ⟨a, b, c⟩⟩ := h
  · exact ⟨hb, n, fs, p, rfl, by omega, .inl hc⟩
  · exact ⟨hb, n, fs, p, rfl, by omega, .inr ⟨a, by omega, c⟩⟩
theorem LfN.st {r : RF} {n : Int} {rb base p0 : Nat} {Z : Nat → Prop} {s : ByteArray} {w : World} (h : LfN r n rb base Z s p0 w) : LfSt (r.map (·.2)) rb base Z s p0 w := by
  obtain ⟨fs, p, hp, ⟨h1, h2, h3⟩ | ⟨h1, h2, h3⟩⟩ := h
  · exact ⟨fs, p, hp, .inl ⟨by rw [h1]; rfl, h2, h3⟩⟩
  · exact ⟨fs, p, hp, .inr ⟨by rw [h1]; rfl, h2, h3⟩⟩
theorem LfN.zb {r : RF} {n : Int} {rb base p0 : Nat} {Z : Nat → Prop} {s : ByteArray} {w : World} (h : LfN r n rb base Z s p0 w) : ∀ x, Z x → x < w.heap.size := h.st.zb
theorem LfN.of {r r' : RF} {n : Int} {rb base p0 : Nat} {Z : Nat → Prop} {s : ByteArray} {w : World} (hr : r = r') (h : LfN r' n rb base Z s p0 w) : LfN r n rb base Z s p0 w := by rw [hr]; exact h
/-- How much is left: nothing behind a spoilt place. -/
theorem LfN.meas {r : RF} {n : Int} {rb base p0 : Nat} {Z : Nat → Prop} {s : ByteArray} {w : World} (h : LfN r n rb base Z s p0 w) : measLf w rb s.size ≤ s.size + 1 - p0 := by
  obtain ⟨fs, p, hp, ⟨h1, h2, h3⟩ | ⟨h1, h2, h3⟩⟩ := h
  · rw [h2.meas, if_neg (by decide)]; omega
  · rw [h3.meas, if_pos rfl]; omega
theorem LfSt.meas {r : CF} {rb base p0 : Nat} {Z : Nat → Prop} {s : ByteArray} {w : World} (h : LfSt r rb base Z s p0 w) : measLf w rb s.size ≤ s.size + 1 - p0 := by
  obtain ⟨fs, p, hp, ⟨h1, h2, h3⟩ | ⟨h1, h2, h3⟩⟩ := h
  · rw [h2.meas, if_neg (by decide)]; omega
  · rw [h3.meas, if_pos rfl]; omega
theorem addR_m {rb base p0 p1 : Nat} {s : ByteArray} {r : CF} {Z : Nat → Prop} {w : World} (h : LfSt r rb base Z s p1 w) (hs : s.size ≤ 1000) (hp : p0 + 1 ≤ p1) (hZ : ∀ x, Z x → x < w.heap.size) (k : Int) (ks : List Int) (hn : ks.length ≤ 1000) :
    Calls Tryz.prog 80 #[.pointer (some ⟨rb, 0, none⟩), .agg #[.int .i64 k, .string ByteArray.empty, .int .i64 0, .slice none 0 0, .slice none 0 0, .slice (some ⟨w.heap.size, 0, none⟩) ks.length ks.length]] (w.alloc (.cells (ks.map (Value.int .i64)).toArray 2)) fun e w' => ∃ n, e = .returned (.int .i64 n) ∧ LB rb base Z w w' ∧ LfN (r.bind fun x => addF WSp (nodeR k ks) x.1 x.2) n rb base Z s p0 w' ∧ measLf w' rb s.size ≤ measLf w rb s.size := by
  obtain ⟨fs, p, hp1, ⟨hr, ha, hl⟩ | ⟨hr, hl, ha⟩⟩ := h
  · subst hr
    refine (lfAddR_any ha hZ (by omega) k ks hn).mono ?_
    rintro e w' ⟨rfl, h', hb⟩
    have hm := h'.meas (n := s.size)
    have hm0 := ha.meas (n := s.size)
    obtain ⟨n, he, hlb, hnn⟩ := (LfOr.add h' hl (show p0 ≤ p by omega) hb).n
    refine ⟨n, he, hlb, hnn, ?_⟩
    rw [hm, hm0, if_neg (show ¬ false = true by decide)]
    split <;> omega
  · subst hr
    have := ha.le
    refine (lfAddR_any ha hZ (by omega) k ks hn).mono ?_
    rintro e w' ⟨rfl, h', hb⟩
    have hm := h'.meas (n := s.size)
    obtain ⟨n, he, hlb, hnn⟩ := (LfOr.addB (p0 := p0) (r := none) rfl h' (by omega) (by omega) hb).n
    refine ⟨n, he, hlb, hnn, ?_⟩
    rw [hm, Bool.true_or, if_pos rfl]
    omega
/-- What sign of level l stands there: none (then all is read), or one of kind k. -/
def HeadL (R : RD) (tg : RF) (l g : Nat) (n k : Int) (rb base : Nat) (Z : Nat → Prop) (s : ByteArray) (p0 : Nat) (w : World) : Prop :=
  (k = 0 ∧ LfN tg n rb base Z s p0 w) ∨ (k ≠ 0 ∧ ∃ fs p1, LfAt w rb base Z s p1 false fs ∧ fs.length ≤ 40 ∧ p0 + 1 ≤ p1 ∧ rgtF k = (if l = 1 ∨ l = 3 then (l : Int) else (l : Int) + 1) ∧ measLf w rb s.size ≤ g ∧
    tg = bindF (bindF (R (rgtF k) fs (skF s.data.toList p1)) fun b fs q => addF WSp (nodeR k [n, b]) fs q) fun n fs q => if l = 6 ∨ l = 5 ∨ l = 2 then sgnS R s.data.toList WSp l g n fs q else some (n, fs, q))
theorem sgn_kind {l : Int} {L : List UInt8} {q : Nat} {k : Int} {len : Nat} (h : sgnAt l L q = some (k, len)) : levF k = l ∧ jntF L q = some (k, len) := by
  unfold sgnAt at h
  cases e : jntF L q with
  | none => rw [e] at h; cases h
  | some x =>
    rw [e] at h
    simp only [Option.bind_some] at h
    split at h
    · rename_i h1
      simp only [Option.some.injEq] at h
      rw [h] at h1
      exact ⟨h1, by rw [h]⟩
    · cases h
theorem sgn_rgt {l : Nat} (h1 : 1 ≤ l) (h5 : l ≤ 5) {L : List UInt8} {q : Nat} {k : Int} {len : Nat} (h : sgnAt (l : Int) L q = some (k, len)) : rgtF k = (if l = 1 ∨ l = 3 then (l : Int) else (l : Int) + 1) ∧ k ≠ 23 := by
  obtain ⟨e1, e2⟩ := sgn_kind h
  have := jnt_kinds e2
  rcases (show l = 1 ∨ l = 2 ∨ l = 3 ∨ l = 4 ∨ l = 5 by omega) with rfl | rfl | rfl | rfl | rfl <;>
    (rcases this with rfl | rfl | rfl | rfl | rfl | rfl | rfl | rfl | rfl | rfl <;> first | exact ⟨by decide, by decide⟩ | (revert e1; decide))
theorem sign_n {R : RD} {tg cur : RF} {l g : Nat} {n : Int} {rb base p0 : Nat} {Z : Nat → Prop} {s : ByteArray} {w : World} (h1 : 1 ≤ l) (h5 : l ≤ 5) (hs : s.size ≤ 4000) (h : LfN cur n rb base Z s p0 w) (htg : tg = bindF cur fun n fs q => sgnS R s.data.toList WSp l (g + 1) n fs q) (hm : measLf w rb s.size ≤ g + 1) :
    Calls Tryz.prog 81 #[.pointer (some ⟨rb, 0, none⟩), .int .i64 (l : Int)] w fun e w' => ∃ k, e = .returned (.int .i64 k) ∧ LB rb base Z w w' ∧ HeadL R tg l g n k rb base Z s p0 w' ∧ (k ≠ 0 → measLf w' rb s.size + 1 ≤ measLf w rb s.size) := by
  obtain ⟨fs, p, hp, ⟨hr, ha, hl⟩ | ⟨hr, hl, ha⟩⟩ := h
  · have hm0 := ha.meas (n := s.size)
    rw [if_neg (by decide)] at hm0
    have hle := ha.le
    have hsk := skF_ge s.data.toList p
    have hid := skF_idem s.data.toList p
    subst hr
    rw [bindF_some, sgnS_is] at htg
    refine (lfSign_any (l := (l : Int)) (by omega) (by omega) ha hs rfl).mono ?_
    rintro e w' ⟨hb, ⟨hno, rfl, h'⟩ | ⟨k, len, hk, hk0, hlen, rfl, h'⟩⟩
    · refine ⟨0, rfl, hb, .inl ⟨rfl, fs, skF s.data.toList p, by omega, .inl ⟨?_, h', hl⟩⟩, fun e => absurd rfl e⟩
      rw [htg, hno, hid]
    · have hm1 := h'.meas (n := s.size)
      rw [if_neg (by decide)] at hm1
      have hle1 := h'.le
      have hrg := sgn_rgt h1 h5 hk
      refine ⟨k, rfl, hb, .inr ⟨hk0, fs, _, h', hl, by omega, hrg.1, by omega, ?_⟩, fun _ => by omega⟩
      rw [htg, hk]
      simp only
      unfold eatF
      rw [if_neg hrg.2]
  · subst hr
    have hle := ha.le
    have hsk := skF_ge s.data.toList p
    refine (lfSign_bad ha hs l h1 h5).mono ?_
    rintro e w' ⟨rfl, hb, h'⟩
    exact ⟨0, rfl, hb, .inl ⟨rfl, fs, skF s.data.toList p, by omega, .inr ⟨by rw [htg]; rfl, by omega, h'⟩⟩, fun e => absurd rfl e⟩
/-- The sign '?'. -/
theorem is_n {R : RD} {tg cur : RF} {g : Nat} {n : Int} {rb base p0 : Nat} {Z : Nat → Prop} {s : ByteArray} {w : World} (hs : s.size ≤ 4000) (h : LfN cur n rb base Z s p0 w) (htg : tg = bindF cur fun n fs q => sgnS R s.data.toList WSp 6 (g + 1) n fs q) (hm : measLf w rb s.size ≤ g + 1) :
    Calls Tryz.prog 79 #[.pointer (some ⟨rb, 0, none⟩), .string ⟨#[63]⟩] w fun e w' => LB rb base Z w w' ∧ ((e = .returned (.bool false) ∧ LfN tg n rb base Z s p0 w') ∨ (e = .returned (.bool true) ∧ measLf w' rb s.size + 1 ≤ measLf w rb s.size ∧ ∃ fs p1, p0 + 1 ≤ p1 ∧ LfSt (some (fs, skF s.data.toList p1)) rb base Z s p1 w' ∧ tg = bindF (addF WSp (nodeR 23 [n]) fs (skF s.data.toList p1)) fun n fs q => sgnS R s.data.toList WSp 6 g n fs q)) := by
  obtain ⟨fs, p, hp, ⟨hr, ha, hl⟩ | ⟨hr, hl, ha⟩⟩ := h
  · have hm0 := ha.meas (n := s.size)
    rw [if_neg (by decide)] at hm0
    have hle := ha.le
    have hsk := skF_ge s.data.toList p
    have hid := skF_idem s.data.toList p
    subst hr
    rw [bindF_some, sgnS_is, show ((6 : Nat) : Int) = 6 from rfl, sgn6] at htg
    refine (lfIs1 63 ha hs).mono ?_
    rintro e w' ⟨rfl, h', hb⟩
    rw [show (63 : UInt8).toNat = 63 from rfl] at h' ⊢
    cases hi : isAt s.data.toList (skF s.data.toList p) 63
    · rw [hi] at h' htg
      have h2 : LfAt w' rb base Z s (skF s.data.toList p) false fs := h'
      refine ⟨hb, .inl ⟨rfl, fs, skF s.data.toList p, by omega, .inl ⟨?_, h2, hl⟩⟩⟩
      rw [htg, hid]; rfl
    · rw [hi] at h' htg
      have h2 : LfAt w' rb base Z s (skF s.data.toList p + 1) false fs := h'
      have hm1 := h2.meas (n := s.size)
      rw [if_neg (by decide)] at hm1
      have hle1 := h2.le
      refine ⟨hb, .inr ⟨rfl, by omega, fs, _, by omega, LfSt.good h2 hl (Nat.le_refl _), ?_⟩⟩
      rw [htg, if_pos rfl]
      rfl
  · subst hr
    have hle := ha.le
    have hsk := skF_ge s.data.toList p
    refine (lfIs1 63 ha hs).mono ?_
    rintro e w' ⟨rfl, h', hb⟩
    have h2 : LfAt w' rb base Z s (skF s.data.toList p) true fs := h'
    exact ⟨hb, .inl ⟨rfl, fs, skF s.data.toList p, by omega, .inr ⟨by rw [htg]; rfl, by omega, h2⟩⟩⟩

section
variable {R : RD} {f rb base : Nat} {s : ByteArray} (HR : RdsS R f rb base s)
include HR
set_option maxRecDepth 100000 in
set_option maxHeartbeats 6400000 in
theorem lfLevel_6 {p : Nat} {Z : Nat → Prop} {fs : List FN} {w : World} (h : LfAt w rb base Z s p false fs) (hZ : ∀ x, Z x → x < w.heap.size) (hs : s.size ≤ 1000) (hl : fs.length ≤ 40) (hf : s.size ≤ p + f) :
    Calls Tryz.prog 43 #[.pointer (some ⟨rb, 0, none⟩), .int .i64 6] w (LfOr (lvS R s.data.toList WSp 0 fs (skF s.data.toList p)) rb base Z s p w) := by
  have HLN := hideB (len_is s)
  obtain ⟨c0, c1, c2⟩ := h.cells
  have HPR := hideB (lfPrimary_any HR h hZ hs hl hf)
  obtain ⟨tg, htg⟩ : ∃ tg, lvS R s.data.toList WSp 0 fs (skF s.data.toList p) = tg := ⟨_, rfl⟩
  have HTG : Hid (tg = bindF (wholeF WSp R s.data.toList fs (skF s.data.toList p)) fun n fs q => sgnS R s.data.toList WSp 6 (s.size + 1) n fs q) := by rw [Hid, ← htg, ← HLN.out]; rfl
  obtain ⟨cu, hcu⟩ : ∃ cu, wholeF WSp R s.data.toList fs (skF s.data.toList p) = cu := ⟨_, rfl⟩
  rw [hcu] at HPR HTG
  rw [htg]
  clear h hZ HR htg hcu
  go_enter Tryz.func43, Tryz.ntmps43
  go_wp2_with fail
  refine HPR.out.mono ?_
  intro e w1 h
  obtain ⟨n1, rfl, b1, hn1⟩ := h.n
  have HN1 := hideB hn1
  have HB1 := hideB b1
  have hm1 : measLf w1 rb s.size ≤ s.size + 1 := by have := hn1.meas; omega
  have HM1 := hideB hm1
  clear h b1 hn1 c0 c1 c2 HPR hm1
  go_wp2_with fail
  go_loopw [5] (fun av wr => ∃ (g : Nat) (cur : RF) (n : Int), av = .int .i64 n ∧ LfN cur n rb base Z s p wr ∧ LB rb base Z w wr ∧ Hid (tg = bindF cur fun n fs q => sgnS R s.data.toList WSp 6 (g + 1) n fs q) ∧ Hid (measLf wr rb s.size ≤ g + 1)) (fun _ wr => measLf wr rb s.size)
  case atStart => exact ⟨s.size, cu, n1, rfl, HN1.out, HB1.out, HTG.out, HM1.out⟩
  case round =>
    obtain ⟨g, cur, n, rfl, hn, hbt, HT, HM⟩ := hrel
    have HBT := hideIt hbt
    have HIN := hideIt (is_n (by omega) hn HT.out HM.out)
    clear hn hbt HN1 HB1 HTG HM1
    go_wp2_with fail
    refine HIN.out.mono ?_
    rintro e w2 ⟨b2, ⟨rfl, hn2⟩ | ⟨rfl, hm2, fs2, p2, hp2, st2, ht2⟩⟩
    · have HN2 := hideIt hn2
      have HB2 := hideIt (HBT.out.trans b2)
      clear b2 hn2
      go_wp2_with fail
      go_ret
      exact HN2.out.or (Nat.le_refl _) HB2.out
    · have HB2 := hideIt (HBT.out.trans b2)
      have HM2 := hideIt hm2
      have HT2 := hideIt ht2
      have HMG : Hid (measLf w2 rb s.size ≤ g) := by rw [Hid]; have := HM.out; omega
      have hpos : 0 < measLf w2 rb s.size := by
        obtain ⟨b, f3, p3, h3, _, _, h4, _⟩ := st2.at
        have hb : b = false := by
          cases b
          · rfl
          · exact absurd (h4 rfl) (by simp)
        subst hb
        rw [h3.meas, if_neg (by decide)]
        have := h3.le
        omega
      have HPOS := hideIt hpos
      have HA := hideIt (addR_m (p0 := p) st2 hs (by omega) st2.zb 23 [n] (by simp))
      clear b2 hm2 st2 ht2 hpos
      go_wp2_with fail
      refine HA.out.mono ?_
      rintro e w3 ⟨n3, rfl, b3, hn3, hm3⟩
      have HN3 := hideIt hn3
      have HB3 := hideIt (HB2.out.trans b3)
      have HM3 := hideIt hm3
      clear b3 hn3 hm3
      go_wp2_with fail
      go_roundw
      case rel =>
        obtain ⟨g, rfl⟩ : ∃ g', g = g' + 1 := ⟨g - 1, by have := HPOS.out; have := HMG.out; omega⟩
        exact ⟨g, _, n3, rfl, HN3.out, HB3.out, HT2.out, by rw [Hid]; have := HM3.out; have := HMG.out; omega⟩
      case measure => have := HM3.out; have := HM2.out; omega
set_option maxRecDepth 100000 in
set_option maxHeartbeats 6400000 in
theorem lfLevel_5 (HN : ∀ (Z : Nat → Prop) (fs : List FN) (p : Nat) (w : World), (∀ x, Z x → x < w.heap.size) → LfAt w rb base Z s p false fs → fs.length ≤ 40 → s.size ≤ p + f → Calls Tryz.prog 43 #[.pointer (some ⟨rb, 0, none⟩), .int .i64 6] w (LfOr (lvS R s.data.toList WSp 0 fs (skF s.data.toList p)) rb base Z s p w))
    {p : Nat} {Z : Nat → Prop} {fs : List FN} {w : World} (h : LfAt w rb base Z s p false fs) (hZ : ∀ x, Z x → x < w.heap.size) (hs : s.size ≤ 1000) (hl : fs.length ≤ 40) (hf : s.size ≤ p + f) :
    Calls Tryz.prog 43 #[.pointer (some ⟨rb, 0, none⟩), .int .i64 5] w (LfOr (lvS R s.data.toList WSp 1 fs (skF s.data.toList p)) rb base Z s p w) := by
  have HLN := hideB (len_is s)
  obtain ⟨c0, c1, c2⟩ := h.cells
  have HPR := hideB (HN Z fs p w hZ h hl hf)
  have HHR := hideB HR
  obtain ⟨tg, htg⟩ : ∃ tg, lvS R s.data.toList WSp 1 fs (skF s.data.toList p) = tg := ⟨_, rfl⟩
  have HTG : Hid (tg = bindF (lvS R s.data.toList WSp 0 fs (skF s.data.toList p)) fun n fs q => sgnS R s.data.toList WSp 5 (s.size + 1) n fs q) := by rw [Hid, ← htg, ← HLN.out]; rfl
  obtain ⟨cu, hcu⟩ : ∃ cu, lvS R s.data.toList WSp 0 fs (skF s.data.toList p) = cu := ⟨_, rfl⟩
  rw [hcu] at HPR HTG
  rw [htg]
  clear h hZ HR htg hcu HN
  go_enter Tryz.func43, Tryz.ntmps43
  go_wp2_with fail
  refine HPR.out.mono ?_
  intro e w1 h
  obtain ⟨n1, rfl, b1, hn1⟩ := h.n
  have HB1 := hideB b1
  have hm1 : measLf w1 rb s.size ≤ s.size + 1 := by have := hn1.meas; omega
  have HSG := hideB (sign_n (l := 5) (by decide) (by decide) (by omega) hn1 HTG.out hm1)
  clear h b1 hn1 c0 c1 c2 HPR hm1
  go_wp2_with fail
  refine HSG.out.mono ?_
  rintro e w2 ⟨k2, rfl, b2, hh2, _⟩
  have HH2 := hideB hh2
  have HB2 := hideB (HB1.out.trans b2)
  clear b2 hh2 HSG HTG
  go_wp2_with fail
  go_loopw [5, 6, 7, 8] (fun av kv _ _ wr => ∃ (g : Nat) (n k : Int), av = .int .i64 n ∧ kv = .int .i64 k ∧ HeadL R tg 5 g n k rb base Z s p wr ∧ LB rb base Z w wr) (fun _ kv _ _ wr => if intOf kv = 0 then 0 else 1 + measLf wr rb s.size)
  case atStart => exact ⟨s.size, n1, k2, rfl, rfl, HH2.out, HB2.out⟩
  case round =>
    obtain ⟨g, n, k, rfl, rfl, hh, hbt⟩ := hrel
    have HBT := hideIt hbt
    clear HH2 HB2 HB1
    rcases hh with ⟨rfl, hn⟩ | ⟨hk, fs2, p2, ha2, hl2, hp2, hrg, hmg, ht2⟩
    · have HN2 := hideIt hn
      clear hn hbt
      go_wp2_with fail
      go_ret
      exact HN2.out.or (Nat.le_refl _) HBT.out
    · obtain ⟨c0, c1, c2⟩ := ha2.cells
      have HRG : Hid (rgtF k = 6) := hrg
      have HT2 := hideIt ht2
      rw [HRG.out] at HT2
      have hk' : ((k : Int) == 0) = false := by simpa using hk
      have hk'' : ((k : Int) != 0) = true := by simpa using hk
      have hpos : 0 < measLf wr rb s.size := by
        rw [ha2.meas, if_neg (by decide)]
        have := ha2.le
        omega
      have hmw : measLf wr rb s.size = s.size + 1 - p2 := by rw [ha2.meas, if_neg (by decide)]
      have HMW := hideIt hmw
      have HPOS := hideIt hpos
      have HMG := hideIt hmg
      have HLV := hideIt (HHR.out 6 Z fs2 p2 wr (by decide) (by decide) ha2.zb ha2 hl2 (by omega))
      have HK0 : Hid (k ≠ 0) := hk
      clear hbt ha2 hrg hmg ht2 hpos hmw
      go_wp2_with fail
      refine HLV.out.mono ?_
      intro e w3 h3
      obtain ⟨n3, rfl, b3, hn3⟩ := h3.n
      have HB3 := hideIt (HBT.out.trans b3)
      have HM3 := hideIt hn3.meas
      obtain ⟨r3, hr3⟩ : ∃ r3, R 6 fs2 (skF s.data.toList p2) = r3 := ⟨_, rfl⟩
      rw [hr3] at HT2 hn3
      have HVAL : Hid (∀ y, r3 = some y → y.1 = n3) := by
        obtain ⟨_, _, _, ⟨h1, _⟩ | ⟨h1, _⟩⟩ := hn3
        · intro y hy; rw [h1] at hy; cases hy; rfl
        · intro y hy; rw [h1] at hy; cases hy
      have HA := hideIt (addR_m (p0 := p) hn3.st hs (by omega) hn3.zb k [n, n3] (by simp))
      have HEQ : Hid (bindF r3 (fun b fs q => addF WSp (nodeR k [n, b]) fs q) = (r3.map (·.2)).bind fun x => addF WSp (nodeR k [n, n3]) x.1 x.2) := by
        rw [Hid]
        cases e : r3 with
        | none => rfl
        | some y => obtain ⟨b, f4, q4⟩ := y; obtain rfl : b = n3 := HVAL.out _ e; rfl
      rw [HEQ.out] at HT2
      clear h3 b3 hn3 hr3 c0 c1 c2
      go_wp2_with fail
      refine HA.out.mono ?_
      rintro e w4 ⟨n4, rfl, b4, hn4, hm4⟩
      have HB4 := hideIt (HB3.out.trans b4)
      have HM4 : Hid (measLf w4 rb s.size ≤ measLf wr rb s.size) := by rw [Hid]; have := HM3.out; have := HMW.out; omega
      obtain ⟨g, rfl⟩ : ∃ g', g = g' + 1 := ⟨g - 1, by have := HPOS.out; have := HMG.out; omega⟩
      have HSG2 := hideIt (sign_n (l := 5) (g := g) (tg := tg) (R := R) (by decide) (by decide) (by omega) hn4 (by rw [HT2.out]; rfl) (by have := HM4.out; have := HMG.out; omega))
      clear b4 hn4 hm4
      go_wp2_with fail
      refine HSG2.out.mono ?_
      rintro e w5 ⟨k5, rfl, b5, hh5, hm5⟩
      have HH5 := hideIt hh5
      have HB5 := hideIt (HB4.out.trans b5)
      have HM5 := hideIt hm5
      clear b5 hh5 hm5
      go_wp2_with fail
      go_roundw
      case rel => exact ⟨g, n4, k5, rfl, rfl, HH5.out, HB5.out⟩
      case measure =>
        have h1 := HM4.out
        have h2 := HPOS.out
        have h0 := HK0.out
        have e1 : intOf (Value.int .i64 k) = k := rfl
        have e2 : intOf (Value.int .i64 k5) = k5 := rfl
        rw [e1, e2, if_neg h0]
        by_cases h5 : k5 = 0
        · rw [if_pos h5]; omega
        · rw [if_neg h5]; have := HM5.out h5; omega
set_option maxRecDepth 100000 in
set_option maxHeartbeats 6400000 in
theorem lfLevel_4 (HN : ∀ (Z : Nat → Prop) (fs : List FN) (p : Nat) (w : World), (∀ x, Z x → x < w.heap.size) → LfAt w rb base Z s p false fs → fs.length ≤ 40 → s.size ≤ p + f → Calls Tryz.prog 43 #[.pointer (some ⟨rb, 0, none⟩), .int .i64 5] w (LfOr (lvS R s.data.toList WSp 1 fs (skF s.data.toList p)) rb base Z s p w))
    {p : Nat} {Z : Nat → Prop} {fs : List FN} {w : World} (h : LfAt w rb base Z s p false fs) (hZ : ∀ x, Z x → x < w.heap.size) (hs : s.size ≤ 1000) (hl : fs.length ≤ 40) (hf : s.size ≤ p + f) :
    Calls Tryz.prog 43 #[.pointer (some ⟨rb, 0, none⟩), .int .i64 4] w (LfOr (lvS R s.data.toList WSp 2 fs (skF s.data.toList p)) rb base Z s p w) := by
  have HLN := hideB (len_is s)
  obtain ⟨c0, c1, c2⟩ := h.cells
  have HPR := hideB (HN Z fs p w hZ h hl hf)
  have HHR := hideB HR
  obtain ⟨tg, htg⟩ : ∃ tg, lvS R s.data.toList WSp 2 fs (skF s.data.toList p) = tg := ⟨_, rfl⟩
  have HTG : Hid (tg = bindF (lvS R s.data.toList WSp 1 fs (skF s.data.toList p)) fun n fs q => sgnS R s.data.toList WSp 4 (s.size + 1) n fs q) := by rw [Hid, ← htg, ← HLN.out]; rfl
  obtain ⟨cu, hcu⟩ : ∃ cu, lvS R s.data.toList WSp 1 fs (skF s.data.toList p) = cu := ⟨_, rfl⟩
  rw [hcu] at HPR HTG
  rw [htg]
  clear h hZ HR htg hcu HN
  go_enter Tryz.func43, Tryz.ntmps43
  go_wp2_with fail
  refine HPR.out.mono ?_
  intro e w1 h
  obtain ⟨n1, rfl, b1, hn1⟩ := h.n
  have HB1 := hideB b1
  have hm1 : measLf w1 rb s.size ≤ s.size + 1 := by have := hn1.meas; omega
  have HSG := hideB (sign_n (l := 4) (by decide) (by decide) (by omega) hn1 HTG.out hm1)
  clear h b1 hn1 c0 c1 c2 HPR hm1
  go_wp2_with fail
  refine HSG.out.mono ?_
  rintro e w2 ⟨k2, rfl, b2, hh2, _⟩
  have HH2 := hideB hh2
  have HB2 := hideB (HB1.out.trans b2)
  clear b2 hh2 HSG HTG
  go_wp2_with fail
  go_loopw [5, 6, 7, 8] (fun av kv _ _ wr => ∃ (g : Nat) (n k : Int), av = .int .i64 n ∧ kv = .int .i64 k ∧ HeadL R tg 4 g n k rb base Z s p wr ∧ LB rb base Z w wr) (fun _ kv _ _ wr => if intOf kv = 0 then 0 else 1 + measLf wr rb s.size)
  case atStart => exact ⟨s.size, n1, k2, rfl, rfl, HH2.out, HB2.out⟩
  case round =>
    obtain ⟨g, n, k, rfl, rfl, hh, hbt⟩ := hrel
    have HBT := hideIt hbt
    clear HH2 HB2 HB1
    rcases hh with ⟨rfl, hn⟩ | ⟨hk, fs2, p2, ha2, hl2, hp2, hrg, hmg, ht2⟩
    · have HN2 := hideIt hn
      clear hn hbt
      go_wp2_with fail
      go_ret
      exact HN2.out.or (Nat.le_refl _) HBT.out
    · obtain ⟨c0, c1, c2⟩ := ha2.cells
      have HRG : Hid (rgtF k = 5) := hrg
      have HT2 := hideIt ht2
      rw [HRG.out] at HT2
      have hk' : ((k : Int) == 0) = false := by simpa using hk
      have hk'' : ((k : Int) != 0) = true := by simpa using hk
      have hpos : 0 < measLf wr rb s.size := by
        rw [ha2.meas, if_neg (by decide)]
        have := ha2.le
        omega
      have hmw : measLf wr rb s.size = s.size + 1 - p2 := by rw [ha2.meas, if_neg (by decide)]
      have HMW := hideIt hmw
      have HPOS := hideIt hpos
      have HMG := hideIt hmg
      have HLV := hideIt (HHR.out 5 Z fs2 p2 wr (by decide) (by decide) ha2.zb ha2 hl2 (by omega))
      have HK0 : Hid (k ≠ 0) := hk
      clear hbt ha2 hrg hmg ht2 hpos hmw
      go_wp2_with fail
      refine HLV.out.mono ?_
      intro e w3 h3
      obtain ⟨n3, rfl, b3, hn3⟩ := h3.n
      have HB3 := hideIt (HBT.out.trans b3)
      have HM3 := hideIt hn3.meas
      obtain ⟨r3, hr3⟩ : ∃ r3, R 5 fs2 (skF s.data.toList p2) = r3 := ⟨_, rfl⟩
      rw [hr3] at HT2 hn3
      have HVAL : Hid (∀ y, r3 = some y → y.1 = n3) := by
        obtain ⟨_, _, _, ⟨h1, _⟩ | ⟨h1, _⟩⟩ := hn3
        · intro y hy; rw [h1] at hy; cases hy; rfl
        · intro y hy; rw [h1] at hy; cases hy
      have HA := hideIt (addR_m (p0 := p) hn3.st hs (by omega) hn3.zb k [n, n3] (by simp))
      have HEQ : Hid (bindF r3 (fun b fs q => addF WSp (nodeR k [n, b]) fs q) = (r3.map (·.2)).bind fun x => addF WSp (nodeR k [n, n3]) x.1 x.2) := by
        rw [Hid]
        cases e : r3 with
        | none => rfl
        | some y => obtain ⟨b, f4, q4⟩ := y; obtain rfl : b = n3 := HVAL.out _ e; rfl
      rw [HEQ.out] at HT2
      clear h3 b3 hn3 hr3 c0 c1 c2
      go_wp2_with fail
      refine HA.out.mono ?_
      rintro e w4 ⟨n4, rfl, b4, hn4, hm4⟩
      have HB4 := hideIt (HB3.out.trans b4)
      have HN4 := hideIt (LfN.of (r := tg) (by
        rw [HT2.out]
        show bindF _ (fun n fs q => some (n, fs, q)) = _
        generalize ((r3.map (·.2)).bind fun x => addF WSp (nodeR k [n, n3]) x.1 x.2) = c
        cases c <;> rfl) hn4)
      clear b4 hn4 hm4
      go_wp2_with fail
      go_ret
      exact HN4.out.or (Nat.le_refl _) HB4.out
set_option maxRecDepth 100000 in
set_option maxHeartbeats 6400000 in
theorem lfLevel_3 (HN : ∀ (Z : Nat → Prop) (fs : List FN) (p : Nat) (w : World), (∀ x, Z x → x < w.heap.size) → LfAt w rb base Z s p false fs → fs.length ≤ 40 → s.size ≤ p + f → Calls Tryz.prog 43 #[.pointer (some ⟨rb, 0, none⟩), .int .i64 4] w (LfOr (lvS R s.data.toList WSp 2 fs (skF s.data.toList p)) rb base Z s p w))
    {p : Nat} {Z : Nat → Prop} {fs : List FN} {w : World} (h : LfAt w rb base Z s p false fs) (hZ : ∀ x, Z x → x < w.heap.size) (hs : s.size ≤ 1000) (hl : fs.length ≤ 40) (hf : s.size ≤ p + f) :
    Calls Tryz.prog 43 #[.pointer (some ⟨rb, 0, none⟩), .int .i64 3] w (LfOr (lvS R s.data.toList WSp 3 fs (skF s.data.toList p)) rb base Z s p w) := by
  have HLN := hideB (len_is s)
  obtain ⟨c0, c1, c2⟩ := h.cells
  have HPR := hideB (HN Z fs p w hZ h hl hf)
  have HHR := hideB HR
  obtain ⟨tg, htg⟩ : ∃ tg, lvS R s.data.toList WSp 3 fs (skF s.data.toList p) = tg := ⟨_, rfl⟩
  have HTG : Hid (tg = bindF (lvS R s.data.toList WSp 2 fs (skF s.data.toList p)) fun n fs q => sgnS R s.data.toList WSp 3 (s.size + 1) n fs q) := by rw [Hid, ← htg, ← HLN.out]; rfl
  obtain ⟨cu, hcu⟩ : ∃ cu, lvS R s.data.toList WSp 2 fs (skF s.data.toList p) = cu := ⟨_, rfl⟩
  rw [hcu] at HPR HTG
  rw [htg]
  clear h hZ HR htg hcu HN
  go_enter Tryz.func43, Tryz.ntmps43
  go_wp2_with fail
  refine HPR.out.mono ?_
  intro e w1 h
  obtain ⟨n1, rfl, b1, hn1⟩ := h.n
  have HB1 := hideB b1
  have hm1 : measLf w1 rb s.size ≤ s.size + 1 := by have := hn1.meas; omega
  have HSG := hideB (sign_n (l := 3) (by decide) (by decide) (by omega) hn1 HTG.out hm1)
  clear h b1 hn1 c0 c1 c2 HPR hm1
  go_wp2_with fail
  refine HSG.out.mono ?_
  rintro e w2 ⟨k2, rfl, b2, hh2, _⟩
  have HH2 := hideB hh2
  have HB2 := hideB (HB1.out.trans b2)
  clear b2 hh2 HSG HTG
  go_wp2_with fail
  go_loopw [5, 6, 7, 8] (fun av kv _ _ wr => ∃ (g : Nat) (n k : Int), av = .int .i64 n ∧ kv = .int .i64 k ∧ HeadL R tg 3 g n k rb base Z s p wr ∧ LB rb base Z w wr) (fun _ kv _ _ wr => if intOf kv = 0 then 0 else 1 + measLf wr rb s.size)
  case atStart => exact ⟨s.size, n1, k2, rfl, rfl, HH2.out, HB2.out⟩
  case round =>
    obtain ⟨g, n, k, rfl, rfl, hh, hbt⟩ := hrel
    have HBT := hideIt hbt
    clear HH2 HB2 HB1
    rcases hh with ⟨rfl, hn⟩ | ⟨hk, fs2, p2, ha2, hl2, hp2, hrg, hmg, ht2⟩
    · have HN2 := hideIt hn
      clear hn hbt
      go_wp2_with fail
      go_ret
      exact HN2.out.or (Nat.le_refl _) HBT.out
    · obtain ⟨c0, c1, c2⟩ := ha2.cells
      have HRG : Hid (rgtF k = 3) := hrg
      have HT2 := hideIt ht2
      rw [HRG.out] at HT2
      have hk' : ((k : Int) == 0) = false := by simpa using hk
      have hk'' : ((k : Int) != 0) = true := by simpa using hk
      have hpos : 0 < measLf wr rb s.size := by
        rw [ha2.meas, if_neg (by decide)]
        have := ha2.le
        omega
      have hmw : measLf wr rb s.size = s.size + 1 - p2 := by rw [ha2.meas, if_neg (by decide)]
      have HMW := hideIt hmw
      have HPOS := hideIt hpos
      have HMG := hideIt hmg
      have HLV := hideIt (HHR.out 3 Z fs2 p2 wr (by decide) (by decide) ha2.zb ha2 hl2 (by omega))
      have HK0 : Hid (k ≠ 0) := hk
      clear hbt ha2 hrg hmg ht2 hpos hmw
      go_wp2_with fail
      refine HLV.out.mono ?_
      intro e w3 h3
      obtain ⟨n3, rfl, b3, hn3⟩ := h3.n
      have HB3 := hideIt (HBT.out.trans b3)
      have HM3 := hideIt hn3.meas
      obtain ⟨r3, hr3⟩ : ∃ r3, R 3 fs2 (skF s.data.toList p2) = r3 := ⟨_, rfl⟩
      rw [hr3] at HT2 hn3
      have HVAL : Hid (∀ y, r3 = some y → y.1 = n3) := by
        obtain ⟨_, _, _, ⟨h1, _⟩ | ⟨h1, _⟩⟩ := hn3
        · intro y hy; rw [h1] at hy; cases hy; rfl
        · intro y hy; rw [h1] at hy; cases hy
      have HA := hideIt (addR_m (p0 := p) hn3.st hs (by omega) hn3.zb k [n, n3] (by simp))
      have HEQ : Hid (bindF r3 (fun b fs q => addF WSp (nodeR k [n, b]) fs q) = (r3.map (·.2)).bind fun x => addF WSp (nodeR k [n, n3]) x.1 x.2) := by
        rw [Hid]
        cases e : r3 with
        | none => rfl
        | some y => obtain ⟨b, f4, q4⟩ := y; obtain rfl : b = n3 := HVAL.out _ e; rfl
      rw [HEQ.out] at HT2
      clear h3 b3 hn3 hr3 c0 c1 c2
      go_wp2_with fail
      refine HA.out.mono ?_
      rintro e w4 ⟨n4, rfl, b4, hn4, hm4⟩
      have HB4 := hideIt (HB3.out.trans b4)
      have HN4 := hideIt (LfN.of (r := tg) (by
        rw [HT2.out]
        show bindF _ (fun n fs q => some (n, fs, q)) = _
        generalize ((r3.map (·.2)).bind fun x => addF WSp (nodeR k [n, n3]) x.1 x.2) = c
        cases c <;> rfl) hn4)
      clear b4 hn4 hm4
      go_wp2_with fail
      go_ret
      exact HN4.out.or (Nat.le_refl _) HB4.out
set_option maxRecDepth 100000 in
set_option maxHeartbeats 6400000 in
theorem lfLevel_2 (HN : ∀ (Z : Nat → Prop) (fs : List FN) (p : Nat) (w : World), (∀ x, Z x → x < w.heap.size) → LfAt w rb base Z s p false fs → fs.length ≤ 40 → s.size ≤ p + f → Calls Tryz.prog 43 #[.pointer (some ⟨rb, 0, none⟩), .int .i64 3] w (LfOr (lvS R s.data.toList WSp 3 fs (skF s.data.toList p)) rb base Z s p w))
    {p : Nat} {Z : Nat → Prop} {fs : List FN} {w : World} (h : LfAt w rb base Z s p false fs) (hZ : ∀ x, Z x → x < w.heap.size) (hs : s.size ≤ 1000) (hl : fs.length ≤ 40) (hf : s.size ≤ p + f) :
    Calls Tryz.prog 43 #[.pointer (some ⟨rb, 0, none⟩), .int .i64 2] w (LfOr (lvS R s.data.toList WSp 4 fs (skF s.data.toList p)) rb base Z s p w) := by
  have HLN := hideB (len_is s)
  obtain ⟨c0, c1, c2⟩ := h.cells
  have HPR := hideB (HN Z fs p w hZ h hl hf)
  have HHR := hideB HR
  obtain ⟨tg, htg⟩ : ∃ tg, lvS R s.data.toList WSp 4 fs (skF s.data.toList p) = tg := ⟨_, rfl⟩
  have HTG : Hid (tg = bindF (lvS R s.data.toList WSp 3 fs (skF s.data.toList p)) fun n fs q => sgnS R s.data.toList WSp 2 (s.size + 1) n fs q) := by rw [Hid, ← htg, ← HLN.out]; rfl
  obtain ⟨cu, hcu⟩ : ∃ cu, lvS R s.data.toList WSp 3 fs (skF s.data.toList p) = cu := ⟨_, rfl⟩
  rw [hcu] at HPR HTG
  rw [htg]
  clear h hZ HR htg hcu HN
  go_enter Tryz.func43, Tryz.ntmps43
  go_wp2_with fail
  refine HPR.out.mono ?_
  intro e w1 h
  obtain ⟨n1, rfl, b1, hn1⟩ := h.n
  have HB1 := hideB b1
  have hm1 : measLf w1 rb s.size ≤ s.size + 1 := by have := hn1.meas; omega
  have HSG := hideB (sign_n (l := 2) (by decide) (by decide) (by omega) hn1 HTG.out hm1)
  clear h b1 hn1 c0 c1 c2 HPR hm1
  go_wp2_with fail
  refine HSG.out.mono ?_
  rintro e w2 ⟨k2, rfl, b2, hh2, _⟩
  have HH2 := hideB hh2
  have HB2 := hideB (HB1.out.trans b2)
  clear b2 hh2 HSG HTG
  go_wp2_with fail
  go_loopw [5, 6, 7, 8] (fun av kv _ _ wr => ∃ (g : Nat) (n k : Int), av = .int .i64 n ∧ kv = .int .i64 k ∧ HeadL R tg 2 g n k rb base Z s p wr ∧ LB rb base Z w wr) (fun _ kv _ _ wr => if intOf kv = 0 then 0 else 1 + measLf wr rb s.size)
  case atStart => exact ⟨s.size, n1, k2, rfl, rfl, HH2.out, HB2.out⟩
  case round =>
    obtain ⟨g, n, k, rfl, rfl, hh, hbt⟩ := hrel
    have HBT := hideIt hbt
    clear HH2 HB2 HB1
    rcases hh with ⟨rfl, hn⟩ | ⟨hk, fs2, p2, ha2, hl2, hp2, hrg, hmg, ht2⟩
    · have HN2 := hideIt hn
      clear hn hbt
      go_wp2_with fail
      go_ret
      exact HN2.out.or (Nat.le_refl _) HBT.out
    · obtain ⟨c0, c1, c2⟩ := ha2.cells
      have HRG : Hid (rgtF k = 3) := hrg
      have HT2 := hideIt ht2
      rw [HRG.out] at HT2
      have hk' : ((k : Int) == 0) = false := by simpa using hk
      have hk'' : ((k : Int) != 0) = true := by simpa using hk
      have hpos : 0 < measLf wr rb s.size := by
        rw [ha2.meas, if_neg (by decide)]
        have := ha2.le
        omega
      have hmw : measLf wr rb s.size = s.size + 1 - p2 := by rw [ha2.meas, if_neg (by decide)]
      have HMW := hideIt hmw
      have HPOS := hideIt hpos
      have HMG := hideIt hmg
      have HLV := hideIt (HHR.out 3 Z fs2 p2 wr (by decide) (by decide) ha2.zb ha2 hl2 (by omega))
      have HK0 : Hid (k ≠ 0) := hk
      clear hbt ha2 hrg hmg ht2 hpos hmw
      go_wp2_with fail
      refine HLV.out.mono ?_
      intro e w3 h3
      obtain ⟨n3, rfl, b3, hn3⟩ := h3.n
      have HB3 := hideIt (HBT.out.trans b3)
      have HM3 := hideIt hn3.meas
      obtain ⟨r3, hr3⟩ : ∃ r3, R 3 fs2 (skF s.data.toList p2) = r3 := ⟨_, rfl⟩
      rw [hr3] at HT2 hn3
      have HVAL : Hid (∀ y, r3 = some y → y.1 = n3) := by
        obtain ⟨_, _, _, ⟨h1, _⟩ | ⟨h1, _⟩⟩ := hn3
        · intro y hy; rw [h1] at hy; cases hy; rfl
        · intro y hy; rw [h1] at hy; cases hy
      have HA := hideIt (addR_m (p0 := p) hn3.st hs (by omega) hn3.zb k [n, n3] (by simp))
      have HEQ : Hid (bindF r3 (fun b fs q => addF WSp (nodeR k [n, b]) fs q) = (r3.map (·.2)).bind fun x => addF WSp (nodeR k [n, n3]) x.1 x.2) := by
        rw [Hid]
        cases e : r3 with
        | none => rfl
        | some y => obtain ⟨b, f4, q4⟩ := y; obtain rfl : b = n3 := HVAL.out _ e; rfl
      rw [HEQ.out] at HT2
      clear h3 b3 hn3 hr3 c0 c1 c2
      go_wp2_with fail
      refine HA.out.mono ?_
      rintro e w4 ⟨n4, rfl, b4, hn4, hm4⟩
      have HB4 := hideIt (HB3.out.trans b4)
      have HM4 : Hid (measLf w4 rb s.size ≤ measLf wr rb s.size) := by rw [Hid]; have := HM3.out; have := HMW.out; omega
      obtain ⟨g, rfl⟩ : ∃ g', g = g' + 1 := ⟨g - 1, by have := HPOS.out; have := HMG.out; omega⟩
      have HSG2 := hideIt (sign_n (l := 2) (g := g) (tg := tg) (R := R) (by decide) (by decide) (by omega) hn4 (by rw [HT2.out]; rfl) (by have := HM4.out; have := HMG.out; omega))
      clear b4 hn4 hm4
      go_wp2_with fail
      refine HSG2.out.mono ?_
      rintro e w5 ⟨k5, rfl, b5, hh5, hm5⟩
      have HH5 := hideIt hh5
      have HB5 := hideIt (HB4.out.trans b5)
      have HM5 := hideIt hm5
      clear b5 hh5 hm5
      go_wp2_with fail
      go_roundw
      case rel => exact ⟨g, n4, k5, rfl, rfl, HH5.out, HB5.out⟩
      case measure =>
        have h1 := HM4.out
        have h2 := HPOS.out
        have h0 := HK0.out
        have e1 : intOf (Value.int .i64 k) = k := rfl
        have e2 : intOf (Value.int .i64 k5) = k5 := rfl
        rw [e1, e2, if_neg h0]
        by_cases h5 : k5 = 0
        · rw [if_pos h5]; omega
        · rw [if_neg h5]; have := HM5.out h5; omega
set_option maxRecDepth 100000 in
set_option maxHeartbeats 6400000 in
theorem lfLevel_1 (HN : ∀ (Z : Nat → Prop) (fs : List FN) (p : Nat) (w : World), (∀ x, Z x → x < w.heap.size) → LfAt w rb base Z s p false fs → fs.length ≤ 40 → s.size ≤ p + f → Calls Tryz.prog 43 #[.pointer (some ⟨rb, 0, none⟩), .int .i64 2] w (LfOr (lvS R s.data.toList WSp 4 fs (skF s.data.toList p)) rb base Z s p w))
    {p : Nat} {Z : Nat → Prop} {fs : List FN} {w : World} (h : LfAt w rb base Z s p false fs) (hZ : ∀ x, Z x → x < w.heap.size) (hs : s.size ≤ 1000) (hl : fs.length ≤ 40) (hf : s.size ≤ p + f) :
    Calls Tryz.prog 43 #[.pointer (some ⟨rb, 0, none⟩), .int .i64 1] w (LfOr (lvS R s.data.toList WSp 5 fs (skF s.data.toList p)) rb base Z s p w) := by
  have HLN := hideB (len_is s)
  obtain ⟨c0, c1, c2⟩ := h.cells
  have HPR := hideB (HN Z fs p w hZ h hl hf)
  have HHR := hideB HR
  obtain ⟨tg, htg⟩ : ∃ tg, lvS R s.data.toList WSp 5 fs (skF s.data.toList p) = tg := ⟨_, rfl⟩
  have HTG : Hid (tg = bindF (lvS R s.data.toList WSp 4 fs (skF s.data.toList p)) fun n fs q => sgnS R s.data.toList WSp 1 (s.size + 1) n fs q) := by rw [Hid, ← htg, ← HLN.out]; rfl
  obtain ⟨cu, hcu⟩ : ∃ cu, lvS R s.data.toList WSp 4 fs (skF s.data.toList p) = cu := ⟨_, rfl⟩
  rw [hcu] at HPR HTG
  rw [htg]
  clear h hZ HR htg hcu HN
  go_enter Tryz.func43, Tryz.ntmps43
  go_wp2_with fail
  refine HPR.out.mono ?_
  intro e w1 h
  obtain ⟨n1, rfl, b1, hn1⟩ := h.n
  have HB1 := hideB b1
  have hm1 : measLf w1 rb s.size ≤ s.size + 1 := by have := hn1.meas; omega
  have HSG := hideB (sign_n (l := 1) (by decide) (by decide) (by omega) hn1 HTG.out hm1)
  clear h b1 hn1 c0 c1 c2 HPR hm1
  go_wp2_with fail
  refine HSG.out.mono ?_
  rintro e w2 ⟨k2, rfl, b2, hh2, _⟩
  have HH2 := hideB hh2
  have HB2 := hideB (HB1.out.trans b2)
  clear b2 hh2 HSG HTG
  go_wp2_with fail
  go_loopw [5, 6, 7, 8] (fun av kv _ _ wr => ∃ (g : Nat) (n k : Int), av = .int .i64 n ∧ kv = .int .i64 k ∧ HeadL R tg 1 g n k rb base Z s p wr ∧ LB rb base Z w wr) (fun _ kv _ _ wr => if intOf kv = 0 then 0 else 1 + measLf wr rb s.size)
  case atStart => exact ⟨s.size, n1, k2, rfl, rfl, HH2.out, HB2.out⟩
  case round =>
    obtain ⟨g, n, k, rfl, rfl, hh, hbt⟩ := hrel
    have HBT := hideIt hbt
    clear HH2 HB2 HB1
    rcases hh with ⟨rfl, hn⟩ | ⟨hk, fs2, p2, ha2, hl2, hp2, hrg, hmg, ht2⟩
    · have HN2 := hideIt hn
      clear hn hbt
      go_wp2_with fail
      go_ret
      exact HN2.out.or (Nat.le_refl _) HBT.out
    · obtain ⟨c0, c1, c2⟩ := ha2.cells
      have HRG : Hid (rgtF k = 1) := hrg
      have HT2 := hideIt ht2
      rw [HRG.out] at HT2
      have hk' : ((k : Int) == 0) = false := by simpa using hk
      have hk'' : ((k : Int) != 0) = true := by simpa using hk
      have hpos : 0 < measLf wr rb s.size := by
        rw [ha2.meas, if_neg (by decide)]
        have := ha2.le
        omega
      have hmw : measLf wr rb s.size = s.size + 1 - p2 := by rw [ha2.meas, if_neg (by decide)]
      have HMW := hideIt hmw
      have HPOS := hideIt hpos
      have HMG := hideIt hmg
      have HLV := hideIt (HHR.out 1 Z fs2 p2 wr (by decide) (by decide) ha2.zb ha2 hl2 (by omega))
      have HK0 : Hid (k ≠ 0) := hk
      clear hbt ha2 hrg hmg ht2 hpos hmw
      go_wp2_with fail
      refine HLV.out.mono ?_
      intro e w3 h3
      obtain ⟨n3, rfl, b3, hn3⟩ := h3.n
      have HB3 := hideIt (HBT.out.trans b3)
      have HM3 := hideIt hn3.meas
      obtain ⟨r3, hr3⟩ : ∃ r3, R 1 fs2 (skF s.data.toList p2) = r3 := ⟨_, rfl⟩
      rw [hr3] at HT2 hn3
      have HVAL : Hid (∀ y, r3 = some y → y.1 = n3) := by
        obtain ⟨_, _, _, ⟨h1, _⟩ | ⟨h1, _⟩⟩ := hn3
        · intro y hy; rw [h1] at hy; cases hy; rfl
        · intro y hy; rw [h1] at hy; cases hy
      have HA := hideIt (addR_m (p0 := p) hn3.st hs (by omega) hn3.zb k [n, n3] (by simp))
      have HEQ : Hid (bindF r3 (fun b fs q => addF WSp (nodeR k [n, b]) fs q) = (r3.map (·.2)).bind fun x => addF WSp (nodeR k [n, n3]) x.1 x.2) := by
        rw [Hid]
        cases e : r3 with
        | none => rfl
        | some y => obtain ⟨b, f4, q4⟩ := y; obtain rfl : b = n3 := HVAL.out _ e; rfl
      rw [HEQ.out] at HT2
      clear h3 b3 hn3 hr3 c0 c1 c2
      go_wp2_with fail
      refine HA.out.mono ?_
      rintro e w4 ⟨n4, rfl, b4, hn4, hm4⟩
      have HB4 := hideIt (HB3.out.trans b4)
      have HN4 := hideIt (LfN.of (r := tg) (by
        rw [HT2.out]
        show bindF _ (fun n fs q => some (n, fs, q)) = _
        generalize ((r3.map (·.2)).bind fun x => addF WSp (nodeR k [n, n3]) x.1 x.2) = c
        cases c <;> rfl) hn4)
      clear b4 hn4 hm4
      go_wp2_with fail
      go_ret
      exact HN4.out.or (Nat.le_refl _) HB4.out
/-- level at every level, with what is read within by fewer bytes. -/
theorem lfLevel_all {l : Int} {p : Nat} {Z : Nat → Prop} {fs : List FN} {w : World} (h1 : 1 ≤ l) (h6 : l ≤ 6) (h : LfAt w rb base Z s p false fs) (hZ : ∀ x, Z x → x < w.heap.size) (hs : s.size ≤ 1000) (hl : fs.length ≤ 40) (hf : s.size ≤ p + f) :
    Calls Tryz.prog 43 #[.pointer (some ⟨rb, 0, none⟩), .int .i64 l] w (LfOr (lvS R s.data.toList WSp (6 - l.toNat) fs (skF s.data.toList p)) rb base Z s p w) := by
  have L6 := fun Z fs p w hZ h hl hf => lfLevel_6 HR (Z := Z) (fs := fs) (p := p) (w := w) h hZ hs hl hf
  have L5 := fun Z fs p w hZ h hl hf => lfLevel_5 HR L6 (Z := Z) (fs := fs) (p := p) (w := w) h hZ hs hl hf
  have L4 := fun Z fs p w hZ h hl hf => lfLevel_4 HR L5 (Z := Z) (fs := fs) (p := p) (w := w) h hZ hs hl hf
  have L3 := fun Z fs p w hZ h hl hf => lfLevel_3 HR L4 (Z := Z) (fs := fs) (p := p) (w := w) h hZ hs hl hf
  have L2 := fun Z fs p w hZ h hl hf => lfLevel_2 HR L3 (Z := Z) (fs := fs) (p := p) (w := w) h hZ hs hl hf
  have L1 := fun Z fs p w hZ h hl hf => lfLevel_1 HR L2 (Z := Z) (fs := fs) (p := p) (w := w) h hZ hs hl hf
  rcases (show l = 1 ∨ l = 2 ∨ l = 3 ∨ l = 4 ∨ l = 5 ∨ l = 6 by omega) with rfl | rfl | rfl | rfl | rfl | rfl
  · exact L1 Z fs p w hZ h hl hf
  · exact L2 Z fs p w hZ h hl hf
  · exact L3 Z fs p w hZ h hl hf
  · exact L4 Z fs p w hZ h hl hf
  · exact L5 Z fs p w hZ h hl hf
  · exact L6 Z fs p w hZ h hl hf
end
/-- level, for texts with less than f bytes left. -/
theorem lfLevel_any {rb base : Nat} {s : ByteArray} (hs : s.size ≤ 1000) : ∀ f, RdsS (readS WSp s.data.toList f) f rb base s := by
  intro f
  induction f with
  | zero => intro l Z fs p w _ _ _ h _ hf; have := h.le; omega
  | succ f ih =>
    intro l Z fs p w h1 h6 hZ h hl hf
    exact lfLevel_all ih h1 h6 h hZ hs hl (by omega)
end Go.Proofs.YtehihemfepbmfaaGreatDoor
