/-
  The program's filterWriter: write; FilterText.
-/
import Derived.Test.YtehihemfepbmfaaGreatDoorFImp2
namespace Go.Proofs.YtehihemfepbmfaaGreatDoor
open Go.RowKit
set_option linter.unusedSimpArgs false
set_option linter.unusedVariables false

theorem GB.first {T : TypeId} {B b : Nat} {F : Value} {rest : List Value} {l : List UInt8} {w : World} (h : GB T B b F rest l w) : w.cell? ⟨b, 0, none⟩ = some F := by
  obtain ⟨hB, p, v, hp, hb, _⟩ := h
  exact cellAt hb (i := 0) (by simp)
theorem JtB.wide {B C : Nat} {w : World} (h : JtB B w) (hBC : B ≤ C) : JtB C w := fun w2 h2 => h w2 (h2.mono hBC)
theorem jointR_yes {k : Int} (h : isJ k = true) : jointR k = .tuple #[.agg #[.int .i64 k, .string (txt (sgnJ k)), .int .i64 (levF k), .int .i64 (lftJ k), .int .i64 (rgtJ k)], .bool true] := by unfold jointR; rw [if_pos h]; rfl
theorem jointR_no {k : Int} (h : isJ k = false) : jointR k = .tuple #[.agg #[.int .i64 0, .string ByteArray.empty, .int .i64 0, .int .i64 0, .int .i64 0], .bool false] := by unfold jointR; rw [h]; rfl
theorem joint_in {k : Int} (h1 : 1 ≤ k) (h2 : k ≤ 23) (hJ : isJ k = true) : (kidsN k = 1 ∧ rgtJ k = 0 ∨ kidsN k = 2 ∧ 0 < rgtJ k) ∧ 1 ≤ lftJ k ∧ lftJ k ≤ 6 ∧ rgtJ k ≤ 6 ∧ k ≠ 8 ∧ k ≠ 9 := by
  rcases isJ_kinds h1 h2 hJ with h | h | h | h | h | h | h | h | h | h <;> subst h <;> decide

set_option maxRecDepth 100000 in
set_option maxHeartbeats 6400000 in
theorem write_whole {B b : Nat} {F : Value} {fs : List FN} {f n : Nat} {least : Int} (hx : fnodeB (fnAt fs n) = true) (hn : n < fs.length) (ih : KidsR B b F fs f (fnAt fs n)) (hJ : isJ (fnAt fs n).kind = false) : FwR B b F fs n least (bodyF (fTxt fs f) (fnAt fs n)) := by
  intro l w hg hp hlen
  have HP := hideB hp
  have z0 := hp.hB
  have hbl := hg.lt
  have c := hg.first
  obtain ⟨hfl, a, cap, rfl, hcv⟩ := hp.nodes
  obtain ⟨bv, ov, rfl, hbv, hcv'⟩ := hcv (by omega)
  obtain ⟨kc, kn, ki, hnd⟩ := hcv' n hn
  obtain ⟨_, aC, cC, eC, _⟩ := hnd.inn.cst
  obtain ⟨_, _, aK, cK, eK, _⟩ := hnd.inn.names
  obtain ⟨_, _, aI, cI, eI, _⟩ := hnd.inn.kids
  subst eC eK eI
  obtain ⟨x, hxe⟩ : ∃ x, fnAt fs n = x := ⟨_, rfl⟩
  rw [hxe] at hx ih hJ hlen hnd ⊢
  have HXE := hideB hxe
  clear hxe
  have c0 := hnd.c0
  have c1 := hnd.c1
  have c2 := hnd.c2
  have c3 := hnd.c3
  have c4 := hnd.c4
  have c5 := hnd.c5
  have hk := kind_inw hx
  obtain ⟨W1, hW1⟩ : ∃ W1, w.alloc (.cells #[.int .i64 x.kind, .string x.name, .int .i64 x.place, .slice aC x.cst.length cC, .slice aK x.names.length cK, .slice aI x.kids.length cI] 51) = W1 := ⟨_, rfl⟩
  have HW1 := hideB hW1
  have HX : Hid (W1.heap[w.heap.size]? = some (.cells #[.int .i64 x.kind, .string x.name, .int .i64 x.place, .slice aC x.cst.length cC, .slice aK x.names.length cK, .slice aI x.kids.length cI] 51 (0, 0))) := by rw [Hid, ← hW1]; exact heap_alloc_new w _
  have HG : Hid (GF B b (.slice (some ⟨bv, ov, none⟩) fs.length cap) l W1) := by rw [Hid, ← hW1]; exact hg.alloc _
  have HBX : Hid (Below B w W1) := by rw [Hid, ← hW1]; exact (Below.refl _ _).alloc z0 _
  have HKX : Hid (Beside b w W1) := by rw [Hid, ← hW1]; exact Beside.alloc _ _ _
  have z1 : B ≤ W1.heap.size := Nat.le_trans z0 HBX.out.size
  have HJC := hideB (fun W (hb : Below B w W) (hz : B ≤ W.heap.size) => jointOf_any x.kind W ((hp.jt.next hb).wide hz) hk.1 hk.2)
  rw [jointR_no hJ] at HJC
  have HNI := hideB hnd.inn
  have HWH := hideB (fun W (hb : Below B w W) (hg : GF B b (.slice (some ⟨bv, ov, none⟩) fs.length cap) l W) => whole_any hx hJ ih l W (hnd.inn.below hb) hg (hp.next hb) hlen)
  have d0 : W1.cell? ⟨w.heap.size, 0, none⟩ = some (.int .i64 x.kind) := cellAt HX.out (i := 0) rfl
  clear hg hp hW1 hlen hx ih hJ hnd hcv hcv'
  go_enter Tryz.func23, Tryz.ntmps23
  go_wp2_with fail
  rw [HW1.out]
  refine (HJC.out W1 HBX.out z1).mono ?_
  rintro e w2 ⟨rfl, b2⟩
  obtain ⟨W2, hW2⟩ : ∃ W2, w2.alloc (.cells #[.int .i64 0, .string ByteArray.empty, .int .i64 0, .int .i64 0, .int .i64 0] 91) = W2 := ⟨_, rfl⟩
  have HW2 := hideB hW2
  have HB2 : Hid (Below W1.heap.size W1 W2) := by rw [Hid, ← hW2]; exact b2.alloc b2.size _
  have HG2 := hideB (HG.out.keep HB2.out)
  have HX2 := hideB ((HB2.out.block _ (lt_heap HX.out)).trans HX.out)
  have HBW := hideB (HBX.out.trans (HB2.out.mono z1))
  have HKW := hideB (HKX.out.trans (Beside.below HB2.out))
  have e0 : W2.cell? ⟨w.heap.size, 0, none⟩ = some (.int .i64 x.kind) := cellAt HX2.out (i := 0) rfl
  have e1 : W2.cell? ⟨w.heap.size, 1, none⟩ = some (.string x.name) := cellAt HX2.out (i := 1) rfl
  have e2 : W2.cell? ⟨w.heap.size, 2, none⟩ = some (.int .i64 x.place) := cellAt HX2.out (i := 2) rfl
  have e3 : W2.cell? ⟨w.heap.size, 3, none⟩ = some (.slice aC x.cst.length cC) := cellAt HX2.out (i := 3) rfl
  have e4 : W2.cell? ⟨w.heap.size, 4, none⟩ = some (.slice aK x.names.length cK) := cellAt HX2.out (i := 4) rfl
  have e5 : W2.cell? ⟨w.heap.size, 5, none⟩ = some (.slice aI x.kids.length cI) := cellAt HX2.out (i := 5) rfl
  clear b2 hW2
  go_upto_region 4 with fail
  rw [HW2.out]
  go_wp2_with fail
  refine (HWH.out W2 HBW.out HG2.out).mono ?_
  rintro e w3 ⟨rfl, f3, b3, k3⟩
  have HF3 := hideB f3
  have HB3 := hideB (HBW.out.trans b3)
  have HK3 := hideB (HKW.out.trans k3)
  clear f3 b3 k3
  go_wp2_with fail
  go_end0
  exact ⟨rfl, HF3.out, HB3.out, HK3.out⟩
end Go.Proofs.YtehihemfepbmfaaGreatDoor

/-
  The program's filterWriter: write at a joint; FilterText.
-/
namespace Go.Proofs.YtehihemfepbmfaaGreatDoor
open Go.RowKit
set_option linter.unusedSimpArgs false
set_option linter.unusedVariables false

set_option maxRecDepth 100000 in
set_option maxHeartbeats 6400000 in
theorem write_joined {B b : Nat} {F : Value} {fs : List FN} {f n : Nat} {least : Int} (hx : fnodeB (fnAt fs n) = true) (hn : n < fs.length) (ih : KidsR B b F fs f (fnAt fs n)) (hJ : isJ (fnAt fs n).kind = true) (hl : ¬ levF (fnAt fs n).kind < least) : FwR B b F fs n least (bodyF (fTxt fs f) (fnAt fs n)) := by
  intro l w hg hp hlen
  have z0 := hp.hB
  have hbl := hg.lt
  have c := hg.first
  obtain ⟨hfl, a, cap, rfl, hcv⟩ := hp.nodes
  obtain ⟨bv, ov, rfl, hbv, hcv'⟩ := hcv (by omega)
  obtain ⟨kc, kn, ki, hnd⟩ := hcv' n hn
  obtain ⟨_, aC, cC, eC, _⟩ := hnd.inn.cst
  obtain ⟨_, _, aK, cK, eK, _⟩ := hnd.inn.names
  obtain ⟨_, _, aI, cI, eI, hkc⟩ := hnd.inn.kids
  subst eC eK eI
  obtain ⟨x, hxe⟩ : ∃ x, fnAt fs n = x := ⟨_, rfl⟩
  rw [hxe] at hx ih hJ hlen hnd hl hkc ⊢
  have HXE := hideB hxe
  clear hxe
  have c0 := hnd.c0
  have c1 := hnd.c1
  have c2 := hnd.c2
  have c3 := hnd.c3
  have c4 := hnd.c4
  have c5 := hnd.c5
  have hk := kind_inw hx
  obtain ⟨hM, jl1, jl2, jr, j8, j9⟩ := joint_in hk.1 hk.2 hJ
  have hkn := ((fit_kids hx).2.2.1 j8 j9).2.2
  have HKC : Hid (KidsAt B w aI x.kids.length x.kids) := ⟨rfl, hkc⟩
  obtain ⟨W1, hW1⟩ : ∃ W1, w.alloc (.cells #[.int .i64 x.kind, .string x.name, .int .i64 x.place, .slice aC x.cst.length cC, .slice aK x.names.length cK, .slice aI x.kids.length cI] 51) = W1 := ⟨_, rfl⟩
  have HW1 := hideB hW1
  have HX : Hid (W1.heap[w.heap.size]? = some (.cells #[.int .i64 x.kind, .string x.name, .int .i64 x.place, .slice aC x.cst.length cC, .slice aK x.names.length cK, .slice aI x.kids.length cI] 51 (0, 0))) := by rw [Hid, ← hW1]; exact heap_alloc_new w _
  have HG : Hid (GF B b (.slice (some ⟨bv, ov, none⟩) fs.length cap) l W1) := by rw [Hid, ← hW1]; exact hg.alloc _
  have HBX : Hid (Below B w W1) := by rw [Hid, ← hW1]; exact (Below.refl _ _).alloc z0 _
  have HKX : Hid (Beside b w W1) := by rw [Hid, ← hW1]; exact Beside.alloc _ _ _
  have z1 : B ≤ W1.heap.size := Nat.le_trans z0 HBX.out.size
  have HJC := hideB (fun W (hb : Below B w W) (hz : B ≤ W.heap.size) => jointOf_any x.kind W ((hp.jt.next hb).wide hz) hk.1 hk.2)
  rw [jointR_yes hJ] at HJC
  have hbody := bodyF_J (R := fTxt fs f) hk.1 hk.2 hJ
  rw [hbody] at hlen ⊢
  have hlen' : (l ++ fTxt fs f (intAt x.kids 0) (lftJ x.kind) ++ (txt (sgnJ x.kind)).data.toList ++ (if 0 < rgtJ x.kind then fTxt fs f (intAt x.kids 1) (rgtJ x.kind) else [])).length ≤ 100000000 := by
    simp only [List.length_append] at hlen ⊢
    have : (txt (sgnJ x.kind)).data.toList = sgnJ x.kind := by simp [txt]
    rw [this]; omega
  have HEQ : Hid (l ++ (fTxt fs f (intAt x.kids 0) (lftJ x.kind) ++ sgnJ x.kind ++ (if 0 < rgtJ x.kind then fTxt fs f (intAt x.kids 1) (rgtJ x.kind) else [])) = l ++ fTxt fs f (intAt x.kids 0) (lftJ x.kind) ++ (txt (sgnJ x.kind)).data.toList ++ (if 0 < rgtJ x.kind then fTxt fs f (intAt x.kids 1) (rgtJ x.kind) else [])) := by
    have : (txt (sgnJ x.kind)).data.toList = sgnJ x.kind := by simp [txt]
    rw [Hid, this]; simp only [List.append_assoc]
  rw [HEQ.out]
  have HWH : Hid (∀ W, Below B w W → GF B b (.slice (some ⟨bv, ov, none⟩) fs.length cap) l W → Calls Tryz.prog 60 #[.pointer (some ⟨b, 0, none⟩), .agg #[.int .i64 x.kind, .string (txt (sgnJ x.kind)), .int .i64 (levF x.kind), .int .i64 (lftJ x.kind), .int .i64 (rgtJ x.kind)], .slice aI x.kids.length cI] W fun e w' => e = .returned (.tuple #[]) ∧ GF B b (.slice (some ⟨bv, ov, none⟩) fs.length cap) (l ++ fTxt fs f (intAt x.kids 0) (lftJ x.kind) ++ (txt (sgnJ x.kind)).data.toList ++ (if 0 < rgtJ x.kind then fTxt fs f (intAt x.kids 1) (rgtJ x.kind) else [])) w' ∧ Below B W w' ∧ Beside b W w') := by
    intro W hb hgW
    refine writeJoined_any (kids := x.kids) (by omega) ?_ (fun h0 => ?_) l W ⟨HKC.out.1, fun h0 => ?_⟩ hgW (hp.next hb) hlen'
    · obtain ⟨q, hq, hr⟩ := ih 0 (by omega)
      exact ⟨q, hq, hr _ jl1 jl2⟩
    · obtain ⟨q, hq, hr⟩ := ih 1 (by omega)
      exact ⟨q, hq, hr _ (by omega) jr⟩
    · obtain ⟨bi, oi, e, hbi, hc⟩ := HKC.out.2 h0
      exact ⟨bi, oi, e, hbi, fun i hi => (below_cell hb hbi).trans (hc i hi)⟩
  have d0 : W1.cell? ⟨w.heap.size, 0, none⟩ = some (.int .i64 x.kind) := cellAt HX.out (i := 0) rfl
  clear hg hp hW1 hlen hx ih hJ hnd hcv hcv' hkc hbody hlen' HEQ HKC
  obtain ⟨RR, hRR⟩ : ∃ RR, l ++ fTxt fs f (intAt x.kids 0) (lftJ x.kind) ++ (txt (sgnJ x.kind)).data.toList ++ (if 0 < rgtJ x.kind then fTxt fs f (intAt x.kids 1) (rgtJ x.kind) else []) = RR := ⟨_, rfl⟩
  obtain ⟨sg, hsg⟩ : ∃ sg, txt (sgnJ x.kind) = sg := ⟨_, rfl⟩
  obtain ⟨lv, hlv⟩ : ∃ lv, levF x.kind = lv := ⟨_, rfl⟩
  obtain ⟨lf, hlf⟩ : ∃ lf, lftJ x.kind = lf := ⟨_, rfl⟩
  obtain ⟨rg, hrg⟩ : ∃ rg, rgtJ x.kind = rg := ⟨_, rfl⟩
  simp only [hRR] at HWH ⊢
  rw [hsg, hlv, hlf, hrg] at HWH HJC
  rw [hlv] at hl
  clear hRR hsg hlv hlf hrg hM jl1 jl2 jr j8 j9 hkn
  go_enter Tryz.func23, Tryz.ntmps23
  go_wp2_with fail
  rw [HW1.out]
  refine (HJC.out W1 HBX.out z1).mono ?_
  rintro e w2 ⟨rfl, b2⟩
  obtain ⟨W2, hW2⟩ : ∃ W2, w2.alloc (.cells #[.int .i64 x.kind, .string sg, .int .i64 lv, .int .i64 lf, .int .i64 rg] 91) = W2 := ⟨_, rfl⟩
  have HW2 := hideB hW2
  have HB2 : Hid (Below W1.heap.size W1 W2) := by rw [Hid, ← hW2]; exact b2.alloc b2.size _
  have HG2 := hideB (HG.out.keep HB2.out)
  have HX2 := hideB ((HB2.out.block _ (lt_heap HX.out)).trans HX.out)
  have HY2 : Hid (W2.heap[w2.heap.size]? = some (.cells #[.int .i64 x.kind, .string sg, .int .i64 lv, .int .i64 lf, .int .i64 rg] 91 (0, 0))) := by rw [Hid, ← hW2]; exact heap_alloc_new w2 _
  have HBW := hideB (HBX.out.trans (HB2.out.mono z1))
  have HKW := hideB (HKX.out.trans (Beside.below HB2.out))
  have e0 : W2.cell? ⟨w2.heap.size, 0, none⟩ = some (.int .i64 x.kind) := cellAt HY2.out (i := 0) rfl
  have e1 : W2.cell? ⟨w2.heap.size, 1, none⟩ = some (.string sg) := cellAt HY2.out (i := 1) rfl
  have e2 : W2.cell? ⟨w2.heap.size, 2, none⟩ = some (.int .i64 lv) := cellAt HY2.out (i := 2) rfl
  have e3 : W2.cell? ⟨w2.heap.size, 3, none⟩ = some (.int .i64 lf) := cellAt HY2.out (i := 3) rfl
  have e4 : W2.cell? ⟨w2.heap.size, 4, none⟩ = some (.int .i64 rg) := cellAt HY2.out (i := 4) rfl
  have e5 : W2.cell? ⟨w.heap.size, 5, none⟩ = some (.slice aI x.kids.length cI) := cellAt HX2.out (i := 5) rfl
  clear b2 hW2
  go_upto_region 3 with fail
  rw [HW2.out]
  go_wp2_with fail
  refine (HWH.out W2 HBW.out HG2.out).mono ?_
  rintro e w3 ⟨rfl, f3, b3, k3⟩
  have HF3 := hideB f3
  have HB3 := hideB (HBW.out.trans b3)
  have HK3 := hideB (HKW.out.trans k3)
  clear f3 b3 k3
  go_wp2_with fail
  go_end0
  exact ⟨rfl, HF3.out, HB3.out, HK3.out⟩
end Go.Proofs.YtehihemfepbmfaaGreatDoor
