/-
  (*impl.treePart).withPaths: the way here, and those to all below.
-/
import Derived.Test.YtbclgogolimbgaaRowsP
import Derived.Test.YtbclgogolimbgaaFind
import Derived.Test.YtbclgogolimbgaaTVal
import Derived.Lib.SliceRun
namespace Go.Proofs.Ytbclgogolimbgaa
open Go.RowKit
set_option linter.unusedSimpArgs false
set_option linter.unusedVariables false

theorem grown_comp {w a b : World} {r0 r1 : Option Nat} (h : w.grownBy a r0) (k : a.grownBy b r1) (hr : ∀ c, r1 = some c → c < w.heap.size → r0 = some c) : w.grownBy b r0 :=
  ⟨k.os.trans h.os, k.tape.trans h.tape, k.output.trans h.output, Nat.le_trans h.size k.size, fun c hc hne => (k.block c (by have := h.size; omega) (fun e => hne (hr c e.symm hc).symm)).trans (h.block c hc hne)⟩

theorem grown_below {w w' : World} (h : Below w.heap.size w w') : w.grownBy w' none := ⟨h.os, h.tape, h.output, h.size, fun k hk _ => h.block k hk⟩

theorem infoRowP : (Try.prog.info? 31).map (fun i => (i.zero, i.size, i.bytes)) = some (some (.slice none 0 0), 1, 24) := by kernel_rfl

set_option maxRecDepth 100000 in
set_option maxHeartbeats 1600000 in
theorem clonePs_any (base : Nat) (v : Value) (ps : List PS) (w : World) (h : w.ownsRow base 82 3 v ps.length (stepCells ps)) (hl : ps.length ≤ 1000) :
    Calls Try.prog 81 #[v] w fun e w' => ∃ r, e = .returned r ∧ w'.ownsRow w.heap.size 82 3 r ps.length (stepCells ps) ∧ Below w.heap.size w w' := by
  obtain ⟨i1, hi1, hz1, hs1, hy1⟩ := info_parts infoStep
  have HO := hideIt h
  rcases h.2 with ⟨rfl, h0⟩ | ⟨g, cap, cur, rfl, _⟩
  · obtain rfl : ps = [] := List.eq_nil_of_length_eq_zero h0
    have hnil := fun w => Lib.run_eql_slice_nil (P := Try.prog) w 31 82 none 0 0 0 0 Try.underlying31
    clear h h0
    go_enter Try.func81, Try.ntmps81
    go_wp2_with fail
    go_ret
    exact ⟨.slice none 0 0, rfl, World.ownsRow_nil _ _ _ _, Below.refl _ _⟩
  · obtain ⟨n, hn⟩ : ∃ n, ps.length = n := ⟨_, rfl⟩
    rw [hn] at HO hl ⊢
    have hnil := fun w => Lib.run_eql_slice_nil (P := Try.prog) w 31 82 (some ⟨g, 0, none⟩) n cap 0 0 Try.underlying31
    have HLN : Hid ((stepCells ps).length = n * 3) := by rw [Hid, stepCells_len, hn]
    clear h hn
    have HOWN : Hid ((w.alloc (.cells #[] 82)).ownsRow w.heap.size 82 3 (.slice (some ⟨w.heap.size, 0, none⟩) 0 0) 0 []) := by
      have := World.ownsRow_lit (base := w.heap.size) (e := 82) (size := 3) w #[] 0 (Nat.le_refl _) (by simp [maxLen]) rfl
      simpa [Hid] using this
    have hgl := (HO.out.lt g rfl).2
    have HSRC : Hid (0 < n → ∃ ad', some (⟨g, 0, none⟩ : Addr) = some ad' ∧ ∀ j u, (stepCells ps)[j]? = some u → (w.alloc (.cells #[] 82)).cell? (ad'.add j) = some u) := by
      intro hp
      refine ⟨⟨g, 0, none⟩, rfl, fun j u hj => ?_⟩
      have hj' : j < n * 3 := by rw [← HLN.out]; exact (List.getElem?_eq_some_iff.1 hj).1
      have ea : (⟨g, 0, none⟩ : Addr).add j = ⟨g, j, none⟩ := by unfold Addr.add; split <;> simp_all
      rw [ea, below_cell ((Below.refl w.heap.size w).alloc (Nat.le_refl _) _) hgl, HO.out.cellAt j hj']
      exact hj
    go_enter Try.func81, Try.ntmps81
    go_wp2_with (at_builtin; refine wpList_append_src rfl _ _ 31 rfl w.heap.size 82 i1 zeroStep 3 32 Try.underlying31 hi1 hz1 hs1 hy1 rfl (by decide) _ 0 [] rfl HOWN.out (some ⟨g, 0, none⟩) n cap (stepCells ps) rfl HLN.out HSRC.out ?c2 ?c3 ?c4 ?c5 ?_)
    case c2 => exact stepCells_one ps
    case c3 => unfold maxLen; omega
    case c4 => omega
    case c5 => simp
    intro v' w2 hk2 hg2 hat2
    (try simp only [Nat.zero_add, List.nil_append] at hk2)
    have hb2 : Below w.heap.size w w2 := ((Below.refl w.heap.size w).alloc (Nat.le_refl _) _).grown hg2 (by simp) (fun r hr => by simp [Value.ownBlock] at hr; omega)
    obtain ⟨ar, cr, er⟩ := own_slice hk2
    subst er
    clear hg2 hat2
    go_wp2_with fail
    go_ret
    exact ⟨_, rfl, hk2, hb2⟩

/-- The step that stepTo answers. -/
def stepV (x : PS) : Value := .agg #[.bool x.named, .string x.key, .int .i64 x.pl]

set_option maxRecDepth 100000 in
set_option maxHeartbeats 1600000 in
theorem stepTo_key (p : Nat) (kv : Value) (keys : List ByteArray) (i : Nat) (w : World) (h1 : w.cell? ⟨p, 1, none⟩ = some kv) (hk : StrsAt w.heap.size w kv keys) (hi : i < keys.length) (hp : p < w.heap.size) :
    Calls Try.prog 82 #[.pointer (some ⟨p, 0, none⟩), .int .i64 i] w fun e w' => e = .returned (.agg #[.bool true, .string (keyAt keys i), .int .i64 0]) ∧ Below w.heap.size w w' := by
  obtain ⟨_, _, a, c, rfl, hc⟩ := hk
  obtain ⟨b, o, rfl, hb, hcc⟩ := hc (by omega)
  have hci := hcc i hi
  have hne : ¬ (p = w.heap.size) := by omega
  have hne2 : ¬ (b = w.heap.size) := by omega
  have hpos : (0 : Int) < (keys.length : Int) := by omega
  have hil : (i : Int) < (keys.length : Int) := by omega
  clear hcc hc
  go_enter Try.func82, Try.ntmps82
  go_wp2_with fail
  refine bodyPost_ret (v := .agg #[.bool true, .string (keyAt keys i), .int .i64 0]) (by simp [results, Try.results82, go_sem]) rfl ⟨rfl, ?_⟩
  repeat (first | exact Below.refl _ _ | refine Below.setCell ?_ (by simp <;> omega) _ | refine Below.alloc ?_ (by simp <;> omega) _)

set_option maxRecDepth 100000 in
set_option maxHeartbeats 1600000 in
theorem stepTo_place (p : Nat) (a : Option Addr) (c i : Nat) (w : World) (h1 : w.cell? ⟨p, 1, none⟩ = some (.slice a 0 c)) (hp : p < w.heap.size) (hi : i ≤ 1000000) :
    Calls Try.prog 82 #[.pointer (some ⟨p, 0, none⟩), .int .i64 i] w fun e w' => e = .returned (.agg #[.bool false, .string ByteArray.empty, .int .i64 i]) ∧ Below w.heap.size w w' := by
  have hne : ¬ (p = w.heap.size) := by omega
  go_enter Try.func82, Try.ntmps82
  go_wp2_with fail
  refine bodyPost_ret (v := .agg #[.bool false, .string ByteArray.empty, .int .i64 i]) (by simp [results, Try.results82, go_sem]; rfl) rfl ⟨rfl, ?_⟩
  repeat (first | exact Below.refl _ _ | refine Below.setCell ?_ (by simp <;> omega) _ | refine Below.alloc ?_ (by simp <;> omega) _)

/-- stepTo of a part of a right value. -/
theorem stepTo_any {B : Nat} {vs : List VN} (hok : okB vs = true) {f q lo hi p : Nat} (hq : q < vs.length) (i : Nat) (hil : i < (nodeAt vs q).kids.length) (w : World) (h : PT B w (f + 1) (treeOf vs (f + 1) q) lo hi (.pointer (some ⟨p, 0, none⟩))) :
    Calls Try.prog 82 #[.pointer (some ⟨p, 0, none⟩), .int .i64 i] w fun e w' => e = .returned (.agg #[.bool (stepOf (nodeAt vs q).kind (nodeAt vs q).keys i).named, .string (stepOf (nodeAt vs q).kind (nodeAt vs q).keys i).key, .int .i64 (stepOf (nodeAt vs q).kind (nodeAt vs q).keys i).pl]) ∧ Below w.heap.size w w' := by
  have hk := keys_few hok q hq
  have hnb := ((okB_parts hok).2.1 q hq).1
  obtain ⟨sv, p', ks, it, ps, ls, hs, e, ht, hp⟩ := h
  obtain rfl : p = p' := by simpa using e
  have hlt := (hp.lt (Or.inl rfl)).2
  have c1 : w.cell? ⟨p, 1, none⟩ = some ks := by rw [hp.node.cellAt 1 (by omega)]; rfl
  by_cases h6 : (nodeAt vs q).kind = 6
  · have hso : stepOf (nodeAt vs q).kind (nodeAt vs q).keys i = ⟨true, keyAt (nodeAt vs q).keys i, 0⟩ := by unfold stepOf; rw [if_pos h6]
    rw [hso]
    unfold nodeB namedB at hnb
    simp [h6] at hnb
    have hkb : ∀ j, j < (nodeAt vs q).keys.length → (keyAt (nodeAt vs q).keys j).size ≤ 140737488355328 := fun j hj => by
      have hr := hnb.2.2
      unfold riseB at hr
      rw [List.all_eq_true] at hr
      have := hr j (List.mem_range.2 hj)
      unfold riseAt textB at this
      simp only [Bool.and_eq_true, decide_eq_true_eq] at this
      omega
    exact stepTo_key p ks (nodeAt vs q).keys i w c1 (own_strs hp.keysR (by omega) hkb) (by rw [hnb.2.1]; exact hil) hlt
  · have hso : stepOf (nodeAt vs q).kind (nodeAt vs q).keys i = ⟨false, ByteArray.empty, (i : Int)⟩ := by unfold stepOf; rw [if_neg h6]
    rw [hso]
    have hk0 : (nodeAt vs q).keys = [] := by
      unfold nodeB unnamedB at hnb
      simp [h6] at hnb
      exact hnb.1.1.2
    have hkr := hp.keysR
    rw [hk0] at hkr
    obtain ⟨a, c, rfl⟩ := own_slice hkr
    exact stepTo_place p a c i w c1 hlt (by omega)

/-- What withPaths leaves. -/
def PathsAll (B base : Nat) (vs : List VN) (f : Nat) : Prop :=
  ∀ (q lo hi : Nat) (pv all way : Value) (head : List PS) (Ls : List (List PS)) (rs : Nat → Value) (los : Nat → Nat) (w : World), q < f → q < vs.length → PT B w f (treeOf vs f q) lo hi pv → hi ≤ base → B ≤ base → base ≤ w.heap.size → RowsP base w all Ls rs los →
    w.ownsRow (los Ls.length) 82 3 way head.length (stepCells head) → head.length + f ≤ 1000 → Ls.length + (pathsN vs f q head).length ≤ 1000 →
    Calls Try.prog 40 #[pv, all, way] w fun e w' => ∃ all' rs' los', e = .returned all' ∧ RowsP base w' all' (Ls ++ pathsN vs f q head) rs' los' ∧ w.grownBy w' all.ownBlock ∧ (all'.ownBlock = all.ownBlock ∨ ∃ g, all'.ownBlock = some g ∧ w.heap.size ≤ g)

set_option maxRecDepth 100000 in
set_option maxHeartbeats 6400000 in
theorem withPaths_any (B base : Nat) (vs : List VN) (hok : okB vs = true) : ∀ f, PathsAll B base vs f := by
  intro f
  induction f with
  | zero => intro q lo hi pv all way head Ls rs los w hq; omega
  | succ f ih =>
    intro q lo hi pv all way head Ls rs los w hqf hq hpt hhi hBb hbw hrows hway hhd hcnt
    obtain ⟨p, rfl⟩ := hpt.ptr
    have HPT := hideIt hpt
    have hpt2 := hpt
    rw [treeOf] at hpt2
    obtain ⟨sv, p', ks, it, pp, ls, hs, e1, _, hp⟩ := hpt2
    obtain rfl : p = p' := by simpa using e1
    rw [List.length_map] at hp
    have hkf := keys_few hok q hq
    obtain ⟨M, hM⟩ : ∃ M, (nodeAt vs q).kids.length = M := ⟨_, rfl⟩
    have HM := hideIt hM
    rw [hM] at hp
    have hM80 : M ≤ 80 := by rw [← hM]; exact hkf.2.1
    have HP := hideIt hp
    have hpl := (hp.lt (Or.inl rfl)).2
    have hph := hp.top p (Or.inl rfl)
    obtain ⟨ai, ci, eit⟩ := own_slice hp.kidsR
    subst eit
    have HRW := hideIt hrows
    have HWY := hideIt hway
    have HOK := hideIt hok
    have hlen := hrows.row.lt
    have HAL : Hid (∀ c, c < base → all.ownBlock ≠ some c) := fun c hc e => by have := (hlen c e).1; omega
    obtain ⟨aa, ca, ea⟩ := own_slice hrows.row
    obtain ⟨nL, hnL⟩ : ∃ nL, Ls.length = nL := ⟨_, rfl⟩
    have HNL := hideIt hnL
    rw [hnL] at ea
    subst ea
    obtain ⟨aw, cw, ew⟩ := own_slice hway
    obtain ⟨nH, hnH⟩ : ∃ nH, head.length = nH := ⟨_, rfl⟩
    have HNH := hideIt hnH
    rw [hnH] at ew
    subst ew
    have hPL := pathsTo_le (vs := vs) f q head (k := 0) (Nat.zero_le _)
    rw [pathsTo_zero, List.length_singleton] at hPL
    have hnLs : nL + 1 ≤ 1000 := by omega
    have hnHs : nH ≤ 1000 := by omega
    clear hpt hp e1 hM hrows hway hlen hkf hok hnL hnH hPL
    obtain ⟨i0, hi0, hz0, hs0, hy0⟩ := info_parts infoRowP
    obtain ⟨i1, hi1, hz1, hs1, hy1⟩ := info_parts infoStep
    have HROW0 : Hid (w.ownsRow base 31 1 (.slice aa nL ca) nL ((List.range nL).map rs)) := by have := HRW.out.row; rw [HNL.out] at this; exact this
    go_enter Try.func40, Try.ntmps40
    go_wp2_with (at_builtin; refine wpList_append_own_at _ rfl _ _ 26 rfl base 31 i0 (.slice none 0 0) 1 24 Try.underlying26 hi0 hz0 hs0 hy0 rfl (by decide) _ _ _ rfl (HROW0.out.alloc _) ⟨w.heap.size, 0, none⟩ 1 1 [.slice aw nH cw] rfl rfl ?c1 ?c2 ?c3 ?c4 ?c5 ?_)
    case c1 => exact cell_one_new _ _ _
    case c2 => intro u hu; simp at hu; subst hu; rfl
    case c3 => unfold maxLen; omega
    case c4 => omega
    case c5 => simp; omega
    intro v1 w5 hown5 hgrow5 _ hor5
    have HG5 : Hid (w.grownBy w5 (Value.slice aa nL ca).ownBlock) := (World.grownBy_alloc w _ _).trans hgrow5
    have HR5 := hideIt (HRW.out.snoc (ps := head) HWY.out (by rw [HNL.out]; exact hown5) hgrow5)
    have HW5 : Hid (w5.ownsRow base 82 3 (.slice aw nH cw) head.length (stepCells head)) := own_mono (HWY.out.kept HG5.out (own_apart HWY.out HROW0.out (by decide))) (HRW.out.low _ (Nat.le_refl _))
    have hor5' : v1.ownBlock = (Value.slice aa nL ca).ownBlock ∨ ∃ g, v1.ownBlock = some g ∧ w.heap.size ≤ g := by
      rcases hor5 with e | e
      · exact Or.inl e
      · exact Or.inr ⟨_, e, by simp⟩
    have HOR5 := hideIt hor5'
    have HKP : Hid (∀ W, w.grownBy W (Value.slice aa nL ca).ownBlock → ∀ c, c < base → W.heap[c]? = w.heap[c]?) := fun W hW c hc => hW.block c (by omega) (fun e => HAL.out c hc e.symm)
    have hc2 : w5.cell? ⟨p, 2, none⟩ = some (.slice ai M ci) := by
      rw [World.cell?_of_block (HKP.out w5 HG5.out p (by omega)), HP.out.node.cellAt 2 (by omega)]; rfl
    obtain ⟨a1, c1, ev1⟩ := own_slice hown5
    subst ev1
    clear hown5 hgrow5 hor5 hor5'
    go_wp2_with fail
    go_loopw [1, 18] (fun al i wr => ∃ (k : Nat) (rs' : Nat → Value) (los' : Nat → Nat), k ≤ M ∧ i = .int .i64 k ∧ RowsP base wr al (Ls ++ pathsTo vs f q head k) rs' los' ∧ wr.ownsRow base 82 3 (.slice aw nH cw) head.length (stepCells head) ∧ w.grownBy wr (Value.slice aa nL ca).ownBlock ∧ (al.ownBlock = (Value.slice aa nL ca).ownBlock ∨ ∃ g, al.ownBlock = some g ∧ w.heap.size ≤ g)) (fun _ i _ => M - (intOf i).toNat)
    case atStart => exact ⟨0, _, _, Nat.zero_le _, rfl, by rw [pathsTo_zero]; exact HR5.out, HW5.out, HG5.out, HOR5.out⟩
    case round =>
      obtain ⟨k, rs', los', hk, rfl, hrw, hwy, hgr, hor⟩ := hrel
      have HR := hideIt hrw
      have HW := hideIt hwy
      have HG := hideIt hgr
      have HOR := hideIt hor
      have zs := hgr.size
      have hbwr : base ≤ wr.heap.size := by omega
      obtain ⟨al, cl, el⟩ := own_slice hrw.row
      obtain ⟨nA, hnA⟩ : ∃ nA, (Ls ++ pathsTo vs f q head k).length = nA := ⟨_, rfl⟩
      have HNA := hideIt hnA
      rw [hnA] at el
      subst el
      clear hrw hwy hgr hor hnA HR5 HW5 HG5 HOR5
      by_cases hlt : k < M
      · obtain ⟨gi, capi, ei, hgi1, hgl⟩ := HP.out.kidsR.form (by omega)
        cases ei
        have hgh := HP.out.top gi (Or.inr (Or.inr rfl))
        have d3 : wr.cell? ⟨gi, k, none⟩ = some (pp k) := by
          rw [World.cell?_of_block (HKP.out wr HG.out gi (by omega)), HP.out.kidsR.cellAt k (by omega)]; simp [hlt]
        have hkid := HP.out.kid k hlt
        have hrng := HP.out.rng k hlt
        rw [kidT_map (by rw [HM.out]; exact hlt)] at hkid
        have hkin := kidsIn_get (keys_few HOK.out q hq).1 (show k < (nodeAt vs q).kids.length by rw [HM.out]; exact hlt)
        obtain ⟨q2, hq2⟩ : ∃ q2 : Nat, intAt (nodeAt vs q).kids k = (q2 : Int) := ⟨(intAt (nodeAt vs q).kids k).toNat, by omega⟩
        rw [hq2] at hkid
        simp only [Int.toNat_natCast] at hkid
        obtain ⟨p2, ep2⟩ := hkid.ptr
        rw [ep2] at d3 hkid
        have HKD := hideIt hkid
        have HTO : Hid (pathsTo vs f q head (k + 1) = pathsTo vs f q head k ++ pathsN vs f q2 (head ++ [stepOf (nodeAt vs q).kind (nodeAt vs q).keys k])) := by rw [Hid, pathsTo_succ, hq2, Int.toNat_natCast]
        have hTL := pathsTo_le (vs := vs) f q head (k := k + 1) (by rw [HM.out]; exact hlt)
        rw [HTO.out, List.length_append] at hTL
        have hsum := HNA.out
        rw [List.length_append] at hsum
        have hq2q : q2 < q := by omega
        obtain ⟨x, hx⟩ : ∃ x, stepOf (nodeAt vs q).kind (nodeAt vs q).keys k = x := ⟨_, rfl⟩
        have HX := hideIt hx
        have HST := hideIt (fun W hW => stepTo_any HOK.out (f := f) (lo := lo) (hi := hi) (p := p) (B := B) hq k (by rw [HM.out]; exact hlt) W hW)
        rw [hx] at HTO hTL HST
        clear hkid ep2 hq2 hkin hx
        go_wp2_with fail
        refine (clonePs_any base _ head _ HW.out (by rw [HNH.out]; exact hnHs)).mono ?_
        rintro e w1 ⟨r1, rfl, hr1, hb1⟩
        have z1 := hb1.size
        obtain ⟨ar, cr, er⟩ := own_slice hr1
        rw [HNH.out] at er
        subst er
        have HR1 : Hid (w1.ownsRow wr.heap.size 82 3 (.slice ar nH cr) nH (stepCells head)) := by rw [HNH.out] at hr1; exact hr1
        have HB1 := hideIt hb1
        clear hr1 hb1
        go_wp2_with fail
        refine (HST.out _ (HPT.out.move (fun c hc => (HB1.out.block c (by omega)).trans (HKP.out wr HG.out c (by omega))) (Nat.le_refl _) (Nat.le_refl _) (fun c _ hc => (HB1.out.block c (by omega)).trans (HKP.out wr HG.out c (by omega))))).mono ?_
        rintro e w2 ⟨rfl, hb2⟩
        have z2 := hb2.size
        have HR2 := hideIt (own_below HR1.out hb2 (fun x hx => (HR1.out.lt x hx).2))
        have HB2 := hideIt (HB1.out.trans (hb2.mono z1))
        clear hb2
        go_wp2_with (at_builtin; refine wpList_append_own_at _ rfl _ _ 31 rfl wr.heap.size 82 i1 zeroStep 3 32 Try.underlying31 hi1 hz1 hs1 hy1 rfl (by decide) _ _ _ rfl (HR2.out.alloc _) ⟨w2.heap.size, 0, none⟩ 1 1 [.bool x.named, .string x.key, .int .i64 x.pl] rfl rfl ?c1 ?c2 ?c3 ?c4 ?c5 ?_)
        case c1 => exact World.news_of_block (cs := #[.bool x.named, .string x.key, .int .i64 x.pl]) (heap_alloc_new w2 _)
        case c2 => intro u hu; simp at hu; rcases hu with rfl | rfl | rfl <;> rfl
        case c3 => unfold maxLen; omega
        case c4 => omega
        case c5 => simp; omega
        intro r2 w3 hown3 hgrow3 _ _
        have HB3 : Hid (Below wr.heap.size wr w3) := (HB2.out.alloc (by omega) _).grown hgrow3 (by simp; omega) (fun y hy => (HR2.out.lt y hy).1)
        have z3 := HB3.out.size
        have HR3 : Hid (w3.ownsRow wr.heap.size 82 3 r2 (head ++ [x]).length (stepCells (head ++ [x]))) := by
          rw [Hid, stepCells_snoc, List.length_append, List.length_singleton, HNH.out]; exact hown3
        have hR3 := HR3.out
        obtain ⟨ar2, cr2, er2⟩ := own_slice hown3
        subst er2
        clear hown3 hgrow3 hR3
        go_wp2_with fail
        refine (ih q2 (ls k) (hs k) _ _ _ (head ++ [x]) (Ls ++ pathsTo vs f q head k) rs' los' w3 (by omega) (by omega) (HKD.out.move (fun c hc => (HB3.out.block c (by omega)).trans (HKP.out wr HG.out c (by omega))) (Nat.le_refl _) (Nat.le_refl _) (fun c _ hc => (HB3.out.block c (by omega)).trans (HKP.out wr HG.out c (by omega)))) (by omega) hBb (by omega) (HR.out.below HB3.out) (own_mono HR3.out HR.out.top) (by rw [List.length_append, List.length_singleton]; omega) (by rw [HNA.out]; omega)).mono ?_
        rintro e w4 ⟨all', rs4, los4, rfl, hr4, hg4, hor4⟩
        have HR4 : Hid (RowsP base w4 all' (Ls ++ pathsTo vs f q head (k + 1)) rs4 los4) := by rw [Hid, HTO.out, ← List.append_assoc]; exact hr4
        have HG4 : Hid (w.grownBy w4 (Value.slice aa nL ca).ownBlock) := grown_comp (grown_comp HG.out (grown_below HB3.out) (fun c e _ => by cases e)) hg4 (fun c e hc => by
          rcases HOR.out with e2 | ⟨g, e2, hg⟩
          · rw [← e2]; exact e
          · rw [e2] at e; simp at e; omega)
        have hrow3 := own_below HR.out.row HB3.out (fun x hx => (HR.out.row.lt x hx).2)
        have hway3 := own_below HW.out HB3.out (fun x hx => (HW.out.lt x hx).2)
        have HW4 := hideIt (hway3.kept hg4 (own_apart hway3 hrow3 (by decide)))
        have HOR4 : Hid (all'.ownBlock = (Value.slice aa nL ca).ownBlock ∨ ∃ g, all'.ownBlock = some g ∧ w.heap.size ≤ g) := by
          rcases hor4 with e | ⟨g, e, hg⟩
          · rw [e]; exact HOR.out
          · exact Or.inr ⟨g, e, by omega⟩
        clear hr4 hg4 hor4 hrow3 hway3
        go_wp2_with fail
        go_roundw
        case rel => exact ⟨k + 1, rs4, los4, by omega, by go_num, HR4.out, HW4.out, HG4.out, HOR4.out⟩
        case measure => simp [intOf]; omega
      · obtain rfl : k = M := by omega
        go_wp2_with fail
        go_ret
        exact ⟨_, rs', los', rfl, by rw [pathsN_eq, HM.out]; exact HR.out, HG.out, HOR.out⟩
end Go.Proofs.Ytbclgogolimbgaa
