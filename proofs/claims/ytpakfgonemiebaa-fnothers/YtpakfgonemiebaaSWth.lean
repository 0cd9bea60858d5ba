/-
  The specification's l6With: a part taken.
-/
import Derived.Test.YtpakfgonemiebaaLowN
import Derived.Test.YtpakfgonemiebaaPartOk
import Derived.Test.YtpakfgonemiebaaMapP
import Derived.Test.YtpakfgonemiebaaStepN
namespace Go.Proofs.Ytpakfgonemiebaa
open Go.RowKit
set_option linter.unusedSimpArgs false
set_option linter.unusedVariables false

def upN (f : Nat) (o : Option VT) : List VN := match o with
  | none => []
  | some u => layT f u 0
theorem step_kinds {f : Nat} {kind n : Int} {s : ByteArray} {keys : List ByteArray} {kids : List VT} {x : PS} {k : Nat} (hg : goodT (f + 1) (.mk kind n s keys kids)) (hk : stepT (.mk kind n s keys kids) x = some k) : (kind = 5 ∧ n = 0 ∧ s = ByteArray.empty ∧ keys = []) ∨ (kind = 6 ∧ n = 0 ∧ s = ByteArray.empty ∧ keys.length = kids.length) := by
  have hk2 : stepTo kind keys kids.length x = some k := hk
  unfold stepTo at hk2
  split at hk2
  · split at hk2
    · rename_i h6
      rcases nodeT_says hg.1 with ⟨e2, _⟩ | ⟨e2, _⟩ | ⟨e2, _⟩ | ⟨e2, _⟩ | ⟨e2, _⟩ | ⟨_, a1, a2, hm, _⟩
      · have := h6.1; omega
      · have := h6.1; omega
      · have := h6.1; omega
      · have := h6.1; omega
      · have := h6.1; omega
      · exact .inr ⟨h6.1, a1, a2, hm⟩
    · cases hk2
  · split at hk2
    · rename_i h5
      rcases nodeT_says hg.1 with ⟨e2, _⟩ | ⟨e2, _⟩ | ⟨e2, _⟩ | ⟨e2, _⟩ | ⟨_, a1, a2, a3⟩ | ⟨e2, _⟩
      · have := h5.1; omega
      · have := h5.1; omega
      · have := h5.1; omega
      · have := h5.1; omega
      · exact .inl ⟨h5.1, a1, a2, a3⟩
      · have := h5.1; omega
    · cases hk2
theorem erase_list {xs : List Value} {k j : Nat} (hj : j = k + 1) (hk : k < xs.length) (i : Nat) : (xs.take k ++ xs.drop j)[i]? = xs[if i < k then i else i + 1]? := by
  subst hj
  by_cases h : i < k
  · rw [if_pos h, List.getElem?_append_left (by rw [List.length_take]; omega), List.getElem?_take, if_pos h]
  · rw [if_neg h, List.getElem?_append_right (by rw [List.length_take]; omega), List.getElem?_drop, List.length_take, show k + 1 + (i - min k xs.length) = i + 1 by omega]
/-- A row of rows without one. -/
theorem rows_erased {B : Nat} {w : World} {v : Value} {m Q k j : Nat} {rs : Nat → Value} {L : Nat → List VN} (hrow : w.ownsRow B 24 1 v Q (((List.range m).map rs).take k ++ ((List.range m).map rs).drop j)) (hj : j = k + 1) (hk : k < m) (hQ : k + (m - j) = Q) (hm : m ≤ 80) (hn : ∀ i, i < m → NodesAt w.heap.size w (rs i) (L i)) : RowsAt w.heap.size w v Q (fun i => L (if i < k then i else i + 1)) := by
  obtain ⟨a, c, e⟩ := own_slice hrow
  subst e
  refine ⟨by omega, a, c, rfl, fun hp => ?_⟩
  obtain ⟨g, cap, e2, _, hg⟩ := hrow.form hp
  simp only [Value.slice.injEq] at e2
  obtain ⟨rfl, _, rfl⟩ := e2
  refine ⟨g, rfl, hg, fun i hi => ⟨rs (if i < k then i else i + 1), ?_, hn _ (by split <;> omega)⟩⟩
  rw [hrow.cellAt i (by omega), erase_list hj (by simp; exact hk)]
  have : (if i < k then i else i + 1) < m := by split <;> omega
  simp [this]
theorem strs_erased {B : Nat} {w : World} {v : Value} {Q k j : Nat} {keys : List ByteArray} (hrow : w.ownsRow B 9 1 v Q ((keys.map Value.string).take k ++ (keys.map Value.string).drop j)) (hj : j = k + 1) (hk : k < keys.length) (hQ : k + (keys.length - j) = Q) (hf : keys.length ≤ 8796093022208 ∧ ∀ i, i < keys.length → (keyAt keys i).size ≤ 140737488355328) : StrsAt w.heap.size w v (keys.eraseIdx k) := by
  have hel : (keys.eraseIdx k).length = Q := by rw [List.length_eraseIdx, if_pos hk]; omega
  obtain ⟨a, c, e⟩ := own_slice hrow
  subst e
  refine ⟨by rw [hel]; omega, fun i hi => ?_, a, c, by rw [hel], fun hp => ?_⟩
  · rw [hel] at hi; rw [key_erase]; exact hf.2 _ (by split <;> omega)
  · rw [hel] at hp
    obtain ⟨g, cap, e2, _, hg⟩ := hrow.form hp
    simp only [Value.slice.injEq] at e2
    obtain ⟨rfl, _, rfl⟩ := e2
    refine ⟨g, 0, rfl, hg, fun i hi => ?_⟩
    rw [hel] at hi
    rw [Nat.zero_add, hrow.cellAt i (by omega), erase_list hj (by rw [List.length_map]; exact hk), key_erase, List.getElem?_map]
    have h2 : (if i < k then i else i + 1) < keys.length := by split <;> omega
    rw [List.getElem?_eq_getElem h2]
    unfold keyAt
    rw [List.getD_eq_getElem?_getD, List.getElem?_eq_getElem h2]
    rfl
theorem rows_wideW {B B' : Nat} {w : World} {v : Value} {m : Nat} {L : Nat → List VN} (h : RowsAt B w v m L) (hb : B ≤ B') : RowsAt B' w v m L := by
  obtain ⟨h1, a, c, e, h2⟩ := h
  refine ⟨h1, a, c, e, fun hp => ?_⟩
  obtain ⟨b, ea, hb2, hc⟩ := h2 hp
  refine ⟨b, ea, by omega, fun i hi => ?_⟩
  obtain ⟨r, h3, h4⟩ := hc i hi
  exact ⟨r, h3, h4.wide hb⟩
theorem call_with6 (a b c d : Value) : ∀ w, (callFunc 44 #[a, b, c, d]).run Try.prog w = .ok (.enter 44 #[a, b, c, d]) w := fun w => by kernel_rfl
theorem nest_set {base b n cap g k : Nat} {w : World} {v u : Value} {vs : List VN} {KV IV : Nat → Value} {xs : List Value} (h : Nest base w v vs KV IV) (hr : w.ownsRow b 24 1 (.slice (some ⟨g, 0, none⟩) n cap) n xs) : Nest base (w.setCell ⟨g, k, none⟩ u) v vs KV IV :=
  h.kept (row := some g) ⟨rfl, rfl, rfl, by simp, fun c _ hc => Below.heap_setCell _ _ _ c (fun e => hc (by rw [e]))⟩ (own_apart h.row hr (by decide)) (fun i hi => own_apart (h.rk i hi) hr (by decide)) (fun i hi => own_apart (h.ri i hi) hr (by decide))
/-- A row of rows with another one at k. -/
theorem rows_set {b base cap m k g : Nat} {w : World} {rs : Nat → Value} {L : Nat → List VN} {r : Value} {ns : List VN} {KV0 IV0 : Nat → Value} {lo : Nat → Nat} {KV IV : Nat → Nat → Value} (hrow : w.ownsRow b 24 1 (.slice (some ⟨g, 0, none⟩) m cap) m ((List.range m).map rs)) (hm : m ≤ 80) (hk : k < m) (hn : ∀ i, i < m → Nest (lo i) w (rs i) (L i) (KV i) (IV i)) (hf : ∀ i, i < m → Few (L i) ∧ ∀ j, j < (L i).length → Fits (nodeAt (L i) j)) (hr : Nest base w r ns KV0 IV0) (hfr : Few ns ∧ ∀ j, j < ns.length → Fits (nodeAt ns j)) :
    RowsAt (w.setCell ⟨g, k, none⟩ r).heap.size (w.setCell ⟨g, k, none⟩ r) (.slice (some ⟨g, 0, none⟩) m cap) m (fun i => if i = k then ns else L i) := by
  obtain ⟨hc, _, _, _, hg⟩ := own_full hrow
  refine ⟨by omega, _, _, rfl, fun _ => ⟨g, rfl, by simpa using hg, fun i hi => ?_⟩⟩
  by_cases e : i = k
  · subst e
    refine ⟨r, World.cell?_setCell_same _ _ _ (hc i hi).1, ?_⟩
    show NodesAt _ _ r (if i = i then ns else L i)
    rw [if_pos rfl]
    exact (nest_set hr hrow).nodes (Nat.le_trans hfr.1.1 (by omega)) hfr.2
  · refine ⟨rs i, by rw [World.cell?_setCell_other (h := fun h => by simp only [Addr.mk.injEq] at h; omega)]; exact (hc i hi).1, ?_⟩
    show NodesAt _ _ (rs i) (if i = k then ns else L i)
    rw [if_neg e]
    exact (nest_set (hn i hi) hrow).nodes (Nat.le_trans (hf i hi).1.1 (by omega)) (hf i hi).2
theorem steps_tail {B : Nat} {w : World} {b o N cu : Nat} {x : PS} {ps : List PS} {A : Addr} (h : StepsAt B w (.slice (some ⟨b, o, none⟩) N cu) (x :: ps)) (hN : N = ps.length + 1) (hA : 0 < ps.length → A = ⟨b, o + 3, none⟩) : StepsAt B w (.slice (some A) ps.length (cu - 1)) ps := by
  obtain ⟨h1, h2, a', cap', e, h3⟩ := h
  simp only [Value.slice.injEq] at e
  obtain ⟨rfl, _, rfl⟩ := e
  rw [List.length_cons] at h1 h2 h3
  refine ⟨by omega, fun i hi => h2 (i + 1) (by omega), _, _, rfl, fun hp => ?_⟩
  obtain ⟨b2, o2, e2, hb, hc⟩ := h3 (by omega)
  cases e2
  refine ⟨b, o + 3, by rw [hA hp], hb, fun i hi => ?_⟩
  have := hc (i + 1) (by omega)
  rw [show o + (i + 1) * 3 = o + 3 + i * 3 by omega] at this
  exact this
theorem call_kid6 (u v : Value) : ∀ w, (callFunc 88 #[u, v]).run Try.prog w = .ok (.enter 88 #[u, v]) w := fun w => by kernel_rfl

set_option maxRecDepth 100000 in
set_option maxHeartbeats 6400000 in
theorem l6With_gone : ∀ (ps : List PS) (f : Nat) (t : VT) (B : Nat) (v : Value) (au : Option Addr) (cu : Nat) (w : World), ps ≠ [] → goodT f t → okB (layT f t 0) = true → NodesAt B w v (layT f t 0) → StepsAt B w (.slice au ps.length cu) ps → ps.length ≤ cu → (∀ x ∈ ps, x.named = true ∨ 0 ≤ x.pl) → ps.length ≤ 10 → B ≤ w.heap.size →
    Calls Try.prog 44 #[v, .slice au ps.length cu, .slice none 0 0, .bool true] w fun e w' => ∃ r KV IV, e = .returned (.tuple #[r, .bool (updT takeG ps t).isSome]) ∧ Nest w.heap.size w' r (upN f (updT takeG ps t)) KV IV ∧ Below w.heap.size w w' := by
  intro ps
  induction ps with
  | nil => intro f t B v au cu w h; exact absurd rfl h
  | cons x ps ih =>
    intro f t B v au cu w _ hg hok h hu hcap h0 h10 hB
    cases f with
    | zero => exact hg.elim
    | succ f =>
    obtain ⟨kind, n, s, keys, kids⟩ := t
    obtain ⟨N, hN⟩ : ∃ N, (x :: ps).length = N := ⟨_, rfl⟩
    have hN1 : N = ps.length + 1 := by rw [← hN]; rfl
    have HV := hideIt h
    have HU := hideIt hu
    have HG := hideIt hg
    have HOK := hideIt hok
    have hroot := lay_rootW f kind n s keys kids
    have hkl := lay_kidsW f kind n s keys kids
    have HPL := hideIt (fun j hj => lay_PL (j := j) hg.full hok hj)
    have HOKP : Hid (∀ i, i < kids.length → okB (layT f (kidT kids i) 0) = true) := fun i hi => by
      rw [← lay_PL hg.full hok hi]
      obtain ⟨q, hq, hql⟩ := root_kid hok (k := i) (by rw [lay_kidsW]; exact hi)
      have e : PL (layT (f + 1) (.mk kind n s keys kids) 0) i = partOf (layT (f + 1) (.mk kind n s keys kids) 0) q := by unfold PL; rw [hq]; rfl
      rw [e]
      exact part_okB hok (by omega)
    have HPA := hideIt (fun (w' : World) (hb : Below w.heap.size w w') => l1Parts_any B v (layT (f + 1) (.mk kind n s keys kids) 0) w' (h.below (hb.mono hB)) (Nat.le_trans hB hb.size) hok)
    obtain ⟨p1, _⟩ := okB_parts hok
    obtain ⟨vs, hvs⟩ : ∃ vs, layT (f + 1) (.mk kind n s keys kids) 0 = vs := ⟨_, rfl⟩
    rw [hvs] at p1 hroot hkl HPA HV HOK HPL h
    obtain ⟨hlen, av, cap, rfl, hcell⟩ := h
    obtain ⟨b0, o0, rfl, hb0, hc⟩ := hcell (by omega)
    obtain ⟨ka, ki, hn1⟩ := hc (vs.length - 1) (by omega)
    rw [hroot] at hn1
    have HN1 := hideIt hn1
    obtain ⟨hul, hfits, au', cu', eu, hsteps⟩ := hu
    simp only [Value.slice.injEq] at eu
    obtain ⟨rfl, _, rfl⟩ := eu
    obtain ⟨bu, ou, rfl, hbu, hcu⟩ := hsteps (by simp)
    obtain ⟨s0, s1, s2⟩ := hcu 0 (by simp)
    have hx0 : stepAt (x :: ps) 0 = x := rfl
    rw [hx0] at s0 s1 s2
    simp only [Nat.zero_mul, Nat.add_zero] at s0 s1 s2
    have hfx := hfits 0 (by simp)
    rw [hx0] at hfx
    rw [hN] at hcap h10 ⊢
    obtain ⟨M, hM⟩ : ∃ M, vs.length = M := ⟨_, rfl⟩
    rw [hM] at hn1 hlen p1 HPA ⊢
    obtain ⟨hkk1, hkk2, aK, cK, eK, hkk3⟩ := hn1.inn.keys
    obtain ⟨hii1, hii2, aI, cI, eI, hii3⟩ := hn1.inn.kids
    dsimp only at hkk1 hkk2 eK hkk3 hii1 hii2 eI hii3
    rw [ksT_lenW f 0 kids _ (Nat.le_refl _)] at eI hii1
    obtain ⟨KN, hKN⟩ : ∃ KN, keys.length = KN := ⟨_, rfl⟩
    obtain ⟨KM, hKM⟩ : ∃ KM, kids.length = KM := ⟨_, rfl⟩
    rw [hKN] at eK
    rw [hKM] at eI
    subst eK eI
    have c0 := hn1.c0
    have c1 := hn1.c1
    have c2 := hn1.c2
    have c3 := hn1.c3
    have c4 := hn1.c4
    dsimp only at c0 c1 c2 c3 c4
    have p0 : ((M : Int) - 1).toNat = M - 1 := by omega
    have hN0 : ¬ (N : Int) = 0 := by omega
    have hN0' : ((N : Int) == 0) = false := by simp; omega
    have HNI := hideIt hn1.inn
    have HNN := hideIt hN1
    have HN2 := hideIt hN
    have HKN := hideIt hKN
    have HKM := hideIt hKM
    have HKC : Hid (0 < KN → ∃ b o, aK = some ⟨b, o, none⟩ ∧ b < B ∧ ∀ i, i < KN → w.cell? ⟨b, o + i, none⟩ = some (.string (keyAt keys i))) := by rw [Hid, ← hKN]; exact hkk3
    have HMM := hideIt hM
    have HKL := hideIt (hkl.trans hKM)
    have HVS := hideIt hvs
    have hM80 : M ≤ 80 := by omega
    clear hc hcell hsteps hcu hg hok hroot hN1 hN hKN hKM hM hvs hkk3 hii3 hn1 hkk1 hkk2 hii1 hii2 hx0 hkl HV hfits hul
    obtain ⟨RR, hRR⟩ : ∃ RR, updT takeG (x :: ps) (.mk kind n s keys kids) = RR := ⟨_, rfl⟩
    rw [hRR]
    have HRR := hideIt hRR
    clear hRR
    have HU2 : Hid (StepsAt B w (.slice (some ⟨bu, ou, none⟩) N cu) (x :: ps)) := by rw [Hid, ← HN2.out]; exact HU.out
    have HW1 : Hid (Below w.heap.size w (w.alloc (.cells #[.int .i64 kind, .int .i64 n, .string s, .slice aK KN cK, .slice aI KM cI] 78))) := (Below.refl _ _).alloc (Nat.le_refl _) _
    go_enter Try.func44, Try.ntmps44
    go_wp2_with fail
    refine (HPA.out _ HW1.out).mono ?_
    rintro e w2 ⟨rL, rs, KV, IV, loR, rfl, hrows, hb2⟩
    have HRW := hideIt hrows
    have H12 := hideIt hb2
    have HB2 : Hid (Below w.heap.size w w2) := HW1.out.trans (hb2.mono (by simp))
    have z2 : w.heap.size + 1 ≤ w2.heap.size := by simpa using hb2.size
    have x0 : w2.cell? ⟨w.heap.size, 0, none⟩ = some (.int .i64 kind) := (below_cell hb2 (by simp)).trans (by simp)
    have x1 : w2.cell? ⟨w.heap.size, 1, none⟩ = some (.int .i64 n) := (below_cell hb2 (by simp)).trans (by simp)
    have x2 : w2.cell? ⟨w.heap.size, 2, none⟩ = some (.string s) := (below_cell hb2 (by simp)).trans (by simp)
    have x3 : w2.cell? ⟨w.heap.size, 3, none⟩ = some (.slice aK KN cK) := (below_cell hb2 (by simp)).trans (by simp)
    have x4 : w2.cell? ⟨w.heap.size, 4, none⟩ = some (.slice aI KM cI) := (below_cell hb2 (by simp)).trans (by simp)
    rw [HKL.out] at hrows HRW
    obtain ⟨aL, cL, erL⟩ := own_slice hrows.row
    subst erL
    have HOWN : Hid ((w2.alloc (.cells #[] 9)).ownsRow w2.heap.size 9 1 (.slice (some ⟨w2.heap.size, 0, none⟩) 0 0) 0 []) := by
      have := World.ownsRow_lit (base := w2.heap.size) (e := 9) (size := 1) w2 #[] 0 (Nat.le_refl _) (by simp [maxLen]) rfl
      simpa [Hid] using this
    have HBA : Hid (Below w2.heap.size w2 (w2.alloc (.cells #[] 9))) := (Below.refl _ _).alloc (Nat.le_refl _) _
    have HSRC : Hid (0 < KN → ∃ ad, aK = some ad ∧ ∀ j u, (keys.map Value.string)[j]? = some u → (w2.alloc (.cells #[] 9)).cell? (ad.add j) = some u) := by
      intro hp
      obtain ⟨bk, ok, rfl, hbk, hck⟩ := HKC.out hp
      refine ⟨_, rfl, fun j u hj => ?_⟩
      have hj' : j < keys.length := by have := (List.getElem?_eq_some_iff.1 hj).1; simpa using this
      rw [show (⟨bk, ok, none⟩ : Addr).add j = ⟨bk, ok + j, none⟩ by simp [Addr.add], below_cell HBA.out (by omega), below_cell HB2.out (by omega), hck j (by rw [← HKN.out]; exact hj')]
      simp [hj', keyAt] at hj ⊢
      exact hj
    obtain ⟨i1, hi1, hz1, hs1, hy1⟩ := info_parts infoStr
    have HFW : Hid (KN ≤ 80 ∧ KM ≤ 80) := by
      have h2 := (ok_fits (by rw [HVS.out]; exact HOK.out : okB (layT (f + 1) (.mk kind n s keys kids) 0) = true)).1.2 (M - 1) (by rw [HVS.out, HMM.out]; omega)
      have h3 := lay_rootW f kind n s keys kids
      rw [HVS.out, HMM.out] at h3
      rw [HVS.out, h3] at h2
      have q1 := h2.1
      have q2 := h2.2
      dsimp only at q1 q2
      rw [HKN.out] at q1
      rw [ksT_lenW f 0 kids _ (Nat.le_refl _), HKM.out] at q2
      exact ⟨q1, q2⟩
    have hKN80 : KN ≤ 80 := HFW.out.1
    have x3' : (w2.alloc (.cells #[] 9)).cell? ⟨w.heap.size, 3, none⟩ = some (.slice aK KN cK) := (below_cell HBA.out (by omega)).trans x3
    clear hrows hb2 HPA c0 c1 c2 c3 c4
    go_wp2_with (at_builtin; refine wpList_append_src rfl _ _ 75 rfl w2.heap.size 9 i1 (.string ByteArray.empty) 1 16 Try.underlying75 hi1 hz1 hs1 hy1 rfl (by decide) _ 0 [] rfl HOWN.out aK KN cK (keys.map .string) rfl (by rw [List.length_map, HKN.out]; omega) HSRC.out ?c2 ?c3 ?c4 ?c5 ?_)
    case c2 => intro u hu; obtain ⟨q, _, rfl⟩ := List.mem_map.1 hu; rfl
    case c3 => unfold maxLen; omega
    case c4 => omega
    case c5 => simp
    intro vK w3 hk3 hg3 hat3
    (try simp only [Nat.zero_add, List.nil_append] at hk3)
    have hb3 : Below w2.heap.size w2 w3 := HBA.out.grown hg3 (by simp) (fun r hr => by simp [Value.ownBlock] at hr; omega)
    have HK3 := hideIt hk3
    have H23 := hideIt hb3
    have HB3 := hideIt (HB2.out.trans (hb3.mono (by omega)))
    have z3 := hb3.size
    have y0 := (below_cell hb3 (by omega)).trans x0
    have y1 := (below_cell hb3 (by omega)).trans x1
    have y2 := (below_cell hb3 (by omega)).trans x2
    have y3 := (below_cell hb3 (by omega)).trans x3
    have y4 := (below_cell hb3 (by omega)).trans x4
    have t0 := (below_cell HB3.out (by omega)).trans s0
    have t1 := (below_cell HB3.out (by omega)).trans s1
    have t2 := (below_cell HB3.out (by omega)).trans s2
    obtain ⟨aV, cV, eV⟩ := own_slice hk3
    subst eV
    clear hk3 hg3 hat3 hb3 x0 x1 x2 x3 x4 s0 s1 s2 HOWN HSRC HBA
    have hNp : (0 : Int) < (N : Int) := by omega
    have h0x := h0 x (by simp)
    have HLK : Hid (∀ W, Below w.heap.size w W → Calls Try.prog 88 #[.agg #[.int .i64 kind, .int .i64 n, .string s, .slice aK KN cK, .slice aI KM cI], .agg #[.bool x.named, .string x.key, .int .i64 x.pl]] W fun e w' => e = .returned (.int .i64 (kidR (stepT (.mk kind n s keys kids) x))) ∧ Below W.heap.size W w') := fun W hb => by
      have h1 := l6Kid_any B { kind := kind, n := n, s := s, keys := keys, kids := ksT f 0 kids kids.length } _ _ x W (HNI.out.below (hb.mono hB)) (Nat.le_trans hB hb.size) (fun e => ⟨(good6 HG.out e (by rw [HKN.out]; omega)).1, ?_⟩) h0x (by rw [ksT_lenW f 0 kids _ (Nat.le_refl _), HKM.out]; have := HFW.out.2; omega) hfx.2
      · have e2 : stepN { kind := kind, n := n, s := s, keys := keys, kids := ksT f 0 kids kids.length } x = stepT (.mk kind n s keys kids) x := by
          unfold stepN stepT
          rw [ksT_lenW f 0 kids _ (Nat.le_refl _)]
        rw [e2] at h1
        exact h1
      · show keys.length ≤ 80
        rw [HKN.out]; exact hKN80
    go_wp2_with fail
    have HRWLO : Hid (∀ q, aL = some ⟨q, 0, none⟩ ∨ True → (Value.slice aL KM cL).ownBlock = some q → w.heap.size + 1 ≤ q) := fun q _ hq => by have := (HRW.out.row.lt q hq).1; simpa using this
    have HBD : Hid (Below w3.heap.size w3 w3.drew) := (Below.refl _ _).drew
    refine wp_region_any (by kernel_rfl) ?_
    change wpAny _ _ _ _ _ _ _ (World.drew _)
    refine wpAny_take (i := 1) (v := .slice (some ⟨bu, ou, none⟩) N cu) rfl (by kernel_rfl) (by kernel_rfl) (by kernel_rfl) (fun _ _ _ h => h) (Or.inl ⟨by kernel_rfl, fun w => ?_⟩) ?_
    · go_simp
    refine wpAny_take (i := 2) (v := .pointer (some ⟨bu, ou, none⟩)) rfl (by kernel_rfl) (by kernel_rfl) (by kernel_rfl) (fun _ _ _ h => h) (Or.inl ⟨by kernel_rfl, fun w => ?_⟩) ?_
    · go_simp <;> (intro hh; omega)
    go_simp
    refine wpAny_ready (rs := [0, 3]) (by kernel_rfl) (by simp) ?_
    refine AllReady.cons rfl (fun K hK => ?_) (AllReady.cons rfl (fun K hK => ?_) AllReady.nil)
    · go_simp
      refine hK _ _ ?_
      clear hK K
      refine wpAny_ready (rs := [3]) (by kernel_rfl) (by simp) ?_
      refine AllReady.cons rfl (fun K hK => ?_) AllReady.nil
      go_simp
      refine hK _ _ ?_
      clear hK K
      refine wpAny_ready (rs := [4]) (by kernel_rfl) (by simp) ?_
      refine AllReady.cons rfl (fun K hK => ?_) AllReady.nil
      refine step_call2p (by kernel_rfl) 88 (.tmp 36) (.tmp 39) 78 39 (by kernel_rfl) (.agg #[.int .i64 kind, .int .i64 n, .string s, .slice aK KN cK, .slice aI KM cI]) (.agg #[.bool x.named, .string x.key, .int .i64 x.pl]) (by kernel_rfl) (by kernel_rfl) (call_kid6 _ _) (HLK.out w3.drew (HB3.out.trans (HBD.out.mono (by omega)))) ?_
      rintro e w4 ⟨rfl, hb4⟩
      refine .inl ⟨_, rfl, ?_⟩
      refine hK _ _ ?_
      clear hK K
      refine wpAny_take (i := 5) (v := .int .i64 (kidR (stepT (.mk kind n s keys kids) x))) rfl (by kernel_rfl) (by kernel_rfl) (by kernel_rfl) (fun _ _ _ h => h) (Or.inl ⟨by kernel_rfl, fun w => ?_⟩) ?_
      · go_simp
      go_simp
      refine wpAny_done (by kernel_rfl) ?_ _
      have H34 : Hid (Below w3.heap.size w3 w4) := HBD.out.trans (hb4.mono HBD.out.size)
      have HB4 := hideIt (HB3.out.trans (H34.out.mono (by omega)))
      have z4 := H34.out.size
      have HY0 : Hid (∀ W, Below w4.heap.size w4 W → W.cell? ⟨w.heap.size, 0, none⟩ = some (.int .i64 kind)) := fun W hb => (below_cell hb (by omega)).trans ((below_cell H34.out (by omega)).trans y0)
      clear hb4 y0 y1 y2 y3 y4 t0 t1 t2
      cases hst : stepT (.mk kind n s keys kids) x with
      | none =>
        have HUN : Hid (RR = none) := by
          rw [Hid, ← HRR.out]
          cases ps with
          | nil => show takeG _ x = none; unfold takeG; rw [hst]
          | cons y qs => rw [updT, hst]
        have hkr : kidR none = -1 := rfl
        by_cases hl1 : N = 1
        · have hl2 : ((N : Int) == 1) = true := by simp; omega
          clear hl1
          go_wp2_with fail
          go_ret2
          exact ⟨_, fun _ => undef, fun _ => undef, by rw [HUN.out]; rfl, by rw [HUN.out]; exact Nest.nil _ _ _ _, HB4.out⟩
        · have hl2 : ((N : Int) == 1) = false := by simp; omega
          clear hl1
          go_wp2_with fail
          go_ret2
          exact ⟨_, fun _ => undef, fun _ => undef, by rw [HUN.out]; rfl, by rw [HUN.out]; exact Nest.nil _ _ _ _, HB4.out⟩
      | some k =>
        have hkr : kidR (some k) = (k : Int) := rfl
        have hkl := stepT_lt HG.out h0x hst
        have hkM : k < KM := by rw [← HKM.out]; exact hkl
        have hKM80 : KM ≤ 80 := by
          have h2 := (ok_fits (by rw [HVS.out]; exact HOK.out : okB (layT (f + 1) (.mk kind n s keys kids) 0) = true)).1.2 (M - 1) (by rw [HVS.out, HMM.out]; omega)
          have h3 := lay_rootW f kind n s keys kids
          rw [HVS.out, HMM.out] at h3
          rw [HVS.out, h3] at h2
          have := h2.2
          dsimp only at this
          rw [ksT_lenW f 0 kids _ (Nat.le_refl _), HKM.out] at this
          exact this
        obtain ⟨gL, cLx, eL, _, hgLl⟩ := HRW.out.row.form (by omega)
        simp only [Value.slice.injEq] at eL
        obtain ⟨rfl, _, rfl⟩ := eL
        obtain ⟨hLc, hLcap, hLmax, _, _⟩ := own_full HRW.out.row
        have HLc := hideIt hLc
        obtain ⟨iR, hiR, hzR, hsR, hyR⟩ := info_parts infoRow
        clear hLc
        have HFI : Hid (∀ i, i < kids.length → Few (layT f (kidT kids i) 0) ∧ ∀ j, j < (layT f (kidT kids i) 0).length → Fits (nodeAt (layT f (kidT kids i) 0) j)) := fun i hi => ok_fits (HOKP.out i hi)
        have HNDS : Hid (∀ W, Below w4.heap.size w4 W → ∀ i, i < KM → NodesAt W.heap.size W (rs i) (layT f (kidT kids i) 0)) := fun W hb i hi => by
          have hb2 : Below w2.heap.size w2 W := H23.out.trans ((H34.out.trans (hb.mono z4)).mono z3)
          have hfi := HFI.out i (by rw [HKM.out]; exact hi)
          have := (HRW.out.nest i hi).nodes (by rw [HPL.out i (by rw [HKM.out]; exact hi)]; exact Nat.le_trans hfi.1.1 (by omega)) (by rw [HPL.out i (by rw [HKM.out]; exact hi)]; exact hfi.2)
          rw [HPL.out i (by rw [HKM.out]; exact hi)] at this
          exact (this.below hb2).wide hb2.size
        by_cases hl1 : N = 1
        · have hl2 : ((N : Int) == 1) = true := by simp; omega
          obtain ⟨j, hj⟩ : ∃ j, j = k + 1 := ⟨_, rfl⟩
          obtain ⟨AR, hAR⟩ : ∃ A : Addr, (if cL = j then some (⟨gL, 0, none⟩ : Addr) else some ⟨gL, j, none⟩) = some A := by split <;> exact ⟨_, rfl⟩
          obtain ⟨QR, hQR⟩ : ∃ Q, k + (KM - j) = Q := ⟨_, rfl⟩
          have HQR := hideIt hQR
          have HJ := hideIt hj
          have HL1 := hideIt hl1
          have hjk : (k : Int) + 1 = (j : Int) := by omega
          have hjM : j ≤ KM := by omega
          have hjc : j ≤ cL := by omega
          have hkc : k ≤ cL := by omega
          have HLR : Hid (DelSrc w4 ((List.range KM).map rs) gL KM k j AR) := delSrc_of (cL := cL) (by simp) (by omega) hjM (fun i hi => by rw [below_cell (H23.out.trans (H34.out.mono z3)) (by omega), (HLc.out i hi).1]; simp [hi]) (by omega) (fun u hu => by obtain ⟨q, hq, rfl⟩ := List.mem_map.1 hu; obtain ⟨a, c, e⟩ := own_slice (HRW.out.nest q (List.mem_range.1 hq)).row; rw [e]; rfl) hLcap hAR
          clear hQR hj hl1
          go_wp2_with fail
          have HDR : Hid (Below w4.heap.size w4 w4.drew) := (Below.refl _ _).drew
          refine wp_region_any (by kernel_rfl) ?_
          change wpAny _ _ _ _ _ _ _ (World.drew _)
          refine wpAny_take (i := 1) (v := .slice (some ⟨gL, 0, none⟩) KM cL) rfl (by kernel_rfl) (by kernel_rfl) (by kernel_rfl) (fun _ _ _ h => h) (Or.inl ⟨by kernel_rfl, fun w => ?_⟩) ?_
          · go_simp
          refine wpAny_take (i := 2) (v := .int .i64 (k : Int)) rfl (by kernel_rfl) (by kernel_rfl) (by kernel_rfl) (fun _ _ _ h => h) (Or.inl ⟨by kernel_rfl, fun w => ?_⟩) ?_
          · go_simp
          refine wpAny_take (i := 3) (v := .slice (some ⟨gL, 0, none⟩) k cL) rfl (by kernel_rfl) (by kernel_rfl) (by kernel_rfl) (fun _ _ _ h => h) (Or.inl ⟨by kernel_rfl, fun w => ?_⟩) ?_
          · go_simp
          refine wpAny_take (i := 5) (v := .slice (some ⟨gL, 0, none⟩) KM cL) rfl (by kernel_rfl) (by kernel_rfl) (by kernel_rfl) (fun _ _ _ h => h) (Or.inl ⟨by kernel_rfl, fun w => ?_⟩) ?_
          · go_simp
          refine wpAny_take (i := 6) (v := .int .i64 (k : Int)) rfl (by kernel_rfl) (by kernel_rfl) (by kernel_rfl) (fun _ _ _ h => h) (Or.inl ⟨by kernel_rfl, fun w => ?_⟩) ?_
          · go_simp
          refine wpAny_take (i := 7) (v := .int .i64 (j : Int)) rfl (by kernel_rfl) (by kernel_rfl) (by kernel_rfl) (fun _ _ _ h => h) (Or.inl ⟨by kernel_rfl, fun w => ?_⟩) ?_
          · go_simp
            exact i64_wrap (by omega) (by omega)
          refine wpAny_take (i := 8) (v := .slice (some AR) (KM - j) (cL - j)) rfl (by kernel_rfl) (by kernel_rfl) (by kernel_rfl) (fun _ _ _ h => h) (Or.inl ⟨by kernel_rfl, fun w => ?_⟩) ?_
          · go_simp
          go_simp
          refine wpAny_ready (rs := [0]) (by kernel_rfl) (by simp) ?_
          refine AllReady.cons rfl (fun K hK => ?_) AllReady.nil
          go_simp
          refine hK _ _ ?_
          clear hK K
          have HOR : Hid ((w4.drew.alloc (.cells #[] 24)).ownsRow w4.heap.size 24 1 (.slice (some ⟨w4.heap.size, 0, none⟩) 0 0) 0 []) := by
            have := World.ownsRow_lit (base := w4.heap.size) (e := 24) (size := 1) w4.drew #[] 0 (Nat.le_refl _) (by simp [maxLen]) rfl
            simpa [Hid] using this
          have HER : Hid (Below w4.heap.size w4 (w4.drew.alloc (.cells #[] 24))) := HDR.out.alloc (Nat.le_refl _) _
          refine wpAny_ready (rs := [4]) (by kernel_rfl) (by simp) ?_
          refine AllReady.cons rfl (fun K hK => ?_) AllReady.nil
          refine step_append_src (by kernel_rfl) (.tmp 53) (.tmp 56) 40 (by kernel_rfl) w4.heap.size 24 iR (.slice none 0 0) 1 24 Try.underlying40 hiR hzR hsR hyR rfl (by decide) _ 0 [] (by kernel_rfl) HOR.out (some ⟨gL, 0, none⟩) k cL (((List.range KM).map rs).take k) (by kernel_rfl) (HLR.out.1) (fun _ => ⟨_, rfl, HLR.out.2.1 _ HER.out⟩) (HLR.out.2.2.1) (by unfold maxLen; omega) (by omega) (by simp) ?_
          intro vAR wAR hAR hgAR hatAR
          have HEAR : Hid (Below w4.heap.size w4 wAR) := HER.out.grown hgAR (by simp) (fun r hr => by simp [Value.ownBlock] at hr; omega)
          obtain ⟨aAR, cAR, eAR⟩ := own_slice hAR
          (try simp only [Nat.zero_add, List.nil_append] at hAR eAR)
          subst eAR
          have HAR := hideIt hAR
          clear hAR hgAR hatAR
          refine hK _ _ ?_
          clear hK K
          refine wpAny_ready (rs := [9]) (by kernel_rfl) (by simp) ?_
          refine AllReady.cons rfl (fun K hK => ?_) AllReady.nil
          refine step_append_src (by kernel_rfl) (.tmp 57) (.tmp 61) 40 (by kernel_rfl) w4.heap.size 24 iR (.slice none 0 0) 1 24 Try.underlying40 hiR hzR hsR hyR rfl (by decide) _ k (((List.range KM).map rs).take k) (by kernel_rfl) HAR.out (some AR) (KM - j) (cL - j) (((List.range KM).map rs).drop j) (by kernel_rfl) (HLR.out.2.2.2.1) (fun hp => ⟨_, rfl, HLR.out.2.2.2.2.1 _ HEAR.out hp⟩) (HLR.out.2.2.2.2.2) (by unfold maxLen; omega) (by omega) HEAR.out.size ?_
          intro vBR wBR hBR hgBR hatBR
          have HEBR : Hid (Below w4.heap.size w4 wBR) := HEAR.out.grown hgBR HEAR.out.size (fun r hr => (HAR.out.lt r hr).1)
          rw [show k + (KM - j) = QR from HQR.out] at hBR
          obtain ⟨aBR, cBR, eBR⟩ := own_slice hBR
          subst eBR
          have HBR := hideIt hBR
          clear hBR hgBR hatBR
          refine hK _ _ ?_
          clear hK K
          refine wpAny_take (i := 10) (v := .slice aBR QR cBR) rfl (by kernel_rfl) (by kernel_rfl) (by kernel_rfl) (fun _ _ _ h => h) (Or.inl ⟨by kernel_rfl, fun w => ?_⟩) ?_
          · go_simp
          go_simp
          refine wpAny_done (by kernel_rfl) ?_ _
          have HUN : Hid (RR = some (takeKid k (.mk kind n s keys kids))) := by
            rw [Hid, ← HRR.out]
            have hps : ps = [] := List.eq_nil_of_length_eq_zero (by have := HNN.out; have := HL1.out; omega)
            rw [hps]
            show takeG _ x = _
            unfold takeG
            rw [hst]
          have HRWS := hideIt (rows_erased (L := fun i => layT f (kidT kids i) 0) HBR.out HJ.out (by omega) HQR.out hKM80 (HNDS.out wBR HEBR.out))
          have b0x := HY0.out wBR HEBR.out
          have zR := HEBR.out.size
          rcases step_kinds HG.out hst with ⟨h5, hn0, hs0, hks0⟩ | ⟨h6, hn0, hs0, hkk⟩
          · have hk6 : ¬ kind = 6 := by omega
            have hk6' : (kind == 6) = false := by simp; omega
            have HKS5 : Hid (StrsAt wBR.heap.size wBR (.slice aV KN cV) keys) := by
              have h1 := HK3.out
              rw [hks0] at h1
              obtain ⟨a, c, e⟩ := own_slice h1
              rw [hks0]
              simp only [Value.slice.injEq] at e
              obtain ⟨_, e2, _⟩ := e
              have e3 : KN = 0 := by rw [← HKN.out, hks0]; rfl
              exact ⟨by simp, fun i hi => absurd hi (by simp), aV, cV, by rw [e3]; rfl, fun h => absurd h (by simp)⟩
            have HMK : Hid (makeNs kind keys (fun i => layT f (kidT kids (if i < k then i else i + 1)) 0) QR = layT (f + 1) (takeKid k (.mk kind n s keys kids)) 0) := by
              have hel : (kids.eraseIdx k).length = QR := by have := HQR.out; have := HJ.out; rw [List.length_eraseIdx, if_pos (show k < kids.length from hkl), HKM.out]; omega
              rw [Hid, takeKid, hn0, hs0, lay_make, hel, hks0]
              have e1 : (fun i => layT f (kidT (kids.eraseIdx k) i) 0) = fun i => layT f (kidT kids (if i < k then i else i + 1)) 0 := by funext i; rw [kid_erase]
              rw [e1]
              rfl
            have HOKQ : Hid (∀ i, i < QR → okB (layT f (kidT kids (if i < k then i else i + 1)) 0) = true) := fun i hi => HOKP.out _ (by have := HQR.out; have := HJ.out; have := HKM.out; split <;> omega)
            have HLE : Hid ((makeNs kind keys (fun i => layT f (kidT kids (if i < k then i else i + 1)) 0) QR).length ≤ 80) := by
              rw [Hid, HMK.out]
              have h1 := (take_nomore HG.out hkl).1
              rw [HVS.out, HMM.out] at h1
              omega
            have HCAT : Hid ((catNs (fun i => layT f (kidT kids (if i < k then i else i + 1)) 0) QR).length + 1 ≤ 100000) := by have := HLE.out; rw [make_len] at this; rw [Hid]; omega
            have HLM := hideIt (l1Make_any wBR.heap.size kind _ _ keys QR (fun i => layT f (kidT kids (if i < k then i else i + 1)) 0) wBR HKS5.out HRWS.out (Nat.le_refl _) (by have := HQR.out; omega) (by rw [hks0]; simp) HCAT.out (near_of HOKQ.out))
            rw [HMK.out] at HLM
            clear hst hkl h5 hn0 hs0 hks0
            go_wp2_with fail
            refine HLM.out.mono ?_
            rintro e w7 ⟨r7, KV7, IV7, rfl, hn7, hb7⟩
            have HN7 := hideIt (hn7.low (show w.heap.size ≤ wBR.heap.size by omega))
            have HB7 := hideIt ((HB4.out.trans (HEBR.out.mono (by omega))).trans (hb7.mono (by omega)))
            obtain ⟨a7, c7, e7⟩ := own_slice hn7.row
            obtain ⟨M7, hM7⟩ : ∃ M7, (layT (f + 1) (takeKid k (.mk kind n s keys kids)) 0).length = M7 := ⟨_, rfl⟩
            rw [hM7] at e7
            subst e7
            clear hn7 hb7 hM7
            go_wp2_with fail
            go_ret2
            exact ⟨_, KV7, IV7, by rw [HUN.out]; rfl, by rw [HUN.out]; exact HN7.out, HB7.out⟩
          · have hk6' : (kind == 6) = true := by simp; omega
            have HK6 := hideIt h6
            have hKNM : KN = KM := by rw [← HKN.out, hkk]; exact HKM.out
            obtain ⟨gV, cVx, eV2, _, hgVl⟩ := HK3.out.form (by omega)
            simp only [Value.slice.injEq] at eV2
            obtain ⟨rfl, _, rfl⟩ := eV2
            have hk3r := HK3.out
            rw [← HKN.out, keys_range] at hk3r
            obtain ⟨hVc, hVcap, hVmax, _, _⟩ := own_full hk3r
            rw [HKN.out] at hVc hVcap
            have HVc := hideIt hVc
            obtain ⟨AK, hAK⟩ : ∃ A : Addr, (if cV = j then some (⟨gV, 0, none⟩ : Addr) else some ⟨gV, j, none⟩) = some A := by split <;> exact ⟨_, rfl⟩
            obtain ⟨QK, hQK⟩ : ∃ Q, k + (KN - j) = Q := ⟨_, rfl⟩
            have HQK := hideIt hQK
            have hjN : j ≤ KN := by omega
            have hjcV : j ≤ cV := by omega
            have hkcV : k ≤ cV := by omega
            have hkKN : k < KN := by omega
            have HLK2 : Hid (DelSrc wBR (keys.map Value.string) gV KN k j AK) := delSrc_of (cL := cV) (by rw [List.length_map]; exact HKN.out) (by omega) hjN (fun i hi => by rw [below_cell (H34.out.trans (HEBR.out.mono z4)) (by omega), (HVc.out i hi).1, keys_range]; simp [HKN.out, hi]) (by omega) (fun u hu => by obtain ⟨q, _, rfl⟩ := List.mem_map.1 hu; rfl) hVcap hAK
            have HQQ : Hid (QK = QR) := by have := HQR.out; have := HQK.out; rw [Hid]; omega
            have HKNM := hideIt hKNM
            have hKN80b : KN ≤ 80 := by omega
            clear hVc hk3r hQK hKNM
            go_wp2_with fail
            have HDK : Hid (Below wBR.heap.size wBR wBR.drew) := (Below.refl _ _).drew
            refine wp_region_any (by kernel_rfl) ?_
            change wpAny _ _ _ _ _ _ _ (World.drew _)
            refine wpAny_take (i := 1) (v := .slice (some ⟨gV, 0, none⟩) KN cV) rfl (by kernel_rfl) (by kernel_rfl) (by kernel_rfl) (fun _ _ _ h => h) (Or.inl ⟨by kernel_rfl, fun w => ?_⟩) ?_
            · go_simp
            refine wpAny_take (i := 2) (v := .int .i64 (k : Int)) rfl (by kernel_rfl) (by kernel_rfl) (by kernel_rfl) (fun _ _ _ h => h) (Or.inl ⟨by kernel_rfl, fun w => ?_⟩) ?_
            · go_simp
            refine wpAny_take (i := 3) (v := .slice (some ⟨gV, 0, none⟩) k cV) rfl (by kernel_rfl) (by kernel_rfl) (by kernel_rfl) (fun _ _ _ h => h) (Or.inl ⟨by kernel_rfl, fun w => ?_⟩) ?_
            · go_simp
            refine wpAny_take (i := 5) (v := .slice (some ⟨gV, 0, none⟩) KN cV) rfl (by kernel_rfl) (by kernel_rfl) (by kernel_rfl) (fun _ _ _ h => h) (Or.inl ⟨by kernel_rfl, fun w => ?_⟩) ?_
            · go_simp
            refine wpAny_take (i := 6) (v := .int .i64 (k : Int)) rfl (by kernel_rfl) (by kernel_rfl) (by kernel_rfl) (fun _ _ _ h => h) (Or.inl ⟨by kernel_rfl, fun w => ?_⟩) ?_
            · go_simp
            refine wpAny_take (i := 7) (v := .int .i64 (j : Int)) rfl (by kernel_rfl) (by kernel_rfl) (by kernel_rfl) (fun _ _ _ h => h) (Or.inl ⟨by kernel_rfl, fun w => ?_⟩) ?_
            · go_simp
              exact i64_wrap (by omega) (by omega)
            refine wpAny_take (i := 8) (v := .slice (some AK) (KN - j) (cV - j)) rfl (by kernel_rfl) (by kernel_rfl) (by kernel_rfl) (fun _ _ _ h => h) (Or.inl ⟨by kernel_rfl, fun w => ?_⟩) ?_
            · go_simp
            go_simp
            refine wpAny_ready (rs := [0]) (by kernel_rfl) (by simp) ?_
            refine AllReady.cons rfl (fun K hK => ?_) AllReady.nil
            go_simp
            refine hK _ _ ?_
            clear hK K
            have HOK : Hid ((wBR.drew.alloc (.cells #[] 9)).ownsRow wBR.heap.size 9 1 (.slice (some ⟨wBR.heap.size, 0, none⟩) 0 0) 0 []) := by
              have := World.ownsRow_lit (base := wBR.heap.size) (e := 9) (size := 1) wBR.drew #[] 0 (Nat.le_refl _) (by simp [maxLen]) rfl
              simpa [Hid] using this
            have HEK : Hid (Below wBR.heap.size wBR (wBR.drew.alloc (.cells #[] 9))) := HDK.out.alloc (Nat.le_refl _) _
            refine wpAny_ready (rs := [4]) (by kernel_rfl) (by simp) ?_
            refine AllReady.cons rfl (fun K hK => ?_) AllReady.nil
            refine step_append_src (by kernel_rfl) (.tmp 66) (.tmp 69) 75 (by kernel_rfl) wBR.heap.size 9 i1 (.string ByteArray.empty) 1 16 Try.underlying75 hi1 hz1 hs1 hy1 rfl (by decide) _ 0 [] (by kernel_rfl) HOK.out (some ⟨gV, 0, none⟩) k cV ((keys.map Value.string).take k) (by kernel_rfl) (HLK2.out.1) (fun _ => ⟨_, rfl, HLK2.out.2.1 _ HEK.out⟩) (HLK2.out.2.2.1) (by unfold maxLen; omega) (by omega) (by simp) ?_
            intro vAK wAK hAK hgAK hatAK
            have HEAK : Hid (Below wBR.heap.size wBR wAK) := HEK.out.grown hgAK (by simp) (fun r hr => by simp [Value.ownBlock] at hr; omega)
            obtain ⟨aAK, cAK, eAK⟩ := own_slice hAK
            (try simp only [Nat.zero_add, List.nil_append] at hAK eAK)
            subst eAK
            have HAK := hideIt hAK
            clear hAK hgAK hatAK
            refine hK _ _ ?_
            clear hK K
            refine wpAny_ready (rs := [9]) (by kernel_rfl) (by simp) ?_
            refine AllReady.cons rfl (fun K hK => ?_) AllReady.nil
            refine step_append_src (by kernel_rfl) (.tmp 70) (.tmp 74) 75 (by kernel_rfl) wBR.heap.size 9 i1 (.string ByteArray.empty) 1 16 Try.underlying75 hi1 hz1 hs1 hy1 rfl (by decide) _ k ((keys.map Value.string).take k) (by kernel_rfl) HAK.out (some AK) (KN - j) (cV - j) ((keys.map Value.string).drop j) (by kernel_rfl) (HLK2.out.2.2.2.1) (fun hp => ⟨_, rfl, HLK2.out.2.2.2.2.1 _ HEAK.out hp⟩) (HLK2.out.2.2.2.2.2) (by unfold maxLen; omega) (by omega) HEAK.out.size ?_
            intro vBK wBK hBK hgBK hatBK
            have HEBK : Hid (Below wBR.heap.size wBR wBK) := HEAK.out.grown hgBK HEAK.out.size (fun r hr => (HAK.out.lt r hr).1)
            rw [show k + (KN - j) = QK from HQK.out] at hBK
            obtain ⟨aBK, cBK, eBK⟩ := own_slice hBK
            subst eBK
            have HBK := hideIt hBK
            clear hBK hgBK hatBK
            refine hK _ _ ?_
            clear hK K
            refine wpAny_take (i := 10) (v := .slice aBK QK cBK) rfl (by kernel_rfl) (by kernel_rfl) (by kernel_rfl) (fun _ _ _ h => h) (Or.inl ⟨by kernel_rfl, fun w => ?_⟩) ?_
            · go_simp
            go_simp
            refine wpAny_done (by kernel_rfl) ?_ _
            have zK := HEBK.out.size
            have HKF := hideIt HNI.out.keys
            have HKS6 : Hid (StrsAt wBK.heap.size wBK (.slice aBK QK cBK) (keys.eraseIdx k)) := strs_erased HBK.out HJ.out (by rw [HKN.out]; exact hkKN) (by rw [HKN.out]; exact HQK.out) ⟨HKF.out.1, HKF.out.2.1⟩
            have HRW6 : Hid (RowsAt wBK.heap.size wBK (.slice aBR QR cBR) QR (fun i => layT f (kidT kids (if i < k then i else i + 1)) 0)) := rows_wideW (HRWS.out.below HEBK.out) zK
            have HMK : Hid (makeNs kind (keys.eraseIdx k) (fun i => layT f (kidT kids (if i < k then i else i + 1)) 0) QR = layT (f + 1) (takeKid k (.mk kind n s keys kids)) 0) := by
              have hel : (kids.eraseIdx k).length = QR := by have := HQR.out; have := HJ.out; rw [List.length_eraseIdx, if_pos (show k < kids.length from hkl), HKM.out]; omega
              rw [Hid, takeKid, hn0, hs0, lay_make, hel]
              have e1 : (fun i => layT f (kidT (kids.eraseIdx k) i) 0) = fun i => layT f (kidT kids (if i < k then i else i + 1)) 0 := by funext i; rw [kid_erase]
              rw [e1]
            have HOKQ : Hid (∀ i, i < QR → okB (layT f (kidT kids (if i < k then i else i + 1)) 0) = true) := fun i hi => HOKP.out _ (by have := HQR.out; have := HJ.out; have := HKM.out; split <;> omega)
            have HLE : Hid ((makeNs kind (keys.eraseIdx k) (fun i => layT f (kidT kids (if i < k then i else i + 1)) 0) QR).length ≤ 80) := by
              rw [Hid, HMK.out]
              have h1 := (take_nomore HG.out hkl).1
              rw [HVS.out, HMM.out] at h1
              omega
            have HCAT : Hid ((catNs (fun i => layT f (kidT kids (if i < k then i else i + 1)) 0) QR).length + 1 ≤ 100000) := by have := HLE.out; rw [make_len] at this; rw [Hid]; omega
            have HLM := hideIt (l1Make_any wBK.heap.size kind _ _ (keys.eraseIdx k) QR (fun i => layT f (kidT kids (if i < k then i else i + 1)) 0) wBK HKS6.out HRW6.out (Nat.le_refl _) (by have := HQR.out; omega) (by have : (keys.eraseIdx k).length ≤ keys.length := List.length_eraseIdx_le _ _; rw [HKN.out] at this; omega) HCAT.out (near_of HOKQ.out))
            rw [HMK.out] at HLM
            have b0y := HY0.out wBK (HEBR.out.trans (HEBK.out.mono zR))
            clear hst hkl h6 hn0 hs0 hkk
            go_wp2_with fail
            refine HLM.out.mono ?_
            rintro e w7 ⟨r7, KV7, IV7, rfl, hn7, hb7⟩
            have HN7 := hideIt (hn7.low (show w.heap.size ≤ wBK.heap.size by omega))
            have HB7 := hideIt (((HB4.out.trans (HEBR.out.mono (by omega))).trans (HEBK.out.mono (by omega))).trans (hb7.mono (by omega)))
            obtain ⟨a7, c7, e7⟩ := own_slice hn7.row
            obtain ⟨M7, hM7⟩ : ∃ M7, (layT (f + 1) (takeKid k (.mk kind n s keys kids)) 0).length = M7 := ⟨_, rfl⟩
            rw [hM7] at e7
            subst e7
            clear hn7 hb7 hM7
            go_wp2_with fail
            go_ret2
            exact ⟨_, KV7, IV7, by rw [HUN.out]; rfl, by rw [HUN.out]; exact HN7.out, HB7.out⟩
        · have hl2 : ((N : Int) == 1) = false := by simp; omega
          have HL1 := hideIt hl1
          have hN2 : 2 ≤ N := by omega
          obtain ⟨A5, hA5⟩ : ∃ A : Addr, (if cu = 1 then some (⟨bu, ou, none⟩ : Addr) else some ⟨bu, ou + 3, none⟩) = some A := by split <;> exact ⟨_, rfl⟩
          obtain ⟨aX, cX, eX⟩ := own_slice (HRW.out.nest k hkM).row
          obtain ⟨NX, hNX⟩ : ∃ NX, (PL vs k).length = NX := ⟨_, rfl⟩
          rw [hNX] at eX
          have lx : w4.cell? ⟨gL, k, none⟩ = some (.slice aX NX cX) := by rw [below_cell (H23.out.trans (H34.out.mono z3)) (by omega), (HLc.out k hkM).1, eX]
          have HB4D : Hid (Below w4.heap.size w4 w4.drew) := (Below.refl _ _).drew
          have HPSN : Hid (ps.length = N - 1) := by have := HNN.out; rw [Hid]; omega
          obtain ⟨RK, hRK⟩ : ∃ RK, updT takeG ps (kidT kids k) = RK := ⟨_, rfl⟩
          have HIH : Hid (Calls Try.prog 44 #[.slice aX NX cX, .slice (some A5) (N - 1) (cu - 1), .slice none 0 0, .bool true] w4.drew fun e w' => ∃ r KV IV, e = .returned (.tuple #[r, .bool RK.isSome]) ∧ Nest w4.drew.heap.size w' r (upN f RK) KV IV ∧ Below w4.drew.heap.size w4.drew w') := by
            have hcu1 : ¬ cu = 1 := by omega
            have hsu : StepsAt w4.drew.heap.size w4.drew (.slice (some A5) ps.length (cu - 1)) ps := by
              have h1 : StepsAt w4.drew.heap.size w4.drew (.slice (some ⟨bu, ou, none⟩) N cu) (x :: ps) := (HU2.out.below ((HB4.out.trans (HB4D.out.mono (by omega))).mono hB)).wide (by have := HB4D.out.size; omega)
              refine steps_tail h1 HNN.out (fun _ => ?_)
              rw [if_neg hcu1, Option.some.injEq] at hA5
              exact hA5.symm
            have h := ih f (kidT kids k) w4.drew.heap.size (rs k) (some A5) (cu - 1) w4.drew (fun e => by have := HPSN.out; rw [e] at this; simp at this; omega) (good_kid HG.out hkl) (HOKP.out k hkl) (HNDS.out w4.drew HB4D.out k hkM) hsu (by rw [HPSN.out]; omega) (fun z hz => h0 z (by simp [hz])) (by rw [HPSN.out]; omega) (Nat.le_refl _)
            rw [hRK, HPSN.out, eX] at h
            exact h
          have HNone : Hid (RK = none → RR = none) := fun e => by
            rw [← HRR.out]
            cases hps : ps with
            | nil => have := HPSN.out; rw [hps] at this; simp at this; omega
            | cons y qs => rw [updT, hst]; dsimp only; rw [← hps]; show (match updT takeG ps (kidT kids k) with | none => none | some u => _) = _; rw [hRK, e]
          have HSome : Hid (∀ u, RK = some u → RR = some (putKid k u (.mk kind n s keys kids)) ∧ NoMore f u (kidT kids k)) := fun u e => by
            refine ⟨?_, taken_nomore ps f (kidT kids k) u (good_kid HG.out hkl) (fun z hz => h0 z (by simp [hz])) (by rw [hRK, e])⟩
            rw [← HRR.out]
            cases hps : ps with
            | nil => have := HPSN.out; rw [hps] at this; simp at this; omega
            | cons y qs => rw [updT, hst]; dsimp only; rw [← hps]; show (match updT takeG ps (kidT kids k) with | none => none | some u => _) = _; rw [hRK, e]
          have HST := hideIt hst
          have HKLT := hideIt hkl
          clear hl1 hRK hNX hst hkl
          go_wp2_with fail
          refine wp_region_any (by kernel_rfl) ?_
          change wpAny _ _ _ _ _ _ _ (World.drew _)
          refine wpAny_take (i := 0) (v := .slice (some ⟨gL, 0, none⟩) KM cL) rfl (by kernel_rfl) (by kernel_rfl) (by kernel_rfl) (fun _ _ _ h => h) (Or.inl ⟨by kernel_rfl, fun w => ?_⟩) ?_
          · go_simp
          refine wpAny_take (i := 1) (v := .int .i64 (k : Int)) rfl (by kernel_rfl) (by kernel_rfl) (by kernel_rfl) (fun _ _ _ h => h) (Or.inl ⟨by kernel_rfl, fun w => ?_⟩) ?_
          · go_simp
          refine wpAny_take (i := 2) (v := .pointer (some ⟨gL, k, none⟩)) rfl (by kernel_rfl) (by kernel_rfl) (by kernel_rfl) (fun _ _ _ h => h) (Or.inl ⟨by kernel_rfl, fun w => ?_⟩) ?_
          · go_simp
          refine wpAny_take (i := 4) (v := .slice (some ⟨bu, ou, none⟩) N cu) rfl (by kernel_rfl) (by kernel_rfl) (by kernel_rfl) (fun _ _ _ h => h) (Or.inl ⟨by kernel_rfl, fun w => ?_⟩) ?_
          · go_simp
          refine wpAny_take (i := 5) (v := .slice (some A5) (N - 1) (cu - 1)) rfl (by kernel_rfl) (by kernel_rfl) (by kernel_rfl) (fun _ _ _ h => h) (Or.inl ⟨by kernel_rfl, fun w => ?_⟩) ?_
          · go_simp <;> (intro hh; omega)
          refine wpAny_take (i := 6) (v := .slice none 0 0) rfl (by kernel_rfl) (by kernel_rfl) (by kernel_rfl) (fun _ _ _ h => h) (Or.inl ⟨by kernel_rfl, fun w => ?_⟩) ?_
          · go_simp
          refine wpAny_take (i := 7) (v := .bool true) rfl (by kernel_rfl) (by kernel_rfl) (by kernel_rfl) (fun _ _ _ h => h) (Or.inl ⟨by kernel_rfl, fun w => ?_⟩) ?_
          · go_simp
          go_simp
          refine wpAny_ready (rs := [3]) (by kernel_rfl) (by simp) ?_
          refine AllReady.cons rfl (fun K hK => ?_) AllReady.nil
          go_simp
          refine hK _ _ ?_
          clear hK K
          refine wpAny_ready (rs := [8]) (by kernel_rfl) (by simp) ?_
          refine AllReady.cons rfl (fun K hK => ?_) AllReady.nil
          refine step_call4 (by kernel_rfl) 44 (.tmp 83) (.tmp 85) (.tmp 86) (.tmp 87) 24 25 24 4 (by kernel_rfl) (.slice aX NX cX) (.slice (some A5) (N - 1) (cu - 1)) (.slice none 0 0) (.bool true) (by kernel_rfl) (by kernel_rfl) (by kernel_rfl) (by kernel_rfl) (call_with6 _ _ _ _) HIH.out ?_
          rintro e w5 ⟨r5, KV5, IV5, rfl, hn5, hb5⟩
          have HN5 := hideIt hn5
          have H45 : Hid (Below w4.heap.size w4 w5) := HB4D.out.trans (hb5.mono HB4D.out.size)
          have HB5 := hideIt (HB4.out.trans (H45.out.mono (by omega)))
          have z5 := H45.out.size
          obtain ⟨a5, c5, e5⟩ := own_slice hn5.row
          obtain ⟨n5, hn5l⟩ : ∃ n5, (upN f RK).length = n5 := ⟨_, rfl⟩
          rw [hn5l] at e5
          subst e5
          obtain ⟨FS, hFS⟩ : ∃ FS, RK.isSome = FS := ⟨_, rfl⟩
          rw [hFS]
          refine ⟨_, rfl, ?_⟩
          refine hK _ _ ?_
          clear hK K hn5 hb5 hn5l
          refine wpAny_take (i := 9) (v := .tuple #[.slice a5 n5 c5, .bool FS]) rfl (by kernel_rfl) (by kernel_rfl) (by kernel_rfl) (fun _ _ _ h => h) (Or.inl ⟨by kernel_rfl, fun w => ?_⟩) ?_
          · go_simp
          refine wpAny_take (i := 10) (v := .slice a5 n5 c5) rfl (by kernel_rfl) (by kernel_rfl) (by kernel_rfl) (fun _ _ _ h => h) (Or.inl ⟨by kernel_rfl, fun w => ?_⟩) ?_
          · go_simp
          refine wpAny_take (i := 11) (v := .bool FS) rfl (by kernel_rfl) (by kernel_rfl) (by kernel_rfl) (fun _ _ _ h => h) (Or.inl ⟨by kernel_rfl, fun w => ?_⟩) ?_
          · go_simp
          refine wpAny_take (i := 12) (v := .slice a5 n5 c5) rfl (by kernel_rfl) (by kernel_rfl) (by kernel_rfl) (fun _ _ _ h => h) (Or.inl ⟨by kernel_rfl, fun w => ?_⟩) ?_
          · go_simp
          refine wpAny_take (i := 13) (v := .bool FS) rfl (by kernel_rfl) (by kernel_rfl) (by kernel_rfl) (fun _ _ _ h => h) (Or.inl ⟨by kernel_rfl, fun w => ?_⟩) ?_
          · go_simp
          go_simp
          refine wpAny_done (by kernel_rfl) ?_ _
          cases hRKc : RK with
          | none =>
            have hFS0 : FS = false := by rw [← hFS, hRKc]; rfl
            have HUN := hideIt (HNone.out hRKc)
            subst hFS0
            clear hFS hRKc
            go_wp2_with fail
            go_ret2
            exact ⟨_, fun _ => undef, fun _ => undef, by rw [HUN.out]; rfl, by rw [HUN.out]; exact Nest.nil _ _ _ _, HB5.out⟩
          | some u =>
            have hFS0 : FS = true := by rw [← hFS, hRKc]; rfl
            have HUN := hideIt (HSome.out u hRKc)
            have HN5u : Hid (Nest w4.heap.size w5 (.slice a5 n5 c5) (layT f u 0) KV5 IV5) := by have := HN5.out; rw [hRKc] at this; exact this
            subst hFS0
            have HUG := hideIt HUN.out.2
            have HOKU : Hid (okB (layT f u 0) = true) := by
              have h1 := HUG.out
              have h2 := (ok_lay (good_kid HG.out HKLT.out).full).1 (HOKP.out k HKLT.out)
              have h3 := h1.1
              have h4 := h1.2.1
              have h5 := h2.1
              have h6 := h2.2.2
              have e1 : kidT (kidsT (.mk kind n s keys kids)) k = kidT kids k := rfl
              rw [e1] at h5 h6
              exact (ok_lay h1.2.2.full).2 ⟨by omega, h1.2.2, by omega⟩
            have HRW5 : Hid (w5.ownsRow (w.alloc (.cells #[.int .i64 kind, .int .i64 n, .string s, .slice aK KN cK, .slice aI KM cI] 78)).heap.size 24 1 (.slice (some ⟨gL, 0, none⟩) KM cL) KM ((List.range KM).map rs)) := own_below HRW.out.row (H23.out.trans ((H34.out.trans (H45.out.mono z4)).mono z3)) (fun q hq => (HRW.out.row.lt q hq).2)
            have hfull5 := own_full HRW5.out
            have l5 := (hfull5.1 k hkM).1
            have f5 := (hfull5.1 k hkM).2
            have HNS5 : Hid (∀ i, i < KM → Nest (loR i) w5 (rs i) (layT f (kidT kids i) 0) (KV i) (IV i)) := fun i hi => by
              have h1 := (HRW.out.nest i hi).below (H23.out.trans ((H34.out.trans (H45.out.mono z4)).mono z3))
              rw [HPL.out i (by rw [HKM.out]; exact hi)] at h1
              exact h1
            obtain ⟨W6, hW6⟩ : ∃ W6, w5.setCell ⟨gL, k, none⟩ (.slice a5 n5 c5) = W6 := ⟨_, rfl⟩
            have HRW6 : Hid (RowsAt W6.heap.size W6 (.slice (some ⟨gL, 0, none⟩) KM cL) KM (fun i => if i = k then layT f u 0 else layT f (kidT kids i) 0)) := by
              rw [Hid, ← hW6]
              exact rows_set HRW5.out hKM80 hkM HNS5.out (fun i hi => HFI.out i (by rw [HKM.out]; exact hi)) HN5u.out (ok_fits HOKU.out)
            have HST6 : Hid (∀ c, c ≠ gL → W6.heap[c]? = w5.heap[c]?) := fun c hc => by rw [← hW6]; exact Below.heap_setCell w5 _ _ c hc
            have HZ6 : Hid (W6.heap.size = w5.heap.size) := by rw [Hid, ← hW6]; simp
            have hgw : gL ≠ w.heap.size := by
              have := HRWLO.out gL (.inr trivial) rfl
              omega
            have b6 : W6.cell? ⟨w.heap.size, 0, none⟩ = some (.int .i64 kind) := by rw [cellR (HST6.out _ (fun e => hgw e.symm))]; exact HY0.out w5 H45.out
            have HB6 : Hid (Below w.heap.size w W6) := by
              have h5 := HB5.out
              have hlo := HRWLO.out gL (.inr trivial) rfl
              refine ⟨?_, ?_, ?_, by rw [HZ6.out]; exact h5.size, fun c hc => (HST6.out c (by omega)).trans (h5.block c hc)⟩
              · rw [← hW6]; exact h5.os
              · rw [← hW6]; exact h5.tape
              · rw [← hW6]; exact h5.output
            have HKS6 : Hid (StrsAt W6.heap.size W6 (.slice aV KN cV) keys) := by
              have h1 := HK3.out
              rw [← HKN.out] at h1
              have h2 := own_strs h1 HNI.out.keys.1 HNI.out.keys.2.1
              rw [HKN.out] at h2
              have h3 := (h2.below (w' := w5) (H34.out.trans (H45.out.mono z4))).wide (B' := W6.heap.size) (by have := HZ6.out; omega)
              obtain ⟨q1, q2, ak, ck, eq, q3⟩ := h3
              refine ⟨q1, q2, ak, ck, eq, fun hp => ?_⟩
              obtain ⟨bb, oo, rfl, hbb, hcc⟩ := q3 hp
              refine ⟨bb, oo, rfl, hbb, fun i hi => ?_⟩
              have hne : bb ≠ gL := by
                simp only [Value.slice.injEq] at eq
                rintro rfl
                rcases own_apart HK3.out (own_below HRW.out.row H23.out (fun q hq => (HRW.out.row.lt q hq).2)) (by decide) with e | e
                · rw [eq.1] at e; cases e
                · exact e (by rw [eq.1]; rfl)
              rw [cellR (HST6.out bb hne)]
              exact hcc i hi
            have HMK : Hid (makeNs kind keys (fun i => if i = k then layT f u 0 else layT f (kidT kids i) 0) KM = layT (f + 1) (putKid k u (.mk kind n s keys kids)) 0) := by
              have hel : (kids.set k u).length = KM := by rw [List.length_set]; exact HKM.out
              obtain ⟨hn0, hs0⟩ : n = 0 ∧ s = ByteArray.empty := by
                rcases step_kinds HG.out HST.out with ⟨_, q1, q2, _⟩ | ⟨_, q1, q2, _⟩
                · exact ⟨q1, q2⟩
                · exact ⟨q1, q2⟩
              rw [Hid, putKid, hn0, hs0, lay_make, hel]
              have e1 : (fun i => layT f (kidT (kids.set k u) i) 0) = fun i => if i = k then layT f u 0 else layT f (kidT kids i) 0 := by funext i; rw [kid_set (show k < kids.length from HKLT.out)]; split <;> rfl
              rw [e1]
            have HOKQ : Hid (∀ i, i < KM → okB (if i = k then layT f u 0 else layT f (kidT kids i) 0) = true) := fun i hi => by
              split
              · exact HOKU.out
              · exact HOKP.out i (by rw [HKM.out]; exact hi)
            have HCAT : Hid ((catNs (fun i => if i = k then layT f u 0 else layT f (kidT kids i) 0) KM).length + 1 ≤ 100000) := by
              have h1 := (put_nomore HG.out HKLT.out HUG.out).1
              rw [← HMK.out, HVS.out, HMM.out, make_len] at h1
              rw [Hid]
              omega
            have HLM := hideIt (l1Make_any W6.heap.size kind _ _ keys KM (fun i => if i = k then layT f u 0 else layT f (kidT kids i) 0) W6 HKS6.out HRW6.out (Nat.le_refl _) (by omega) (by rw [HKN.out]; omega) HCAT.out (near_of HOKQ.out))
            rw [HMK.out] at HLM
            have z6 := HZ6.out
            have HZZ := hideIt z6
            have z6l : w.heap.size ≤ W6.heap.size := HB6.out.size
            clear hFS hRKc hfull5 z6
            go_wp2_with fail
            refine HLM.out.mono ?_
            rintro e w7 ⟨r7, KV7, IV7, rfl, hn7, hb7⟩
            have HN7 := hideIt (hn7.low z6l)
            have HB7 := hideIt (HB6.out.trans (hb7.mono z6l))
            obtain ⟨a7, c7, e7⟩ := own_slice hn7.row
            obtain ⟨M7, hM7⟩ : ∃ M7, (layT (f + 1) (putKid k u (.mk kind n s keys kids)) 0).length = M7 := ⟨_, rfl⟩
            rw [hM7] at e7
            subst e7
            clear hn7 hb7 hM7
            go_wp2_with fail
            go_ret2
            exact ⟨_, KV7, IV7, by rw [HUN.out.1]; rfl, by rw [HUN.out.1]; exact HN7.out, HB7.out⟩
    · go_simp
      refine hK _ _ ?_
      clear hK K
      refine wpAny_ready (rs := [0]) (by kernel_rfl) (by simp) ?_
      refine AllReady.cons rfl (fun K hK => ?_) AllReady.nil
      go_simp
      refine hK _ _ ?_
      clear hK K
      refine wpAny_ready (rs := [4]) (by kernel_rfl) (by simp) ?_
      refine AllReady.cons rfl (fun K hK => ?_) AllReady.nil
      refine step_call2p (by kernel_rfl) 88 (.tmp 36) (.tmp 39) 78 39 (by kernel_rfl) (.agg #[.int .i64 kind, .int .i64 n, .string s, .slice aK KN cK, .slice aI KM cI]) (.agg #[.bool x.named, .string x.key, .int .i64 x.pl]) (by kernel_rfl) (by kernel_rfl) (call_kid6 _ _) (HLK.out w3.drew (HB3.out.trans (HBD.out.mono (by omega)))) ?_
      rintro e w4 ⟨rfl, hb4⟩
      refine .inl ⟨_, rfl, ?_⟩
      refine hK _ _ ?_
      clear hK K
      refine wpAny_take (i := 5) (v := .int .i64 (kidR (stepT (.mk kind n s keys kids) x))) rfl (by kernel_rfl) (by kernel_rfl) (by kernel_rfl) (fun _ _ _ h => h) (Or.inl ⟨by kernel_rfl, fun w => ?_⟩) ?_
      · go_simp
      go_simp
      refine wpAny_done (by kernel_rfl) ?_ _
      have H34 : Hid (Below w3.heap.size w3 w4) := HBD.out.trans (hb4.mono HBD.out.size)
      have HB4 := hideIt (HB3.out.trans (H34.out.mono (by omega)))
      have z4 := H34.out.size
      have HY0 : Hid (∀ W, Below w4.heap.size w4 W → W.cell? ⟨w.heap.size, 0, none⟩ = some (.int .i64 kind)) := fun W hb => (below_cell hb (by omega)).trans ((below_cell H34.out (by omega)).trans y0)
      clear hb4 y0 y1 y2 y3 y4 t0 t1 t2
      cases hst : stepT (.mk kind n s keys kids) x with
      | none =>
        have HUN : Hid (RR = none) := by
          rw [Hid, ← HRR.out]
          cases ps with
          | nil => show takeG _ x = none; unfold takeG; rw [hst]
          | cons y qs => rw [updT, hst]
        have hkr : kidR none = -1 := rfl
        by_cases hl1 : N = 1
        · have hl2 : ((N : Int) == 1) = true := by simp; omega
          clear hl1
          go_wp2_with fail
          go_ret2
          exact ⟨_, fun _ => undef, fun _ => undef, by rw [HUN.out]; rfl, by rw [HUN.out]; exact Nest.nil _ _ _ _, HB4.out⟩
        · have hl2 : ((N : Int) == 1) = false := by simp; omega
          clear hl1
          go_wp2_with fail
          go_ret2
          exact ⟨_, fun _ => undef, fun _ => undef, by rw [HUN.out]; rfl, by rw [HUN.out]; exact Nest.nil _ _ _ _, HB4.out⟩
      | some k =>
        have hkr : kidR (some k) = (k : Int) := rfl
        have hkl := stepT_lt HG.out h0x hst
        have hkM : k < KM := by rw [← HKM.out]; exact hkl
        have hKM80 : KM ≤ 80 := by
          have h2 := (ok_fits (by rw [HVS.out]; exact HOK.out : okB (layT (f + 1) (.mk kind n s keys kids) 0) = true)).1.2 (M - 1) (by rw [HVS.out, HMM.out]; omega)
          have h3 := lay_rootW f kind n s keys kids
          rw [HVS.out, HMM.out] at h3
          rw [HVS.out, h3] at h2
          have := h2.2
          dsimp only at this
          rw [ksT_lenW f 0 kids _ (Nat.le_refl _), HKM.out] at this
          exact this
        obtain ⟨gL, cLx, eL, _, hgLl⟩ := HRW.out.row.form (by omega)
        simp only [Value.slice.injEq] at eL
        obtain ⟨rfl, _, rfl⟩ := eL
        obtain ⟨hLc, hLcap, hLmax, _, _⟩ := own_full HRW.out.row
        have HLc := hideIt hLc
        obtain ⟨iR, hiR, hzR, hsR, hyR⟩ := info_parts infoRow
        clear hLc
        have HFI : Hid (∀ i, i < kids.length → Few (layT f (kidT kids i) 0) ∧ ∀ j, j < (layT f (kidT kids i) 0).length → Fits (nodeAt (layT f (kidT kids i) 0) j)) := fun i hi => ok_fits (HOKP.out i hi)
        have HNDS : Hid (∀ W, Below w4.heap.size w4 W → ∀ i, i < KM → NodesAt W.heap.size W (rs i) (layT f (kidT kids i) 0)) := fun W hb i hi => by
          have hb2 : Below w2.heap.size w2 W := H23.out.trans ((H34.out.trans (hb.mono z4)).mono z3)
          have hfi := HFI.out i (by rw [HKM.out]; exact hi)
          have := (HRW.out.nest i hi).nodes (by rw [HPL.out i (by rw [HKM.out]; exact hi)]; exact Nat.le_trans hfi.1.1 (by omega)) (by rw [HPL.out i (by rw [HKM.out]; exact hi)]; exact hfi.2)
          rw [HPL.out i (by rw [HKM.out]; exact hi)] at this
          exact (this.below hb2).wide hb2.size
        by_cases hl1 : N = 1
        · have hl2 : ((N : Int) == 1) = true := by simp; omega
          obtain ⟨j, hj⟩ : ∃ j, j = k + 1 := ⟨_, rfl⟩
          obtain ⟨AR, hAR⟩ : ∃ A : Addr, (if cL = j then some (⟨gL, 0, none⟩ : Addr) else some ⟨gL, j, none⟩) = some A := by split <;> exact ⟨_, rfl⟩
          obtain ⟨QR, hQR⟩ : ∃ Q, k + (KM - j) = Q := ⟨_, rfl⟩
          have HQR := hideIt hQR
          have HJ := hideIt hj
          have HL1 := hideIt hl1
          have hjk : (k : Int) + 1 = (j : Int) := by omega
          have hjM : j ≤ KM := by omega
          have hjc : j ≤ cL := by omega
          have hkc : k ≤ cL := by omega
          have HLR : Hid (DelSrc w4 ((List.range KM).map rs) gL KM k j AR) := delSrc_of (cL := cL) (by simp) (by omega) hjM (fun i hi => by rw [below_cell (H23.out.trans (H34.out.mono z3)) (by omega), (HLc.out i hi).1]; simp [hi]) (by omega) (fun u hu => by obtain ⟨q, hq, rfl⟩ := List.mem_map.1 hu; obtain ⟨a, c, e⟩ := own_slice (HRW.out.nest q (List.mem_range.1 hq)).row; rw [e]; rfl) hLcap hAR
          clear hQR hj hl1
          go_wp2_with fail
          have HDR : Hid (Below w4.heap.size w4 w4.drew) := (Below.refl _ _).drew
          refine wp_region_any (by kernel_rfl) ?_
          change wpAny _ _ _ _ _ _ _ (World.drew _)
          refine wpAny_take (i := 1) (v := .slice (some ⟨gL, 0, none⟩) KM cL) rfl (by kernel_rfl) (by kernel_rfl) (by kernel_rfl) (fun _ _ _ h => h) (Or.inl ⟨by kernel_rfl, fun w => ?_⟩) ?_
          · go_simp
          refine wpAny_take (i := 2) (v := .int .i64 (k : Int)) rfl (by kernel_rfl) (by kernel_rfl) (by kernel_rfl) (fun _ _ _ h => h) (Or.inl ⟨by kernel_rfl, fun w => ?_⟩) ?_
          · go_simp
          refine wpAny_take (i := 3) (v := .slice (some ⟨gL, 0, none⟩) k cL) rfl (by kernel_rfl) (by kernel_rfl) (by kernel_rfl) (fun _ _ _ h => h) (Or.inl ⟨by kernel_rfl, fun w => ?_⟩) ?_
          · go_simp
          refine wpAny_take (i := 5) (v := .slice (some ⟨gL, 0, none⟩) KM cL) rfl (by kernel_rfl) (by kernel_rfl) (by kernel_rfl) (fun _ _ _ h => h) (Or.inl ⟨by kernel_rfl, fun w => ?_⟩) ?_
          · go_simp
          refine wpAny_take (i := 6) (v := .int .i64 (k : Int)) rfl (by kernel_rfl) (by kernel_rfl) (by kernel_rfl) (fun _ _ _ h => h) (Or.inl ⟨by kernel_rfl, fun w => ?_⟩) ?_
          · go_simp
          refine wpAny_take (i := 7) (v := .int .i64 (j : Int)) rfl (by kernel_rfl) (by kernel_rfl) (by kernel_rfl) (fun _ _ _ h => h) (Or.inl ⟨by kernel_rfl, fun w => ?_⟩) ?_
          · go_simp
            exact i64_wrap (by omega) (by omega)
          refine wpAny_take (i := 8) (v := .slice (some AR) (KM - j) (cL - j)) rfl (by kernel_rfl) (by kernel_rfl) (by kernel_rfl) (fun _ _ _ h => h) (Or.inl ⟨by kernel_rfl, fun w => ?_⟩) ?_
          · go_simp
          go_simp
          refine wpAny_ready (rs := [0]) (by kernel_rfl) (by simp) ?_
          refine AllReady.cons rfl (fun K hK => ?_) AllReady.nil
          go_simp
          refine hK _ _ ?_
          clear hK K
          have HOR : Hid ((w4.drew.alloc (.cells #[] 24)).ownsRow w4.heap.size 24 1 (.slice (some ⟨w4.heap.size, 0, none⟩) 0 0) 0 []) := by
            have := World.ownsRow_lit (base := w4.heap.size) (e := 24) (size := 1) w4.drew #[] 0 (Nat.le_refl _) (by simp [maxLen]) rfl
            simpa [Hid] using this
          have HER : Hid (Below w4.heap.size w4 (w4.drew.alloc (.cells #[] 24))) := HDR.out.alloc (Nat.le_refl _) _
          refine wpAny_ready (rs := [4]) (by kernel_rfl) (by simp) ?_
          refine AllReady.cons rfl (fun K hK => ?_) AllReady.nil
          refine step_append_src (by kernel_rfl) (.tmp 53) (.tmp 56) 40 (by kernel_rfl) w4.heap.size 24 iR (.slice none 0 0) 1 24 Try.underlying40 hiR hzR hsR hyR rfl (by decide) _ 0 [] (by kernel_rfl) HOR.out (some ⟨gL, 0, none⟩) k cL (((List.range KM).map rs).take k) (by kernel_rfl) (HLR.out.1) (fun _ => ⟨_, rfl, HLR.out.2.1 _ HER.out⟩) (HLR.out.2.2.1) (by unfold maxLen; omega) (by omega) (by simp) ?_
          intro vAR wAR hAR hgAR hatAR
          have HEAR : Hid (Below w4.heap.size w4 wAR) := HER.out.grown hgAR (by simp) (fun r hr => by simp [Value.ownBlock] at hr; omega)
          obtain ⟨aAR, cAR, eAR⟩ := own_slice hAR
          (try simp only [Nat.zero_add, List.nil_append] at hAR eAR)
          subst eAR
          have HAR := hideIt hAR
          clear hAR hgAR hatAR
          refine hK _ _ ?_
          clear hK K
          refine wpAny_ready (rs := [9]) (by kernel_rfl) (by simp) ?_
          refine AllReady.cons rfl (fun K hK => ?_) AllReady.nil
          refine step_append_src (by kernel_rfl) (.tmp 57) (.tmp 61) 40 (by kernel_rfl) w4.heap.size 24 iR (.slice none 0 0) 1 24 Try.underlying40 hiR hzR hsR hyR rfl (by decide) _ k (((List.range KM).map rs).take k) (by kernel_rfl) HAR.out (some AR) (KM - j) (cL - j) (((List.range KM).map rs).drop j) (by kernel_rfl) (HLR.out.2.2.2.1) (fun hp => ⟨_, rfl, HLR.out.2.2.2.2.1 _ HEAR.out hp⟩) (HLR.out.2.2.2.2.2) (by unfold maxLen; omega) (by omega) HEAR.out.size ?_
          intro vBR wBR hBR hgBR hatBR
          have HEBR : Hid (Below w4.heap.size w4 wBR) := HEAR.out.grown hgBR HEAR.out.size (fun r hr => (HAR.out.lt r hr).1)
          rw [show k + (KM - j) = QR from HQR.out] at hBR
          obtain ⟨aBR, cBR, eBR⟩ := own_slice hBR
          subst eBR
          have HBR := hideIt hBR
          clear hBR hgBR hatBR
          refine hK _ _ ?_
          clear hK K
          refine wpAny_take (i := 10) (v := .slice aBR QR cBR) rfl (by kernel_rfl) (by kernel_rfl) (by kernel_rfl) (fun _ _ _ h => h) (Or.inl ⟨by kernel_rfl, fun w => ?_⟩) ?_
          · go_simp
          go_simp
          refine wpAny_done (by kernel_rfl) ?_ _
          have HUN : Hid (RR = some (takeKid k (.mk kind n s keys kids))) := by
            rw [Hid, ← HRR.out]
            have hps : ps = [] := List.eq_nil_of_length_eq_zero (by have := HNN.out; have := HL1.out; omega)
            rw [hps]
            show takeG _ x = _
            unfold takeG
            rw [hst]
          have HRWS := hideIt (rows_erased (L := fun i => layT f (kidT kids i) 0) HBR.out HJ.out (by omega) HQR.out hKM80 (HNDS.out wBR HEBR.out))
          have b0x := HY0.out wBR HEBR.out
          have zR := HEBR.out.size
          rcases step_kinds HG.out hst with ⟨h5, hn0, hs0, hks0⟩ | ⟨h6, hn0, hs0, hkk⟩
          · have hk6 : ¬ kind = 6 := by omega
            have hk6' : (kind == 6) = false := by simp; omega
            have HKS5 : Hid (StrsAt wBR.heap.size wBR (.slice aV KN cV) keys) := by
              have h1 := HK3.out
              rw [hks0] at h1
              obtain ⟨a, c, e⟩ := own_slice h1
              rw [hks0]
              simp only [Value.slice.injEq] at e
              obtain ⟨_, e2, _⟩ := e
              have e3 : KN = 0 := by rw [← HKN.out, hks0]; rfl
              exact ⟨by simp, fun i hi => absurd hi (by simp), aV, cV, by rw [e3]; rfl, fun h => absurd h (by simp)⟩
            have HMK : Hid (makeNs kind keys (fun i => layT f (kidT kids (if i < k then i else i + 1)) 0) QR = layT (f + 1) (takeKid k (.mk kind n s keys kids)) 0) := by
              have hel : (kids.eraseIdx k).length = QR := by have := HQR.out; have := HJ.out; rw [List.length_eraseIdx, if_pos (show k < kids.length from hkl), HKM.out]; omega
              rw [Hid, takeKid, hn0, hs0, lay_make, hel, hks0]
              have e1 : (fun i => layT f (kidT (kids.eraseIdx k) i) 0) = fun i => layT f (kidT kids (if i < k then i else i + 1)) 0 := by funext i; rw [kid_erase]
              rw [e1]
              rfl
            have HOKQ : Hid (∀ i, i < QR → okB (layT f (kidT kids (if i < k then i else i + 1)) 0) = true) := fun i hi => HOKP.out _ (by have := HQR.out; have := HJ.out; have := HKM.out; split <;> omega)
            have HLE : Hid ((makeNs kind keys (fun i => layT f (kidT kids (if i < k then i else i + 1)) 0) QR).length ≤ 80) := by
              rw [Hid, HMK.out]
              have h1 := (take_nomore HG.out hkl).1
              rw [HVS.out, HMM.out] at h1
              omega
            have HCAT : Hid ((catNs (fun i => layT f (kidT kids (if i < k then i else i + 1)) 0) QR).length + 1 ≤ 100000) := by have := HLE.out; rw [make_len] at this; rw [Hid]; omega
            have HLM := hideIt (l1Make_any wBR.heap.size kind _ _ keys QR (fun i => layT f (kidT kids (if i < k then i else i + 1)) 0) wBR HKS5.out HRWS.out (Nat.le_refl _) (by have := HQR.out; omega) (by rw [hks0]; simp) HCAT.out (near_of HOKQ.out))
            rw [HMK.out] at HLM
            clear hst hkl h5 hn0 hs0 hks0
            go_wp2_with fail
            refine HLM.out.mono ?_
            rintro e w7 ⟨r7, KV7, IV7, rfl, hn7, hb7⟩
            have HN7 := hideIt (hn7.low (show w.heap.size ≤ wBR.heap.size by omega))
            have HB7 := hideIt ((HB4.out.trans (HEBR.out.mono (by omega))).trans (hb7.mono (by omega)))
            obtain ⟨a7, c7, e7⟩ := own_slice hn7.row
            obtain ⟨M7, hM7⟩ : ∃ M7, (layT (f + 1) (takeKid k (.mk kind n s keys kids)) 0).length = M7 := ⟨_, rfl⟩
            rw [hM7] at e7
            subst e7
            clear hn7 hb7 hM7
            go_wp2_with fail
            go_ret2
            exact ⟨_, KV7, IV7, by rw [HUN.out]; rfl, by rw [HUN.out]; exact HN7.out, HB7.out⟩
          · have hk6' : (kind == 6) = true := by simp; omega
            have HK6 := hideIt h6
            have hKNM : KN = KM := by rw [← HKN.out, hkk]; exact HKM.out
            obtain ⟨gV, cVx, eV2, _, hgVl⟩ := HK3.out.form (by omega)
            simp only [Value.slice.injEq] at eV2
            obtain ⟨rfl, _, rfl⟩ := eV2
            have hk3r := HK3.out
            rw [← HKN.out, keys_range] at hk3r
            obtain ⟨hVc, hVcap, hVmax, _, _⟩ := own_full hk3r
            rw [HKN.out] at hVc hVcap
            have HVc := hideIt hVc
            obtain ⟨AK, hAK⟩ : ∃ A : Addr, (if cV = j then some (⟨gV, 0, none⟩ : Addr) else some ⟨gV, j, none⟩) = some A := by split <;> exact ⟨_, rfl⟩
            obtain ⟨QK, hQK⟩ : ∃ Q, k + (KN - j) = Q := ⟨_, rfl⟩
            have HQK := hideIt hQK
            have hjN : j ≤ KN := by omega
            have hjcV : j ≤ cV := by omega
            have hkcV : k ≤ cV := by omega
            have hkKN : k < KN := by omega
            have HLK2 : Hid (DelSrc wBR (keys.map Value.string) gV KN k j AK) := delSrc_of (cL := cV) (by rw [List.length_map]; exact HKN.out) (by omega) hjN (fun i hi => by rw [below_cell (H34.out.trans (HEBR.out.mono z4)) (by omega), (HVc.out i hi).1, keys_range]; simp [HKN.out, hi]) (by omega) (fun u hu => by obtain ⟨q, _, rfl⟩ := List.mem_map.1 hu; rfl) hVcap hAK
            have HQQ : Hid (QK = QR) := by have := HQR.out; have := HQK.out; rw [Hid]; omega
            have HKNM := hideIt hKNM
            have hKN80b : KN ≤ 80 := by omega
            clear hVc hk3r hQK hKNM
            go_wp2_with fail
            have HDK : Hid (Below wBR.heap.size wBR wBR.drew) := (Below.refl _ _).drew
            refine wp_region_any (by kernel_rfl) ?_
            change wpAny _ _ _ _ _ _ _ (World.drew _)
            refine wpAny_take (i := 1) (v := .slice (some ⟨gV, 0, none⟩) KN cV) rfl (by kernel_rfl) (by kernel_rfl) (by kernel_rfl) (fun _ _ _ h => h) (Or.inl ⟨by kernel_rfl, fun w => ?_⟩) ?_
            · go_simp
            refine wpAny_take (i := 2) (v := .int .i64 (k : Int)) rfl (by kernel_rfl) (by kernel_rfl) (by kernel_rfl) (fun _ _ _ h => h) (Or.inl ⟨by kernel_rfl, fun w => ?_⟩) ?_
            · go_simp
            refine wpAny_take (i := 3) (v := .slice (some ⟨gV, 0, none⟩) k cV) rfl (by kernel_rfl) (by kernel_rfl) (by kernel_rfl) (fun _ _ _ h => h) (Or.inl ⟨by kernel_rfl, fun w => ?_⟩) ?_
            · go_simp
            refine wpAny_take (i := 5) (v := .slice (some ⟨gV, 0, none⟩) KN cV) rfl (by kernel_rfl) (by kernel_rfl) (by kernel_rfl) (fun _ _ _ h => h) (Or.inl ⟨by kernel_rfl, fun w => ?_⟩) ?_
            · go_simp
            refine wpAny_take (i := 6) (v := .int .i64 (k : Int)) rfl (by kernel_rfl) (by kernel_rfl) (by kernel_rfl) (fun _ _ _ h => h) (Or.inl ⟨by kernel_rfl, fun w => ?_⟩) ?_
            · go_simp
            refine wpAny_take (i := 7) (v := .int .i64 (j : Int)) rfl (by kernel_rfl) (by kernel_rfl) (by kernel_rfl) (fun _ _ _ h => h) (Or.inl ⟨by kernel_rfl, fun w => ?_⟩) ?_
            · go_simp
              exact i64_wrap (by omega) (by omega)
            refine wpAny_take (i := 8) (v := .slice (some AK) (KN - j) (cV - j)) rfl (by kernel_rfl) (by kernel_rfl) (by kernel_rfl) (fun _ _ _ h => h) (Or.inl ⟨by kernel_rfl, fun w => ?_⟩) ?_
            · go_simp
            go_simp
            refine wpAny_ready (rs := [0]) (by kernel_rfl) (by simp) ?_
            refine AllReady.cons rfl (fun K hK => ?_) AllReady.nil
            go_simp
            refine hK _ _ ?_
            clear hK K
            have HOK : Hid ((wBR.drew.alloc (.cells #[] 9)).ownsRow wBR.heap.size 9 1 (.slice (some ⟨wBR.heap.size, 0, none⟩) 0 0) 0 []) := by
              have := World.ownsRow_lit (base := wBR.heap.size) (e := 9) (size := 1) wBR.drew #[] 0 (Nat.le_refl _) (by simp [maxLen]) rfl
              simpa [Hid] using this
            have HEK : Hid (Below wBR.heap.size wBR (wBR.drew.alloc (.cells #[] 9))) := HDK.out.alloc (Nat.le_refl _) _
            refine wpAny_ready (rs := [4]) (by kernel_rfl) (by simp) ?_
            refine AllReady.cons rfl (fun K hK => ?_) AllReady.nil
            refine step_append_src (by kernel_rfl) (.tmp 66) (.tmp 69) 75 (by kernel_rfl) wBR.heap.size 9 i1 (.string ByteArray.empty) 1 16 Try.underlying75 hi1 hz1 hs1 hy1 rfl (by decide) _ 0 [] (by kernel_rfl) HOK.out (some ⟨gV, 0, none⟩) k cV ((keys.map Value.string).take k) (by kernel_rfl) (HLK2.out.1) (fun _ => ⟨_, rfl, HLK2.out.2.1 _ HEK.out⟩) (HLK2.out.2.2.1) (by unfold maxLen; omega) (by omega) (by simp) ?_
            intro vAK wAK hAK hgAK hatAK
            have HEAK : Hid (Below wBR.heap.size wBR wAK) := HEK.out.grown hgAK (by simp) (fun r hr => by simp [Value.ownBlock] at hr; omega)
            obtain ⟨aAK, cAK, eAK⟩ := own_slice hAK
            (try simp only [Nat.zero_add, List.nil_append] at hAK eAK)
            subst eAK
            have HAK := hideIt hAK
            clear hAK hgAK hatAK
            refine hK _ _ ?_
            clear hK K
            refine wpAny_ready (rs := [9]) (by kernel_rfl) (by simp) ?_
            refine AllReady.cons rfl (fun K hK => ?_) AllReady.nil
            refine step_append_src (by kernel_rfl) (.tmp 70) (.tmp 74) 75 (by kernel_rfl) wBR.heap.size 9 i1 (.string ByteArray.empty) 1 16 Try.underlying75 hi1 hz1 hs1 hy1 rfl (by decide) _ k ((keys.map Value.string).take k) (by kernel_rfl) HAK.out (some AK) (KN - j) (cV - j) ((keys.map Value.string).drop j) (by kernel_rfl) (HLK2.out.2.2.2.1) (fun hp => ⟨_, rfl, HLK2.out.2.2.2.2.1 _ HEAK.out hp⟩) (HLK2.out.2.2.2.2.2) (by unfold maxLen; omega) (by omega) HEAK.out.size ?_
            intro vBK wBK hBK hgBK hatBK
            have HEBK : Hid (Below wBR.heap.size wBR wBK) := HEAK.out.grown hgBK HEAK.out.size (fun r hr => (HAK.out.lt r hr).1)
            rw [show k + (KN - j) = QK from HQK.out] at hBK
            obtain ⟨aBK, cBK, eBK⟩ := own_slice hBK
            subst eBK
            have HBK := hideIt hBK
            clear hBK hgBK hatBK
            refine hK _ _ ?_
            clear hK K
            refine wpAny_take (i := 10) (v := .slice aBK QK cBK) rfl (by kernel_rfl) (by kernel_rfl) (by kernel_rfl) (fun _ _ _ h => h) (Or.inl ⟨by kernel_rfl, fun w => ?_⟩) ?_
            · go_simp
            go_simp
            refine wpAny_done (by kernel_rfl) ?_ _
            have zK := HEBK.out.size
            have HKF := hideIt HNI.out.keys
            have HKS6 : Hid (StrsAt wBK.heap.size wBK (.slice aBK QK cBK) (keys.eraseIdx k)) := strs_erased HBK.out HJ.out (by rw [HKN.out]; exact hkKN) (by rw [HKN.out]; exact HQK.out) ⟨HKF.out.1, HKF.out.2.1⟩
            have HRW6 : Hid (RowsAt wBK.heap.size wBK (.slice aBR QR cBR) QR (fun i => layT f (kidT kids (if i < k then i else i + 1)) 0)) := rows_wideW (HRWS.out.below HEBK.out) zK
            have HMK : Hid (makeNs kind (keys.eraseIdx k) (fun i => layT f (kidT kids (if i < k then i else i + 1)) 0) QR = layT (f + 1) (takeKid k (.mk kind n s keys kids)) 0) := by
              have hel : (kids.eraseIdx k).length = QR := by have := HQR.out; have := HJ.out; rw [List.length_eraseIdx, if_pos (show k < kids.length from hkl), HKM.out]; omega
              rw [Hid, takeKid, hn0, hs0, lay_make, hel]
              have e1 : (fun i => layT f (kidT (kids.eraseIdx k) i) 0) = fun i => layT f (kidT kids (if i < k then i else i + 1)) 0 := by funext i; rw [kid_erase]
              rw [e1]
            have HOKQ : Hid (∀ i, i < QR → okB (layT f (kidT kids (if i < k then i else i + 1)) 0) = true) := fun i hi => HOKP.out _ (by have := HQR.out; have := HJ.out; have := HKM.out; split <;> omega)
            have HLE : Hid ((makeNs kind (keys.eraseIdx k) (fun i => layT f (kidT kids (if i < k then i else i + 1)) 0) QR).length ≤ 80) := by
              rw [Hid, HMK.out]
              have h1 := (take_nomore HG.out hkl).1
              rw [HVS.out, HMM.out] at h1
              omega
            have HCAT : Hid ((catNs (fun i => layT f (kidT kids (if i < k then i else i + 1)) 0) QR).length + 1 ≤ 100000) := by have := HLE.out; rw [make_len] at this; rw [Hid]; omega
            have HLM := hideIt (l1Make_any wBK.heap.size kind _ _ (keys.eraseIdx k) QR (fun i => layT f (kidT kids (if i < k then i else i + 1)) 0) wBK HKS6.out HRW6.out (Nat.le_refl _) (by have := HQR.out; omega) (by have : (keys.eraseIdx k).length ≤ keys.length := List.length_eraseIdx_le _ _; rw [HKN.out] at this; omega) HCAT.out (near_of HOKQ.out))
            rw [HMK.out] at HLM
            have b0y := HY0.out wBK (HEBR.out.trans (HEBK.out.mono zR))
            clear hst hkl h6 hn0 hs0 hkk
            go_wp2_with fail
            refine HLM.out.mono ?_
            rintro e w7 ⟨r7, KV7, IV7, rfl, hn7, hb7⟩
            have HN7 := hideIt (hn7.low (show w.heap.size ≤ wBK.heap.size by omega))
            have HB7 := hideIt (((HB4.out.trans (HEBR.out.mono (by omega))).trans (HEBK.out.mono (by omega))).trans (hb7.mono (by omega)))
            obtain ⟨a7, c7, e7⟩ := own_slice hn7.row
            obtain ⟨M7, hM7⟩ : ∃ M7, (layT (f + 1) (takeKid k (.mk kind n s keys kids)) 0).length = M7 := ⟨_, rfl⟩
            rw [hM7] at e7
            subst e7
            clear hn7 hb7 hM7
            go_wp2_with fail
            go_ret2
            exact ⟨_, KV7, IV7, by rw [HUN.out]; rfl, by rw [HUN.out]; exact HN7.out, HB7.out⟩
        · have hl2 : ((N : Int) == 1) = false := by simp; omega
          have HL1 := hideIt hl1
          have hN2 : 2 ≤ N := by omega
          obtain ⟨A5, hA5⟩ : ∃ A : Addr, (if cu = 1 then some (⟨bu, ou, none⟩ : Addr) else some ⟨bu, ou + 3, none⟩) = some A := by split <;> exact ⟨_, rfl⟩
          obtain ⟨aX, cX, eX⟩ := own_slice (HRW.out.nest k hkM).row
          obtain ⟨NX, hNX⟩ : ∃ NX, (PL vs k).length = NX := ⟨_, rfl⟩
          rw [hNX] at eX
          have lx : w4.cell? ⟨gL, k, none⟩ = some (.slice aX NX cX) := by rw [below_cell (H23.out.trans (H34.out.mono z3)) (by omega), (HLc.out k hkM).1, eX]
          have HB4D : Hid (Below w4.heap.size w4 w4.drew) := (Below.refl _ _).drew
          have HPSN : Hid (ps.length = N - 1) := by have := HNN.out; rw [Hid]; omega
          obtain ⟨RK, hRK⟩ : ∃ RK, updT takeG ps (kidT kids k) = RK := ⟨_, rfl⟩
          have HIH : Hid (Calls Try.prog 44 #[.slice aX NX cX, .slice (some A5) (N - 1) (cu - 1), .slice none 0 0, .bool true] w4.drew fun e w' => ∃ r KV IV, e = .returned (.tuple #[r, .bool RK.isSome]) ∧ Nest w4.drew.heap.size w' r (upN f RK) KV IV ∧ Below w4.drew.heap.size w4.drew w') := by
            have hcu1 : ¬ cu = 1 := by omega
            have hsu : StepsAt w4.drew.heap.size w4.drew (.slice (some A5) ps.length (cu - 1)) ps := by
              have h1 : StepsAt w4.drew.heap.size w4.drew (.slice (some ⟨bu, ou, none⟩) N cu) (x :: ps) := (HU2.out.below ((HB4.out.trans (HB4D.out.mono (by omega))).mono hB)).wide (by have := HB4D.out.size; omega)
              refine steps_tail h1 HNN.out (fun _ => ?_)
              rw [if_neg hcu1, Option.some.injEq] at hA5
              exact hA5.symm
            have h := ih f (kidT kids k) w4.drew.heap.size (rs k) (some A5) (cu - 1) w4.drew (fun e => by have := HPSN.out; rw [e] at this; simp at this; omega) (good_kid HG.out hkl) (HOKP.out k hkl) (HNDS.out w4.drew HB4D.out k hkM) hsu (by rw [HPSN.out]; omega) (fun z hz => h0 z (by simp [hz])) (by rw [HPSN.out]; omega) (Nat.le_refl _)
            rw [hRK, HPSN.out, eX] at h
            exact h
          have HNone : Hid (RK = none → RR = none) := fun e => by
            rw [← HRR.out]
            cases hps : ps with
            | nil => have := HPSN.out; rw [hps] at this; simp at this; omega
            | cons y qs => rw [updT, hst]; dsimp only; rw [← hps]; show (match updT takeG ps (kidT kids k) with | none => none | some u => _) = _; rw [hRK, e]
          have HSome : Hid (∀ u, RK = some u → RR = some (putKid k u (.mk kind n s keys kids)) ∧ NoMore f u (kidT kids k)) := fun u e => by
            refine ⟨?_, taken_nomore ps f (kidT kids k) u (good_kid HG.out hkl) (fun z hz => h0 z (by simp [hz])) (by rw [hRK, e])⟩
            rw [← HRR.out]
            cases hps : ps with
            | nil => have := HPSN.out; rw [hps] at this; simp at this; omega
            | cons y qs => rw [updT, hst]; dsimp only; rw [← hps]; show (match updT takeG ps (kidT kids k) with | none => none | some u => _) = _; rw [hRK, e]
          have HST := hideIt hst
          have HKLT := hideIt hkl
          clear hl1 hRK hNX hst hkl
          go_wp2_with fail
          refine wp_region_any (by kernel_rfl) ?_
          change wpAny _ _ _ _ _ _ _ (World.drew _)
          refine wpAny_take (i := 0) (v := .slice (some ⟨gL, 0, none⟩) KM cL) rfl (by kernel_rfl) (by kernel_rfl) (by kernel_rfl) (fun _ _ _ h => h) (Or.inl ⟨by kernel_rfl, fun w => ?_⟩) ?_
          · go_simp
          refine wpAny_take (i := 1) (v := .int .i64 (k : Int)) rfl (by kernel_rfl) (by kernel_rfl) (by kernel_rfl) (fun _ _ _ h => h) (Or.inl ⟨by kernel_rfl, fun w => ?_⟩) ?_
          · go_simp
          refine wpAny_take (i := 2) (v := .pointer (some ⟨gL, k, none⟩)) rfl (by kernel_rfl) (by kernel_rfl) (by kernel_rfl) (fun _ _ _ h => h) (Or.inl ⟨by kernel_rfl, fun w => ?_⟩) ?_
          · go_simp
          refine wpAny_take (i := 4) (v := .slice (some ⟨bu, ou, none⟩) N cu) rfl (by kernel_rfl) (by kernel_rfl) (by kernel_rfl) (fun _ _ _ h => h) (Or.inl ⟨by kernel_rfl, fun w => ?_⟩) ?_
          · go_simp
          refine wpAny_take (i := 5) (v := .slice (some A5) (N - 1) (cu - 1)) rfl (by kernel_rfl) (by kernel_rfl) (by kernel_rfl) (fun _ _ _ h => h) (Or.inl ⟨by kernel_rfl, fun w => ?_⟩) ?_
          · go_simp <;> (intro hh; omega)
          refine wpAny_take (i := 6) (v := .slice none 0 0) rfl (by kernel_rfl) (by kernel_rfl) (by kernel_rfl) (fun _ _ _ h => h) (Or.inl ⟨by kernel_rfl, fun w => ?_⟩) ?_
          · go_simp
          refine wpAny_take (i := 7) (v := .bool true) rfl (by kernel_rfl) (by kernel_rfl) (by kernel_rfl) (fun _ _ _ h => h) (Or.inl ⟨by kernel_rfl, fun w => ?_⟩) ?_
          · go_simp
          go_simp
          refine wpAny_ready (rs := [3]) (by kernel_rfl) (by simp) ?_
          refine AllReady.cons rfl (fun K hK => ?_) AllReady.nil
          go_simp
          refine hK _ _ ?_
          clear hK K
          refine wpAny_ready (rs := [8]) (by kernel_rfl) (by simp) ?_
          refine AllReady.cons rfl (fun K hK => ?_) AllReady.nil
          refine step_call4 (by kernel_rfl) 44 (.tmp 83) (.tmp 85) (.tmp 86) (.tmp 87) 24 25 24 4 (by kernel_rfl) (.slice aX NX cX) (.slice (some A5) (N - 1) (cu - 1)) (.slice none 0 0) (.bool true) (by kernel_rfl) (by kernel_rfl) (by kernel_rfl) (by kernel_rfl) (call_with6 _ _ _ _) HIH.out ?_
          rintro e w5 ⟨r5, KV5, IV5, rfl, hn5, hb5⟩
          have HN5 := hideIt hn5
          have H45 : Hid (Below w4.heap.size w4 w5) := HB4D.out.trans (hb5.mono HB4D.out.size)
          have HB5 := hideIt (HB4.out.trans (H45.out.mono (by omega)))
          have z5 := H45.out.size
          obtain ⟨a5, c5, e5⟩ := own_slice hn5.row
          obtain ⟨n5, hn5l⟩ : ∃ n5, (upN f RK).length = n5 := ⟨_, rfl⟩
          rw [hn5l] at e5
          subst e5
          obtain ⟨FS, hFS⟩ : ∃ FS, RK.isSome = FS := ⟨_, rfl⟩
          rw [hFS]
          refine ⟨_, rfl, ?_⟩
          refine hK _ _ ?_
          clear hK K hn5 hb5 hn5l
          refine wpAny_take (i := 9) (v := .tuple #[.slice a5 n5 c5, .bool FS]) rfl (by kernel_rfl) (by kernel_rfl) (by kernel_rfl) (fun _ _ _ h => h) (Or.inl ⟨by kernel_rfl, fun w => ?_⟩) ?_
          · go_simp
          refine wpAny_take (i := 10) (v := .slice a5 n5 c5) rfl (by kernel_rfl) (by kernel_rfl) (by kernel_rfl) (fun _ _ _ h => h) (Or.inl ⟨by kernel_rfl, fun w => ?_⟩) ?_
          · go_simp
          refine wpAny_take (i := 11) (v := .bool FS) rfl (by kernel_rfl) (by kernel_rfl) (by kernel_rfl) (fun _ _ _ h => h) (Or.inl ⟨by kernel_rfl, fun w => ?_⟩) ?_
          · go_simp
          refine wpAny_take (i := 12) (v := .slice a5 n5 c5) rfl (by kernel_rfl) (by kernel_rfl) (by kernel_rfl) (fun _ _ _ h => h) (Or.inl ⟨by kernel_rfl, fun w => ?_⟩) ?_
          · go_simp
          refine wpAny_take (i := 13) (v := .bool FS) rfl (by kernel_rfl) (by kernel_rfl) (by kernel_rfl) (fun _ _ _ h => h) (Or.inl ⟨by kernel_rfl, fun w => ?_⟩) ?_
          · go_simp
          go_simp
          refine wpAny_done (by kernel_rfl) ?_ _
          cases hRKc : RK with
          | none =>
            have hFS0 : FS = false := by rw [← hFS, hRKc]; rfl
            have HUN := hideIt (HNone.out hRKc)
            subst hFS0
            clear hFS hRKc
            go_wp2_with fail
            go_ret2
            exact ⟨_, fun _ => undef, fun _ => undef, by rw [HUN.out]; rfl, by rw [HUN.out]; exact Nest.nil _ _ _ _, HB5.out⟩
          | some u =>
            have hFS0 : FS = true := by rw [← hFS, hRKc]; rfl
            have HUN := hideIt (HSome.out u hRKc)
            have HN5u : Hid (Nest w4.heap.size w5 (.slice a5 n5 c5) (layT f u 0) KV5 IV5) := by have := HN5.out; rw [hRKc] at this; exact this
            subst hFS0
            have HUG := hideIt HUN.out.2
            have HOKU : Hid (okB (layT f u 0) = true) := by
              have h1 := HUG.out
              have h2 := (ok_lay (good_kid HG.out HKLT.out).full).1 (HOKP.out k HKLT.out)
              have h3 := h1.1
              have h4 := h1.2.1
              have h5 := h2.1
              have h6 := h2.2.2
              have e1 : kidT (kidsT (.mk kind n s keys kids)) k = kidT kids k := rfl
              rw [e1] at h5 h6
              exact (ok_lay h1.2.2.full).2 ⟨by omega, h1.2.2, by omega⟩
            have HRW5 : Hid (w5.ownsRow (w.alloc (.cells #[.int .i64 kind, .int .i64 n, .string s, .slice aK KN cK, .slice aI KM cI] 78)).heap.size 24 1 (.slice (some ⟨gL, 0, none⟩) KM cL) KM ((List.range KM).map rs)) := own_below HRW.out.row (H23.out.trans ((H34.out.trans (H45.out.mono z4)).mono z3)) (fun q hq => (HRW.out.row.lt q hq).2)
            have hfull5 := own_full HRW5.out
            have l5 := (hfull5.1 k hkM).1
            have f5 := (hfull5.1 k hkM).2
            have HNS5 : Hid (∀ i, i < KM → Nest (loR i) w5 (rs i) (layT f (kidT kids i) 0) (KV i) (IV i)) := fun i hi => by
              have h1 := (HRW.out.nest i hi).below (H23.out.trans ((H34.out.trans (H45.out.mono z4)).mono z3))
              rw [HPL.out i (by rw [HKM.out]; exact hi)] at h1
              exact h1
            obtain ⟨W6, hW6⟩ : ∃ W6, w5.setCell ⟨gL, k, none⟩ (.slice a5 n5 c5) = W6 := ⟨_, rfl⟩
            have HRW6 : Hid (RowsAt W6.heap.size W6 (.slice (some ⟨gL, 0, none⟩) KM cL) KM (fun i => if i = k then layT f u 0 else layT f (kidT kids i) 0)) := by
              rw [Hid, ← hW6]
              exact rows_set HRW5.out hKM80 hkM HNS5.out (fun i hi => HFI.out i (by rw [HKM.out]; exact hi)) HN5u.out (ok_fits HOKU.out)
            have HST6 : Hid (∀ c, c ≠ gL → W6.heap[c]? = w5.heap[c]?) := fun c hc => by rw [← hW6]; exact Below.heap_setCell w5 _ _ c hc
            have HZ6 : Hid (W6.heap.size = w5.heap.size) := by rw [Hid, ← hW6]; simp
            have hgw : gL ≠ w.heap.size := by
              have := HRWLO.out gL (.inr trivial) rfl
              omega
            have b6 : W6.cell? ⟨w.heap.size, 0, none⟩ = some (.int .i64 kind) := by rw [cellR (HST6.out _ (fun e => hgw e.symm))]; exact HY0.out w5 H45.out
            have HB6 : Hid (Below w.heap.size w W6) := by
              have h5 := HB5.out
              have hlo := HRWLO.out gL (.inr trivial) rfl
              refine ⟨?_, ?_, ?_, by rw [HZ6.out]; exact h5.size, fun c hc => (HST6.out c (by omega)).trans (h5.block c hc)⟩
              · rw [← hW6]; exact h5.os
              · rw [← hW6]; exact h5.tape
              · rw [← hW6]; exact h5.output
            have HKS6 : Hid (StrsAt W6.heap.size W6 (.slice aV KN cV) keys) := by
              have h1 := HK3.out
              rw [← HKN.out] at h1
              have h2 := own_strs h1 HNI.out.keys.1 HNI.out.keys.2.1
              rw [HKN.out] at h2
              have h3 := (h2.below (w' := w5) (H34.out.trans (H45.out.mono z4))).wide (B' := W6.heap.size) (by have := HZ6.out; omega)
              obtain ⟨q1, q2, ak, ck, eq, q3⟩ := h3
              refine ⟨q1, q2, ak, ck, eq, fun hp => ?_⟩
              obtain ⟨bb, oo, rfl, hbb, hcc⟩ := q3 hp
              refine ⟨bb, oo, rfl, hbb, fun i hi => ?_⟩
              have hne : bb ≠ gL := by
                simp only [Value.slice.injEq] at eq
                rintro rfl
                rcases own_apart HK3.out (own_below HRW.out.row H23.out (fun q hq => (HRW.out.row.lt q hq).2)) (by decide) with e | e
                · rw [eq.1] at e; cases e
                · exact e (by rw [eq.1]; rfl)
              rw [cellR (HST6.out bb hne)]
              exact hcc i hi
            have HMK : Hid (makeNs kind keys (fun i => if i = k then layT f u 0 else layT f (kidT kids i) 0) KM = layT (f + 1) (putKid k u (.mk kind n s keys kids)) 0) := by
              have hel : (kids.set k u).length = KM := by rw [List.length_set]; exact HKM.out
              obtain ⟨hn0, hs0⟩ : n = 0 ∧ s = ByteArray.empty := by
                rcases step_kinds HG.out HST.out with ⟨_, q1, q2, _⟩ | ⟨_, q1, q2, _⟩
                · exact ⟨q1, q2⟩
                · exact ⟨q1, q2⟩
              rw [Hid, putKid, hn0, hs0, lay_make, hel]
              have e1 : (fun i => layT f (kidT (kids.set k u) i) 0) = fun i => if i = k then layT f u 0 else layT f (kidT kids i) 0 := by funext i; rw [kid_set (show k < kids.length from HKLT.out)]; split <;> rfl
              rw [e1]
            have HOKQ : Hid (∀ i, i < KM → okB (if i = k then layT f u 0 else layT f (kidT kids i) 0) = true) := fun i hi => by
              split
              · exact HOKU.out
              · exact HOKP.out i (by rw [HKM.out]; exact hi)
            have HCAT : Hid ((catNs (fun i => if i = k then layT f u 0 else layT f (kidT kids i) 0) KM).length + 1 ≤ 100000) := by
              have h1 := (put_nomore HG.out HKLT.out HUG.out).1
              rw [← HMK.out, HVS.out, HMM.out, make_len] at h1
              rw [Hid]
              omega
            have HLM := hideIt (l1Make_any W6.heap.size kind _ _ keys KM (fun i => if i = k then layT f u 0 else layT f (kidT kids i) 0) W6 HKS6.out HRW6.out (Nat.le_refl _) (by omega) (by rw [HKN.out]; omega) HCAT.out (near_of HOKQ.out))
            rw [HMK.out] at HLM
            have z6 := HZ6.out
            have HZZ := hideIt z6
            have z6l : w.heap.size ≤ W6.heap.size := HB6.out.size
            clear hFS hRKc hfull5 z6
            go_wp2_with fail
            refine HLM.out.mono ?_
            rintro e w7 ⟨r7, KV7, IV7, rfl, hn7, hb7⟩
            have HN7 := hideIt (hn7.low z6l)
            have HB7 := hideIt (HB6.out.trans (hb7.mono z6l))
            obtain ⟨a7, c7, e7⟩ := own_slice hn7.row
            obtain ⟨M7, hM7⟩ : ∃ M7, (layT (f + 1) (putKid k u (.mk kind n s keys kids)) 0).length = M7 := ⟨_, rfl⟩
            rw [hM7] at e7
            subst e7
            clear hn7 hb7 hM7
            go_wp2_with fail
            go_ret2
            exact ⟨_, KV7, IV7, by rw [HUN.out.1]; rfl, by rw [HUN.out.1]; exact HN7.out, HB7.out⟩
end Go.Proofs.Ytpakfgonemiebaa
