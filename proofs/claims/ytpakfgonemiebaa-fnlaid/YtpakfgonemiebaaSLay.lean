/-
  The specification's l6With: a part laid.
-/
import Derived.Test.YtpakfgonemiebaaSWh
import Derived.Test.YtpakfgonemiebaaUCel
import Derived.Test.YtpakfgonemiebaaILay
namespace Go.Proofs.Ytpakfgonemiebaa
open Go.RowKit
set_option linter.unusedSimpArgs false
set_option linter.unusedVariables false

theorem ins_cases {f : Nat} {kind n : Int} {s : ByteArray} {keys : List ByteArray} {kids : List VT} {u v : VT} {x : PS} (hg : goodT (f + 1) (.mk kind n s keys kids)) (hs : stepT (.mk kind n s keys kids) x = none) (hi : insT u x (.mk kind n s keys kids) = some v) :
    (x.named = false ∧ kind = 5 ∧ n = 0 ∧ s = ByteArray.empty ∧ keys = [] ∧ x.pl = (kids.length : Int) ∧ v = .mk kind n s keys (kids.insertIdx kids.length u)) ∨
    (x.named = true ∧ kind = 6 ∧ n = 0 ∧ s = ByteArray.empty ∧ keys.length = kids.length ∧ hasK keys x.key = false ∧ Rise keys ∧ v = .mk kind n s (keys.insertIdx (posK keys x.key) x.key) (kids.insertIdx (posK keys x.key) u)) := by
  have hs' : stepTo kind keys kids.length x = none := hs
  unfold stepTo at hs'
  unfold insT at hi
  cases hn : x.named
  · rw [hn] at hs' hi
    simp only [Bool.false_eq_true, if_false] at hs' hi
    split at hi
    · rename_i h5
      simp only [Option.some.injEq] at hi
      rcases nodeT_says hg.1 with ⟨e2, _⟩ | ⟨e2, _⟩ | ⟨e2, _⟩ | ⟨e2, _⟩ | ⟨_, a1, a2, a3⟩ | ⟨e2, _⟩
      · have := h5.1; omega
      · have := h5.1; omega
      · have := h5.1; omega
      · have := h5.1; omega
      · exact .inl ⟨rfl, h5.1, a1, a2, a3, h5.2, hi.symm⟩
      · have := h5.1; omega
    · cases hi
  · rw [hn] at hs' hi
    simp only [if_true] at hs' hi
    split at hi
    · rename_i h6
      simp only [Option.some.injEq] at hi
      have hno : hasK keys x.key = false := by
        cases e : hasK keys x.key
        · rfl
        · rw [if_pos ⟨h6, e⟩] at hs'; cases hs'
      rcases nodeT_says hg.1 with ⟨e2, _⟩ | ⟨e2, _⟩ | ⟨e2, _⟩ | ⟨e2, _⟩ | ⟨e2, _⟩ | ⟨_, a1, a2, hm, hr⟩
      · omega
      · omega
      · omega
      · omega
      · omega
      · exact .inr ⟨rfl, h6, a1, a2, hm, hno, riseB_rise hr, hi.symm⟩
    · cases hi
theorem rows_of {base : Nat} {w : World} {v : Value} {m : Nat} {xs : List Value} {L : Nat → List VN} (hrow : w.ownsRow base 24 1 v m xs) (hm : m ≤ 1048576) (h : ∀ i, i < m → ∃ r, xs[i]? = some r ∧ NodesAt w.heap.size w r (L i)) : RowsAt w.heap.size w v m L := by
  obtain ⟨a, c, e⟩ := own_slice hrow
  subst e
  refine ⟨hm, a, c, rfl, fun hp => ?_⟩
  obtain ⟨g, cap, e2, _, hg⟩ := hrow.form hp
  simp only [Value.slice.injEq] at e2
  obtain ⟨rfl, _, rfl⟩ := e2
  refine ⟨g, rfl, hg, fun i hi => ?_⟩
  obtain ⟨r, h1, h2⟩ := h i hi
  exact ⟨r, by rw [hrow.cellAt i (by omega)]; exact h1, h2⟩
theorem nest_grown {base b n : Nat} {w w' : World} {v lv : Value} {vs : List VN} {KV IV : Nat → Value} {xs : List Value} (h : Nest base w v vs KV IV) (hr : w.ownsRow b 24 1 lv n xs) (hg : w.grownBy w' lv.ownBlock) : Nest base w' v vs KV IV :=
  h.kept hg (own_apart h.row hr (by decide)) (fun i hi => own_apart (h.rk i hi) hr (by decide)) (fun i hi => own_apart (h.ri i hi) hr (by decide))
/-- A row of rows with another one at k, whatever it is. -/
theorem rows_setN {b cap m k g : Nat} {w : World} {rs : Nat → Value} {L : Nat → List VN} {r : Value} {ns : List VN} {lo : Nat → Nat} {KV IV : Nat → Nat → Value} (hrow : w.ownsRow b 24 1 (.slice (some ⟨g, 0, none⟩) m cap) m ((List.range m).map rs)) (hm : m ≤ 80) (hk : k < m) (hn : ∀ i, i < m → Nest (lo i) w (rs i) (L i) (KV i) (IV i)) (hf : ∀ i, i < m → Few (L i) ∧ ∀ j, j < (L i).length → Fits (nodeAt (L i) j)) (hr : NodesAt (w.setCell ⟨g, k, none⟩ r).heap.size (w.setCell ⟨g, k, none⟩ r) r ns) :
    RowsAt (w.setCell ⟨g, k, none⟩ r).heap.size (w.setCell ⟨g, k, none⟩ r) (.slice (some ⟨g, 0, none⟩) m cap) m (fun i => if i = k then ns else L i) := by
  obtain ⟨hc, _, _, _, hg⟩ := own_full hrow
  refine ⟨by omega, _, _, rfl, fun _ => ⟨g, rfl, by simpa using hg, fun i hi => ?_⟩⟩
  by_cases e : i = k
  · subst e
    refine ⟨r, World.cell?_setCell_same _ _ _ (hc i hi).1, ?_⟩
    show NodesAt _ _ r (if i = i then ns else L i)
    rw [if_pos rfl]
    exact hr
  · refine ⟨rs i, by rw [World.cell?_setCell_other (h := fun h => by simp only [Addr.mk.injEq] at h; omega)]; exact (hc i hi).1, ?_⟩
    show NodesAt _ _ (rs i) (if i = k then ns else L i)
    rw [if_neg e]
    exact (nest_set (hn i hi) hrow).nodes (Nat.le_trans (hf i hi).1.1 (by omega)) (hf i hi).2
theorem make_laid {f : Nat} {kind : Int} {keys : List ByteArray} {kids : List VT} {W : World} {kv lv : Value} {m : Nat} (hg : goodT (f + 1) (.mk kind 0 ByteArray.empty keys kids)) (hl : (layT (f + 1) (.mk kind 0 ByteArray.empty keys kids) 0).length ≤ 160) (hks : StrsAt W.heap.size W kv keys) (hm : kids.length = m) (hr : RowsAt W.heap.size W lv m (fun i => layT f (kidT kids i) 0)) :
    Calls Try.prog 75 #[.int .i64 kind, kv, lv] W fun e w' => ∃ r KV IV, e = .returned r ∧ Nest W.heap.size w' r (layT (f + 1) (.mk kind 0 ByteArray.empty keys kids) 0) KV IV ∧ Below W.heap.size W w' := by
  subst hm
  obtain ⟨n1, n2⟩ := near_kids hg (by omega)
  have hk := good_keys hg
  have hmk := lay_make f kind keys kids
  rw [hmk]
  refine l1Make_any W.heap.size kind kv lv keys kids.length (fun i => layT f (kidT kids i) 0) W hks hr (Nat.le_refl _) (by omega) (by omega) ?_ (fun i hi => (n2 i hi).2)
  rw [hmk, make_len] at hl
  omega

set_option maxRecDepth 100000 in
set_option maxHeartbeats 800000 in
theorem l6With_nil (v z b : Value) (a : Option Addr) (c : Nat) (az : Option Addr) (NZ cz : Nat) (hz : z = .slice az NZ cz) (w : World) : Calls Try.prog 44 #[v, .slice a 0 c, z, b] w fun e w' => e = .returned (.tuple #[z, .bool true]) ∧ w' = w := by
  subst hz
  go_enter Try.func44, Try.ntmps44
  go_wp2_with fail
  go_ret2
  exact ⟨rfl, rfl⟩

set_option maxRecDepth 100000 in
set_option maxHeartbeats 6400000 in
theorem l6With_lay (tu : VT) (g : Nat) (wz : List VN) (hgu : goodT g tu) (hwz : layT g tu 0 = wz) (hokz : okB wz = true) : ∀ (ps : List PS) (f : Nat) (t : VT) (B : Nat) (v z : Value) (au : Option Addr) (cu : Nat) (w : World), ps ≠ [] → goodT f t → okB (layT f t 0) = true → NodesAt B w v (layT f t 0) → NodesAt B w z wz → StepsAt B w (.slice au ps.length cu) ps → ps.length ≤ cu → (∀ x ∈ ps, stepB x = true) → ps.length ≤ 10 → g + ps.length ≤ f → B ≤ w.heap.size →
    Calls Try.prog 44 #[v, .slice au ps.length cu, z, .bool false] w fun e w' => ∃ r KV IV, e = .returned (.tuple #[r, .bool (updT (layG tu) ps t).isSome]) ∧ Nest w.heap.size w' r (upN f (updT (layG tu) ps t)) KV IV ∧ Below w.heap.size w w' := by
  intro ps
  induction ps with
  | nil => intro f t B v z au cu w h; exact absurd rfl h
  | cons x ps ih =>
    intro f t B v z au cu w _ hg hok h hz hu hcap hsb h10 hfu hB
    have h0 : ∀ y ∈ (x :: ps), y.named = true ∨ 0 ≤ y.pl := fun y hy => stepB_from (hsb y hy)
    have HSB := hideIt hsb
    have HZ := hideIt hz
    obtain ⟨_, az, cz, rfl, _⟩ := hz
    obtain ⟨NZ, hNZ⟩ : ∃ NZ, wz.length = NZ := ⟨_, rfl⟩
    have HZN : Hid (NodesAt B w (.slice az NZ cz) wz) := by rw [Hid, ← hNZ]; exact HZ.out
    have hfu' : g + (ps.length + 1) ≤ f := by simpa using hfu
    have HFU := hideIt hfu'
    rw [hNZ]
    clear hsb hNZ hfu hfu' HZ
    cases f with
    | zero => exact hg.elim
    | succ f =>
    obtain ⟨kind, n, s, keys, kids⟩ := t
    obtain ⟨N, hN⟩ : ∃ N, (x :: ps).length = N := ⟨_, rfl⟩
    have hN1 : N = ps.length + 1 := by rw [← hN]; rfl
    have HV := hideIt h
    have HU := hideIt hu
    have HG := hideIt hg
    have HOK := hideIt hok
    have hroot := lay_rootW f kind n s keys kids
    have hkl := lay_kidsW f kind n s keys kids
    have HPL := hideIt (fun j hj => lay_PL (j := j) hg.full hok hj)
    have HOKP : Hid (∀ i, i < kids.length → okB (layT f (kidT kids i) 0) = true) := fun i hi => by
      rw [← lay_PL hg.full hok hi]
      obtain ⟨q, hq, hql⟩ := root_kid hok (k := i) (by rw [lay_kidsW]; exact hi)
      have e : PL (layT (f + 1) (.mk kind n s keys kids) 0) i = partOf (layT (f + 1) (.mk kind n s keys kids) 0) q := by unfold PL; rw [hq]; rfl
      rw [e]
      exact part_okB hok (by omega)
    have HPA := hideIt (fun (w' : World) (hb : Below w.heap.size w w') => l1Parts_any B v (layT (f + 1) (.mk kind n s keys kids) 0) w' (h.below (hb.mono hB)) (Nat.le_trans hB hb.size) hok)
    obtain ⟨p1, _⟩ := okB_parts hok
    obtain ⟨vs, hvs⟩ : ∃ vs, layT (f + 1) (.mk kind n s keys kids) 0 = vs := ⟨_, rfl⟩
    rw [hvs] at p1 hroot hkl HPA HV HOK HPL h
    obtain ⟨hlen, av, cap, rfl, hcell⟩ := h
    obtain ⟨b0, o0, rfl, hb0, hc⟩ := hcell (by omega)
    obtain ⟨ka, ki, hn1⟩ := hc (vs.length - 1) (by omega)
    rw [hroot] at hn1
    have HN1 := hideIt hn1
    obtain ⟨hul, hfits, au', cu', eu, hsteps⟩ := hu
    simp only [Value.slice.injEq] at eu
    obtain ⟨rfl, _, rfl⟩ := eu
    obtain ⟨bu, ou, rfl, hbu, hcu⟩ := hsteps (by simp)
    obtain ⟨s0, s1, s2⟩ := hcu 0 (by simp)
    have hx0 : stepAt (x :: ps) 0 = x := rfl
    rw [hx0] at s0 s1 s2
    simp only [Nat.zero_mul, Nat.add_zero] at s0 s1 s2
    have hfx := hfits 0 (by simp)
    rw [hx0] at hfx
    rw [hN] at hcap h10 ⊢
    obtain ⟨M, hM⟩ : ∃ M, vs.length = M := ⟨_, rfl⟩
    rw [hM] at hn1 hlen p1 HPA ⊢
    obtain ⟨hkk1, hkk2, aK, cK, eK, hkk3⟩ := hn1.inn.keys
    obtain ⟨hii1, hii2, aI, cI, eI, hii3⟩ := hn1.inn.kids
    dsimp only at hkk1 hkk2 eK hkk3 hii1 hii2 eI hii3
    rw [ksT_lenW f 0 kids _ (Nat.le_refl _)] at eI hii1
    obtain ⟨KN, hKN⟩ : ∃ KN, keys.length = KN := ⟨_, rfl⟩
    obtain ⟨KM, hKM⟩ : ∃ KM, kids.length = KM := ⟨_, rfl⟩
    rw [hKN] at eK
    rw [hKM] at eI
    subst eK eI
    have c0 := hn1.c0
    have c1 := hn1.c1
    have c2 := hn1.c2
    have c3 := hn1.c3
    have c4 := hn1.c4
    dsimp only at c0 c1 c2 c3 c4
    have p0 : ((M : Int) - 1).toNat = M - 1 := by omega
    have hN0 : ¬ (N : Int) = 0 := by omega
    have hN0' : ((N : Int) == 0) = false := by simp; omega
    have HNI := hideIt hn1.inn
    have HNN := hideIt hN1
    have HN2 := hideIt hN
    have HKN := hideIt hKN
    have HKM := hideIt hKM
    have HKC : Hid (0 < KN → ∃ b o, aK = some ⟨b, o, none⟩ ∧ b < B ∧ ∀ i, i < KN → w.cell? ⟨b, o + i, none⟩ = some (.string (keyAt keys i))) := by rw [Hid, ← hKN]; exact hkk3
    have HMM := hideIt hM
    have HKL := hideIt (hkl.trans hKM)
    have HVS := hideIt hvs
    have hM80 : M ≤ 80 := by omega
    clear hc hcell hsteps hcu hg hok hroot hN1 hN hKN hKM hM hvs hkk3 hii3 hn1 hkk1 hkk2 hii1 hii2 hx0 hkl HV hfits hul
    obtain ⟨RR, hRR⟩ : ∃ RR, updT (layG tu) (x :: ps) (.mk kind n s keys kids) = RR := ⟨_, rfl⟩
    rw [hRR]
    have HRR := hideIt hRR
    clear hRR
    have HU2 : Hid (StepsAt B w (.slice (some ⟨bu, ou, none⟩) N cu) (x :: ps)) := by rw [Hid, ← HN2.out]; exact HU.out
    have HW1 : Hid (Below w.heap.size w (w.alloc (.cells #[.int .i64 kind, .int .i64 n, .string s, .slice aK KN cK, .slice aI KM cI] 78))) := (Below.refl _ _).alloc (Nat.le_refl _) _
    go_enter Try.func44, Try.ntmps44
    go_wp2_with fail
    refine (HPA.out _ HW1.out).mono ?_
    rintro e w2 ⟨rL, rs, KV, IV, loR, rfl, hrows, hb2⟩
    have HRW := hideIt hrows
    have H12 := hideIt hb2
    have HB2 : Hid (Below w.heap.size w w2) := HW1.out.trans (hb2.mono (by simp))
    have z2 : w.heap.size + 1 ≤ w2.heap.size := by simpa using hb2.size
    have x0 : w2.cell? ⟨w.heap.size, 0, none⟩ = some (.int .i64 kind) := (below_cell hb2 (by simp)).trans (by simp)
    have x1 : w2.cell? ⟨w.heap.size, 1, none⟩ = some (.int .i64 n) := (below_cell hb2 (by simp)).trans (by simp)
    have x2 : w2.cell? ⟨w.heap.size, 2, none⟩ = some (.string s) := (below_cell hb2 (by simp)).trans (by simp)
    have x3 : w2.cell? ⟨w.heap.size, 3, none⟩ = some (.slice aK KN cK) := (below_cell hb2 (by simp)).trans (by simp)
    have x4 : w2.cell? ⟨w.heap.size, 4, none⟩ = some (.slice aI KM cI) := (below_cell hb2 (by simp)).trans (by simp)
    rw [HKL.out] at hrows HRW
    obtain ⟨aL, cL, erL⟩ := own_slice hrows.row
    subst erL
    have HOWN : Hid ((w2.alloc (.cells #[] 9)).ownsRow w2.heap.size 9 1 (.slice (some ⟨w2.heap.size, 0, none⟩) 0 0) 0 []) := by
      have := World.ownsRow_lit (base := w2.heap.size) (e := 9) (size := 1) w2 #[] 0 (Nat.le_refl _) (by simp [maxLen]) rfl
      simpa [Hid] using this
    have HBA : Hid (Below w2.heap.size w2 (w2.alloc (.cells #[] 9))) := (Below.refl _ _).alloc (Nat.le_refl _) _
    have HSRC : Hid (0 < KN → ∃ ad, aK = some ad ∧ ∀ j u, (keys.map Value.string)[j]? = some u → (w2.alloc (.cells #[] 9)).cell? (ad.add j) = some u) := by
      intro hp
      obtain ⟨bk, ok, rfl, hbk, hck⟩ := HKC.out hp
      refine ⟨_, rfl, fun j u hj => ?_⟩
      have hj' : j < keys.length := by have := (List.getElem?_eq_some_iff.1 hj).1; simpa using this
      rw [show (⟨bk, ok, none⟩ : Addr).add j = ⟨bk, ok + j, none⟩ by simp [Addr.add], below_cell HBA.out (by omega), below_cell HB2.out (by omega), hck j (by rw [← HKN.out]; exact hj')]
      simp [hj', keyAt] at hj ⊢
      exact hj
    obtain ⟨i1, hi1, hz1, hs1, hy1⟩ := info_parts infoStr
    have HFW : Hid (KN ≤ 80 ∧ KM ≤ 80) := by
      have h2 := (ok_fits (by rw [HVS.out]; exact HOK.out : okB (layT (f + 1) (.mk kind n s keys kids) 0) = true)).1.2 (M - 1) (by rw [HVS.out, HMM.out]; omega)
      have h3 := lay_rootW f kind n s keys kids
      rw [HVS.out, HMM.out] at h3
      rw [HVS.out, h3] at h2
      have q1 := h2.1
      have q2 := h2.2
      dsimp only at q1 q2
      rw [HKN.out] at q1
      rw [ksT_lenW f 0 kids _ (Nat.le_refl _), HKM.out] at q2
      exact ⟨q1, q2⟩
    have hKN80 : KN ≤ 80 := HFW.out.1
    have x3' : (w2.alloc (.cells #[] 9)).cell? ⟨w.heap.size, 3, none⟩ = some (.slice aK KN cK) := (below_cell HBA.out (by omega)).trans x3
    clear hrows hb2 HPA c0 c1 c2 c3 c4
    go_wp2_with (at_builtin; refine wpList_append_src rfl _ _ 75 rfl w2.heap.size 9 i1 (.string ByteArray.empty) 1 16 Try.underlying75 hi1 hz1 hs1 hy1 rfl (by decide) _ 0 [] rfl HOWN.out aK KN cK (keys.map .string) rfl (by rw [List.length_map, HKN.out]; omega) HSRC.out ?c2 ?c3 ?c4 ?c5 ?_)
    case c2 => intro u hu; obtain ⟨q, _, rfl⟩ := List.mem_map.1 hu; rfl
    case c3 => unfold maxLen; omega
    case c4 => omega
    case c5 => simp
    intro vK w3 hk3 hg3 hat3
    (try simp only [Nat.zero_add, List.nil_append] at hk3)
    have hb3 : Below w2.heap.size w2 w3 := HBA.out.grown hg3 (by simp) (fun r hr => by simp [Value.ownBlock] at hr; omega)
    have HK3 := hideIt hk3
    have H23 := hideIt hb3
    have HB3 := hideIt (HB2.out.trans (hb3.mono (by omega)))
    have z3 := hb3.size
    have y0 := (below_cell hb3 (by omega)).trans x0
    have y1 := (below_cell hb3 (by omega)).trans x1
    have y2 := (below_cell hb3 (by omega)).trans x2
    have y3 := (below_cell hb3 (by omega)).trans x3
    have y4 := (below_cell hb3 (by omega)).trans x4
    have t0 := (below_cell HB3.out (by omega)).trans s0
    have t1 := (below_cell HB3.out (by omega)).trans s1
    have t2 := (below_cell HB3.out (by omega)).trans s2
    obtain ⟨aV, cV, eV⟩ := own_slice hk3
    subst eV
    clear hk3 hg3 hat3 hb3 x0 x1 x2 x3 x4 s0 s1 s2 HOWN HSRC HBA
    have hNp : (0 : Int) < (N : Int) := by omega
    have h0x := h0 x (by simp)
    have HLK : Hid (∀ W, Below w.heap.size w W → Calls Try.prog 88 #[.agg #[.int .i64 kind, .int .i64 n, .string s, .slice aK KN cK, .slice aI KM cI], .agg #[.bool x.named, .string x.key, .int .i64 x.pl]] W fun e w' => e = .returned (.int .i64 (kidR (stepT (.mk kind n s keys kids) x))) ∧ Below W.heap.size W w') := fun W hb => by
      have h1 := l6Kid_any B { kind := kind, n := n, s := s, keys := keys, kids := ksT f 0 kids kids.length } _ _ x W (HNI.out.below (hb.mono hB)) (Nat.le_trans hB hb.size) (fun e => ⟨(good6 HG.out e (by rw [HKN.out]; omega)).1, ?_⟩) h0x (by rw [ksT_lenW f 0 kids _ (Nat.le_refl _), HKM.out]; have := HFW.out.2; omega) hfx.2
      · have e2 : stepN { kind := kind, n := n, s := s, keys := keys, kids := ksT f 0 kids kids.length } x = stepT (.mk kind n s keys kids) x := by
          unfold stepN stepT
          rw [ksT_lenW f 0 kids _ (Nat.le_refl _)]
        rw [e2] at h1
        exact h1
      · show keys.length ≤ 80
        rw [HKN.out]; exact hKN80
    go_wp2_with fail
    have HRWLO : Hid (∀ q, aL = some ⟨q, 0, none⟩ ∨ True → (Value.slice aL KM cL).ownBlock = some q → w.heap.size + 1 ≤ q) := fun q _ hq => by have := (HRW.out.row.lt q hq).1; simpa using this
    have hKM80 : KM ≤ 80 := HFW.out.2
    have HBD : Hid (Below w3.heap.size w3 w3.drew) := (Below.refl _ _).drew
    have HFI : Hid (∀ i, i < kids.length → Few (layT f (kidT kids i) 0) ∧ ∀ j, j < (layT f (kidT kids i) 0).length → Fits (nodeAt (layT f (kidT kids i) 0) j)) := fun i hi => ok_fits (HOKP.out i hi)
    have HLEN : Hid (∀ v, RR = some v → goodT (f + 1) v ∧ (layT (f + 1) v 0).length ≤ 160) := fun v hv => by
      rw [← HRR.out] at hv
      have h1 : f + 1 - g + g = f + 1 := by have := HFU.out; omega
      have h2 := laid_good (x :: ps) (f + 1 - g) g _ tu v (by rw [h1]; exact HG.out) hgu (by have := HFU.out; simp only [List.length_cons]; omega) HSB.out hv
      have h3 := laid_len (x :: ps) (f + 1 - g) g (.mk kind n s keys kids) tu v hgu (by have := HFU.out; simp only [List.length_cons]; omega) hv
      rw [h1] at h2 h3
      have h4 := (okB_parts hokz).1
      rw [hwz, HVS.out, HMM.out] at h3
      exact ⟨h2, by omega⟩
    have HLENK : Hid (∀ k v, k < kids.length → updT (layG tu) ps (kidT kids k) = some v → goodT f v ∧ (layT f v 0).length ≤ 160) := fun k v hk hv => by
      have h1 : f - g + g = f := by have := HFU.out; omega
      have hgk : goodT f (kidT kids k) := HG.out.2 k hk
      have h2 := laid_good ps (f - g) g _ tu v (by rw [h1]; exact hgk) hgu (by have := HFU.out; omega) (fun y hy => HSB.out y (by simp [hy])) hv
      have h3 := laid_len ps (f - g) g (kidT kids k) tu v hgu (by have := HFU.out; omega) hv
      rw [h1] at h2 h3
      have h4 := (okB_parts hokz).1
      have h5 := (okB_parts (HOKP.out k hk)).1
      rw [hwz] at h3
      exact ⟨h2, by omega⟩
    have HLU : Hid (layT f tu 0 = wz) := by rw [Hid, layT_more hgu.full (by have := HFU.out; omega) 0]; exact hwz
    have HGU : Hid (goodT f tu) := goodT_more hgu (by have := HFU.out; omega)
    have hz80 := (okB_parts hokz).1
    refine wp_region_any (by kernel_rfl) ?_
    change wpAny _ _ _ _ _ _ _ (World.drew _)
    refine wpAny_take (i := 1) (v := .slice (some ⟨bu, ou, none⟩) N cu) rfl (by kernel_rfl) (by kernel_rfl) (by kernel_rfl) (fun _ _ _ h => h) (Or.inl ⟨by kernel_rfl, fun w => ?_⟩) ?_
    · go_simp
    refine wpAny_take (i := 2) (v := .pointer (some ⟨bu, ou, none⟩)) rfl (by kernel_rfl) (by kernel_rfl) (by kernel_rfl) (fun _ _ _ h => h) (Or.inl ⟨by kernel_rfl, fun w => ?_⟩) ?_
    · go_simp <;> (intro hh; omega)
    go_simp
    refine wpAny_ready (rs := [0, 3]) (by kernel_rfl) (by simp) ?_
    refine AllReady.cons rfl (fun K hK => ?_) (AllReady.cons rfl (fun K hK => ?_) AllReady.nil)
    · go_simp
      refine hK _ _ ?_
      clear hK K
      refine wpAny_ready (rs := [3]) (by kernel_rfl) (by simp) ?_
      refine AllReady.cons rfl (fun K hK => ?_) AllReady.nil
      go_simp
      refine hK _ _ ?_
      clear hK K
      refine wpAny_ready (rs := [4]) (by kernel_rfl) (by simp) ?_
      refine AllReady.cons rfl (fun K hK => ?_) AllReady.nil
      refine step_call2p (by kernel_rfl) 88 (.tmp 36) (.tmp 39) 78 39 (by kernel_rfl) (.agg #[.int .i64 kind, .int .i64 n, .string s, .slice aK KN cK, .slice aI KM cI]) (.agg #[.bool x.named, .string x.key, .int .i64 x.pl]) (by kernel_rfl) (by kernel_rfl) (call_kid6 _ _) (HLK.out w3.drew (HB3.out.trans (HBD.out.mono (by omega)))) ?_
      rintro e w4 ⟨rfl, hb4⟩
      refine .inl ⟨_, rfl, ?_⟩
      refine hK _ _ ?_
      clear hK K
      refine wpAny_take (i := 5) (v := .int .i64 (kidR (stepT (.mk kind n s keys kids) x))) rfl (by kernel_rfl) (by kernel_rfl) (by kernel_rfl) (fun _ _ _ h => h) (Or.inl ⟨by kernel_rfl, fun w => ?_⟩) ?_
      · go_simp
      go_simp
      refine wpAny_done (by kernel_rfl) ?_ _
      have H34 : Hid (Below w3.heap.size w3 w4) := HBD.out.trans (hb4.mono HBD.out.size)
      have HB4 := hideIt (HB3.out.trans (H34.out.mono (by omega)))
      have z4 := H34.out.size
      have HY0 : Hid (∀ W, Below w4.heap.size w4 W → W.cell? ⟨w.heap.size, 0, none⟩ = some (.int .i64 kind)) := fun W hb => (below_cell hb (by omega)).trans ((below_cell H34.out (by omega)).trans y0)
      have k0 := HY0.out w4 (Below.refl _ _)
      have q0 := (below_cell H34.out (by omega)).trans t0
      have q1 := (below_cell H34.out (by omega)).trans t1
      have q2 := (below_cell H34.out (by omega)).trans t2
      have H24 : Hid (Below w2.heap.size w2 w4) := H23.out.trans (H34.out.mono z3)
      clear hb4 y0 y1 y2 y3 y4 t0 t1 t2
      cases hst : stepT (.mk kind n s keys kids) x with
      | none =>
        have hkr : kidR none = -1 := rfl
        by_cases hl1 : N = 1
        · have hl2 : ((N : Int) == 1) = true := by simp; omega
          have HPN : Hid (ps = []) := by
            have := HNN.out
            exact List.eq_nil_of_length_eq_zero (by omega)
          have HRI : Hid (RR = insT tu x (.mk kind n s keys kids)) := by
            rw [Hid, ← HRR.out, HPN.out]
            show layG tu _ x = _
            unfold layG
            rw [hst]
          cases hin : insT tu x (.mk kind n s keys kids) with
          | none =>
            have HUN : Hid (RR = none) := by rw [Hid, HRI.out, hin]
            by_cases h6 : kind = 6
            · have h6' : (kind == 6) = true := by simp; omega
              have h5' : (kind == 5) = false := by simp; omega
              have hnm : x.named = false := by
                cases e : x.named
                · rfl
                · rw [insT, if_pos e, if_pos h6] at hin; cases hin
              rw [hnm] at q0
              clear h6 hl1 hin hst hnm
              go_wp2_with fail
              go_ret2
              exact ⟨_, fun _ => undef, fun _ => undef, by rw [HUN.out]; rfl, by rw [HUN.out]; exact Nest.nil _ _ _ _, HB4.out⟩
            · have h6' : (kind == 6) = false := by simp; omega
              by_cases h5 : kind = 5
              · have h5' : (kind == 5) = true := by simp; omega
                cases hnm : x.named
                · rw [hnm] at q0
                  have hpl : ¬ x.pl = (KM : Int) := by
                    rw [← HKM.out]
                    intro e
                    rw [insT, if_neg (by rw [hnm]; simp), if_pos ⟨h5, e⟩] at hin
                    cases hin
                  have hpl' : (x.pl == (KM : Int)) = false := by simp; omega
                  clear h6 h5 hl1 hin hst hnm
                  go_wp2_with fail
                  go_ret2
                  exact ⟨_, fun _ => undef, fun _ => undef, by rw [HUN.out]; rfl, by rw [HUN.out]; exact Nest.nil _ _ _ _, HB4.out⟩
                · rw [hnm] at q0
                  clear h6 h5 hl1 hin hst hnm
                  go_wp2_with fail
                  go_ret2
                  exact ⟨_, fun _ => undef, fun _ => undef, by rw [HUN.out]; rfl, by rw [HUN.out]; exact Nest.nil _ _ _ _, HB4.out⟩
              · have h5' : (kind == 5) = false := by simp; omega
                clear h6 h5 hl1 hin hst
                go_wp2_with fail
                go_ret2
                exact ⟨_, fun _ => undef, fun _ => undef, by rw [HUN.out]; rfl, by rw [HUN.out]; exact Nest.nil _ _ _ _, HB4.out⟩
          | some v =>
            have HUN : Hid (RR = some v) := by rw [Hid, HRI.out, hin]
            have HLV := hideIt (HLEN.out v HUN.out)
            obtain ⟨iR, hiR, hzR, hsR, hyR⟩ := info_parts infoRow
            have HRW4 : Hid (w4.ownsRow (w.alloc (.cells #[.int .i64 kind, .int .i64 n, .string s, .slice aK KN cK, .slice aI KM cI] 78)).heap.size 24 1 (.slice aL KM cL) KM ((List.range KM).map rs)) := own_below HRW.out.row H24.out (fun q hq => (HRW.out.row.lt q hq).2)
            have HK4 : Hid (w4.ownsRow w2.heap.size 9 1 (.slice aV KN cV) KN (keys.map .string)) := own_below HK3.out H34.out (fun q hq => (HK3.out.lt q hq).2)
            rcases ins_cases HG.out hst hin with ⟨hnm, hk5, hn0, hs0, hks0, hpl, hv⟩ | ⟨hnm, hk6, hn0, hs0, hkk, hno, hri, hv⟩
            · have h6' : (kind == 6) = false := by simp; omega
              have h5' : (kind == 5) = true := by simp; omega
              rw [hnm] at q0
              rw [hpl, HKM.out] at q2
              have HV : Hid (v = .mk kind 0 ByteArray.empty [] (kids.insertIdx kids.length tu)) := by rw [Hid, hv, hn0, hs0, hks0]
              have HK0 := hideIt hks0
              have HAL : Hid (Below w4.heap.size w4 (w4.alloc (.cells #[.slice az NZ cz] 24))) := (Below.refl _ _).alloc (Nat.le_refl _) _
              have hLB : (w.alloc (.cells #[.int .i64 kind, .int .i64 n, .string s, .slice aK KN cK, .slice aI KM cI] 78)).heap.size ≤ w4.heap.size := by simp; omega
              have HLO1 : Hid (w.heap.size + 1 ≤ (w.alloc (.cells #[.int .i64 kind, .int .i64 n, .string s, .slice aK KN cK, .slice aI KM cI] 78)).heap.size) := by rw [Hid]; simp
              generalize (w.alloc (.cells #[.int .i64 kind, .int .i64 n, .string s, .slice aK KN cK, .slice aI KM cI] 78)).heap.size = LO1 at HRW4 hLB HLO1
              clear hl1 hin hst hnm hk5 hn0 hs0 hks0 hpl hv
              go_wp2_with (at_builtin; refine wpList_append_own_at _ rfl _ _ 40 rfl LO1 24 iR (.slice none 0 0) 1 24 Try.underlying40 hiR hzR hsR hyR rfl (by decide) _ _ _ rfl (HRW4.out.alloc _) ⟨w4.heap.size, 0, none⟩ 1 1 [.slice az NZ cz] rfl rfl ?e1 ?e2 ?e3 ?e4 ?e5 ?_)
              case e1 => exact cell_one_new _ _ _
              case e2 => intro u hu; simp at hu; subst hu; rfl
              case e3 => unfold maxLen; omega
              case e4 => omega
              case e5 => simp; omega
              intro r5 w5 hown5 hgr5 _ hor5
              have HO5 := hideIt hown5
              have HGR5 := hideIt hgr5
              obtain ⟨a5, c5, e5⟩ := own_slice hown5
              subst e5
              have HB5 : Hid (Below w.heap.size w w5) := ((HB4.out.trans (HAL.out.mono HB4.out.size)).grown hgr5 (by have := HB4.out.size; simp; omega) (fun q hq => by have := (HRW4.out.lt q hq).1; have := HLO1.out; omega))
              have z5 := hgr5.size
              have k5 : w5.cell? ⟨w.heap.size, 0, none⟩ = some (.int .i64 kind) := (cellR (hgr5.block w.heap.size (by simp; omega) (fun e => by have := (HRW4.out.lt _ e.symm).1; have := HLO1.out; omega))).trans ((below_cell HAL.out (by omega)).trans k0)
              have HNS5 : Hid (∀ i, i < KM → NodesAt w5.heap.size w5 (rs i) (layT f (kidT kids i) 0)) := fun i hi => by
                have h1 := (HRW.out.nest i hi).below (H24.out.trans (HAL.out.mono (by omega)))
                rw [HPL.out i (by rw [HKM.out]; exact hi)] at h1
                have hfi := HFI.out i (by rw [HKM.out]; exact hi)
                exact (nest_grown h1 (HRW4.out.alloc _) HGR5.out).nodes (Nat.le_trans hfi.1.1 (by omega)) hfi.2
              have HZ5 : Hid (NodesAt w5.heap.size w5 (.slice az NZ cz) wz) := (HZN.out.below (HB5.out.mono hB)).wide (by have := HB5.out.size; omega)
              have HROW5 : Hid (RowsAt w5.heap.size w5 (.slice a5 (KM + 1) c5) (KM + 1) (fun i => layT f (kidT (kids.insertIdx kids.length tu) i) 0)) := by
                refine rows_of HO5.out (by omega) (fun i hi => ?_)
                rw [kid_ins (Nat.le_refl _), HKM.out]
                by_cases e : i < KM
                · rw [if_pos e]
                  exact ⟨rs i, by rw [List.getElem?_append_left (by simpa using e)]; simp [e], HNS5.out i e⟩
                · obtain rfl : i = KM := by omega
                  rw [if_neg e, if_pos rfl, HLU.out]
                  exact ⟨_, by rw [List.getElem?_append_right (by simp)]; simp, HZ5.out⟩
              have HKS5 : Hid (StrsAt w5.heap.size w5 (.slice aV KN cV) []) := by
                have e : KN = 0 := by rw [← HKN.out, HK0.out]; rfl
                rw [Hid, e]
                exact ⟨by simp, fun i hi => absurd hi (by simp), aV, cV, rfl, fun hp => absurd hp (by simp)⟩
              have HMK : Hid (Calls Try.prog 75 #[.int .i64 kind, .slice aV KN cV, .slice a5 (KM + 1) c5] w5 fun e w' => ∃ r KV IV, e = .returned r ∧ Nest w5.heap.size w' r (layT (f + 1) v 0) KV IV ∧ Below w5.heap.size w5 w') := by
                have h1 := HLV.out
                rw [HV.out] at h1 ⊢
                exact make_laid h1.1 h1.2 HKS5.out (by rw [ins_len (Nat.le_refl _), HKM.out]) HROW5.out
              have z5l := HB5.out.size
              clear hown5 hgr5 hor5 k0
              go_wp2_with fail
              refine HMK.out.mono ?_
              rintro e w7 ⟨r7, KV7, IV7, rfl, hn7, hb7⟩
              have HN7 := hideIt (hn7.low z5l)
              have HB7 := hideIt (HB5.out.trans (hb7.mono z5l))
              obtain ⟨a7, c7, e7⟩ := own_slice hn7.row
              obtain ⟨M7, hM7⟩ : ∃ M7, (layT (f + 1) v 0).length = M7 := ⟨_, rfl⟩
              rw [hM7] at e7
              subst e7
              clear hn7 hb7 hM7
              go_wp2_with fail
              go_ret2
              exact ⟨_, KV7, IV7, by rw [HUN.out]; rfl, by rw [HUN.out]; exact HN7.out, HB7.out⟩
            · have h6' : (kind == 6) = true := by simp; omega
              rw [hnm] at q0
              obtain ⟨p, hp⟩ : ∃ p, posK keys x.key = p := ⟨_, rfl⟩
              have hpl : p ≤ keys.length := by rw [← hp]; exact (posK_spec (l := keys) x.key).1
              have HPL2 := hideIt hpl
              have HSO := hideIt (sort_new hri hno)
              rw [hp] at hv HSO
              have HV : Hid (v = .mk 6 0 ByteArray.empty (keys.insertIdx p x.key) (kids.insertIdx p tu)) := by rw [Hid, hv, hn0, hs0, hk6]
              have HKK : Hid (KN = KM) := by rw [Hid, ← HKN.out, ← HKM.out]; exact hkk
              have HAL : Hid (Below w4.heap.size w4 (w4.alloc (.cells #[.string x.key] 9))) := (Below.refl _ _).alloc (Nat.le_refl _) _
              have HLO1 : Hid (w.heap.size + 1 ≤ (w.alloc (.cells #[.int .i64 kind, .int .i64 n, .string s, .slice aK KN cK, .slice aI KM cI] 78)).heap.size ∧ (w.alloc (.cells #[.int .i64 kind, .int .i64 n, .string s, .slice aK KN cK, .slice aI KM cI] 78)).heap.size ≤ w2.heap.size) := by rw [Hid]; simp; omega
              have HRL := hideIt HRW.out.row
              generalize (w.alloc (.cells #[.int .i64 kind, .int .i64 n, .string s, .slice aK KN cK, .slice aI KM cI] 78)).heap.size = LO1 at HRL HLO1
              clear hl1 hin hst hnm hk6 hn0 hs0 hkk hno hri hv hp hpl HRW4
              go_wp2_with (at_builtin; refine wpList_append_own_at _ rfl _ _ 75 rfl w2.heap.size 9 i1 (.string ByteArray.empty) 1 16 Try.underlying75 hi1 hz1 hs1 hy1 rfl (by decide) _ _ _ rfl (HK4.out.alloc _) ⟨w4.heap.size, 0, none⟩ 1 1 [.string x.key] rfl rfl ?g1 ?g2 ?g3 ?g4 ?g5 ?_)
              case g1 => exact cell_one_new _ _ _
              case g2 => intro u hu; simp at hu; subst hu; rfl
              case g3 => unfold maxLen; omega
              case g4 => omega
              case g5 => simp; omega
              intro r5 w5 hown5 hgr5 _ hor5
              have HO5 := hideIt hown5
              have z5 : w4.heap.size + 1 ≤ w5.heap.size := by simpa using hgr5.size
              obtain ⟨a5, c5, e5⟩ := own_slice hown5
              subst e5
              have H25 : Hid (Below w2.heap.size w2 w5) := (H24.out.trans (HAL.out.mono (by omega))).grown hgr5 (by simp; omega) (fun q hq => (HK4.out.lt q hq).1)
              have HB5 : Hid (Below w.heap.size w w5) := HB2.out.trans (H25.out.mono (by omega))
              have HRW5 : Hid (w5.ownsRow LO1 24 1 (.slice aL KM cL) KM ((List.range KM).map rs)) := own_below HRL.out H25.out (fun q hq => (HRL.out.lt q hq).2)
              have HAL5 : Hid (Below w5.heap.size w5 (w5.alloc (.cells #[.slice az NZ cz] 24))) := (Below.refl _ _).alloc (Nat.le_refl _) _
              have hL5 : LO1 ≤ w5.heap.size := by have := HLO1.out.2; omega
              clear hown5 hgr5 hor5 k0 q0 q1 q2
              go_wp2_with (at_builtin; refine wpList_append_own_at _ rfl _ _ 40 rfl LO1 24 iR (.slice none 0 0) 1 24 Try.underlying40 hiR hzR hsR hyR rfl (by decide) _ _ _ rfl (HRW5.out.alloc _) ⟨w5.heap.size, 0, none⟩ 1 1 [.slice az NZ cz] rfl rfl ?i1 ?i2 ?i3 ?i4 ?i5 ?_)
              case i1 => exact cell_one_new _ _ _
              case i2 => intro u hu; simp at hu; subst hu; rfl
              case i3 => unfold maxLen; omega
              case i4 => omega
              case i5 => simp; omega
              intro r6 w6 hown6 hgr6 _ hor6
              have HO6 := hideIt hown6
              have HGR6 := hideIt hgr6
              obtain ⟨a6, c6, e6⟩ := own_slice hown6
              subst e6
              have z6 : w5.heap.size + 1 ≤ w6.heap.size := by simpa using hgr6.size
              have HB6 : Hid (Below w.heap.size w w6) := (HB5.out.trans (HAL5.out.mono HB5.out.size)).grown hgr6 (by have := HB5.out.size; simp; omega) (fun q hq => by have := (HRW5.out.lt q hq).1; have := HLO1.out; omega)
              have HNS6 : Hid (∀ i, i < KM → NodesAt w6.heap.size w6 (rs i) (layT f (kidT kids i) 0)) := fun i hi => by
                have h1 := (HRW.out.nest i hi).below (H25.out.trans (HAL5.out.mono (by omega)))
                rw [HPL.out i (by rw [HKM.out]; exact hi)] at h1
                have hfi := HFI.out i (by rw [HKM.out]; exact hi)
                exact (nest_grown h1 (HRW5.out.alloc _) HGR6.out).nodes (Nat.le_trans hfi.1.1 (by omega)) hfi.2
              have HZ6 : Hid (NodesAt w6.heap.size w6 (.slice az NZ cz) wz) := (HZN.out.below (HB6.out.mono hB)).wide (by have := HB6.out.size; omega)
              have HK6 : Hid (StrsAt w6.heap.size w6 (.slice a5 (KN + 1) c5) (keys ++ [x.key])) := by
                have h1 := (HO5.out.alloc (.cells #[.slice az NZ cz] 24)).kept HGR6.out (own_apart (HO5.out.alloc (.cells #[.slice az NZ cz] 24)) (HRW5.out.alloc _) (by decide))
                have e1 : (keys ++ [x.key]).map Value.string = keys.map Value.string ++ [.string x.key] := by simp
                have e2 : (keys ++ [x.key]).length = KN + 1 := by simp [HKN.out]
                rw [← e1, ← e2] at h1
                have h2 := own_strs h1 (by rw [e2]; omega) (fun i hi => ?_)
                · rw [e2] at h2; exact h2
                · rw [e2] at hi
                  by_cases e : i < keys.length
                  · rw [key_pre e]; exact HNI.out.keys.2.1 i e
                  · obtain rfl : i = keys.length := by have := HKN.out; omega
                    rw [key_end]; have := hfx.1; omega
              have HC6 : Hid (CellsAt w6.heap.size w6 (.slice a6 (KM + 1) c6) (keys ++ [x.key]).length (fun i => if i < KM then rs i else .slice az NZ cz)) := by
                have e2 : (keys ++ [x.key]).length = KM + 1 := by simp [HKN.out, HKK.out]
                rw [Hid, e2]
                refine ⟨a6, c6, rfl, fun i hi => ?_, fun hp => ?_⟩
                · dsimp only
                  by_cases e : i < KM
                  · rw [if_pos e]
                    obtain ⟨a, c, e3⟩ := own_slice (HRW.out.nest i e).row
                    exact ⟨a, _, c, e3⟩
                  · rw [if_neg e]; exact ⟨_, _, _, rfl⟩
                · obtain ⟨gg, cap, e3, _, hg⟩ := HO6.out.form hp
                  simp only [Value.slice.injEq] at e3
                  obtain ⟨rfl, _, rfl⟩ := e3
                  refine ⟨gg, 0, rfl, hg, fun i hi => ?_⟩
                  rw [Nat.zero_add, HO6.out.cellAt i (by omega)]
                  dsimp only
                  by_cases e : i < KM
                  · rw [if_pos e, List.getElem?_append_left (by simpa using e)]; simp [e]
                  · obtain rfl : i = KM := by omega
                    rw [if_neg e, List.getElem?_append_right (by simp)]; simp
              have HSC := hideIt (l1Sorted_any w6.heap.size (.slice a5 (KN + 1) c5) (.slice a6 (KM + 1) c6) (keys ++ [x.key]) (fun i => if i < KM then rs i else .slice az NZ cz) w6 HK6.out HC6.out (Nat.le_refl _) (by simp [HKN.out]; omega))
              have HSO2 : Hid (sortIn (keys ++ [x.key]) (keys ++ [x.key]).length = some (keys.insertIdx p x.key, (List.range KM).insertIdx p KM)) := by
                have h1 := HSO.out
                have e2 : (keys ++ [x.key]).length = keys.length + 1 := by simp
                rw [Hid, e2, h1, HKN.out, HKK.out]
              clear hown6 hgr6 hor6
              go_wp2_with fail
              refine HSC.out.mono ?_
              rintro e w7 ⟨hs7, hb7⟩
              rw [HSO2.out] at hs7
              obtain ⟨nv, lv, rfl, hn7, hl7⟩ := hs7
              have z7 := hb7.size
              have HB7 := hideIt (HB6.out.trans (hb7.mono HB6.out.size))
              have e1 : (keys.insertIdx p x.key).length = KM + 1 := by rw [ins_len HPL2.out, HKN.out, HKK.out]
              have e2 : ((List.range KM).insertIdx p KM).length = KM + 1 := by rw [ins_len (by rw [List.length_range, ← HKK.out, ← HKN.out]; exact HPL2.out), List.length_range]
              have HKS7 : Hid (StrsAt w7.heap.size w7 nv (keys.insertIdx p x.key)) := by
                refine own_strs hn7 (by rw [e1]; omega) (fun i hi => ?_)
                rw [e1] at hi
                rw [key_ins HPL2.out]
                have := HKN.out
                have := HKK.out
                have := HPL2.out
                split
                · exact HNI.out.keys.2.1 i (by show i < keys.length; omega)
                · split
                  · have := hfx.1; omega
                  · exact HNI.out.keys.2.1 (i - 1) (by show i - 1 < keys.length; omega)
              rw [e2] at hl7
              have HROW7 : Hid (RowsAt w7.heap.size w7 lv (KM + 1) (fun i => layT f (kidT (kids.insertIdx p tu) i) 0)) := by
                have hpk : p ≤ KM := by rw [← HKK.out, ← HKN.out]; exact HPL2.out
                refine rows_of hl7 (by omega) (fun i hi => ?_)
                rw [List.getElem?_map, range_ins hpk hi, kid_ins (by rw [HKM.out]; exact hpk)]
                by_cases c1 : i < p
                · rw [if_pos c1, if_pos c1]
                  exact ⟨rs i, by simp; omega, ((HNS6.out i (by omega)).below hb7).wide z7⟩
                · rw [if_neg c1, if_neg c1]
                  by_cases c2 : i = p
                  · rw [if_pos c2, if_pos c2, HLU.out]
                    exact ⟨.slice az NZ cz, by simp, (HZ6.out.below hb7).wide z7⟩
                  · rw [if_neg c2, if_neg c2]
                    exact ⟨rs (i - 1), by simp; omega, ((HNS6.out (i - 1) (by omega)).below hb7).wide z7⟩
              have HMK : Hid (Calls Try.prog 75 #[.int .i64 6, nv, lv] w7 fun e w' => ∃ r KV IV, e = .returned r ∧ Nest w7.heap.size w' r (layT (f + 1) v 0) KV IV ∧ Below w7.heap.size w7 w') := by
                have h1 := HLV.out
                rw [HV.out] at h1 ⊢
                exact make_laid h1.1 h1.2 HKS7.out (by rw [ins_len (by rw [HKM.out, ← HKK.out, ← HKN.out]; exact HPL2.out), HKM.out]) HROW7.out
              have z7l := HB7.out.size
              obtain ⟨an, cn, en⟩ := own_slice hn7
              obtain ⟨al, cl, el⟩ := own_slice hl7
              rw [e1] at en
              subst en el
              clear hn7 hl7 hb7 e1 e2
              go_wp2_with fail
              refine HMK.out.mono ?_
              rintro e w8 ⟨r8, KV8, IV8, rfl, hn8, hb8⟩
              have HN8 := hideIt (hn8.low z7l)
              have HB8 := hideIt (HB7.out.trans (hb8.mono z7l))
              obtain ⟨a8, c8, e8⟩ := own_slice hn8.row
              obtain ⟨M8, hM8⟩ : ∃ M8, (layT (f + 1) v 0).length = M8 := ⟨_, rfl⟩
              rw [hM8] at e8
              subst e8
              clear hn8 hb8 hM8
              go_wp2_with fail
              go_ret2
              exact ⟨_, KV8, IV8, by rw [HUN.out]; rfl, by rw [HUN.out]; exact HN8.out, HB8.out⟩
        · have hl2 : ((N : Int) == 1) = false := by simp; omega
          have HUN : Hid (RR = none) := by
            rw [Hid, ← HRR.out]
            cases hps : ps with
            | nil => have := HNN.out; rw [hps] at this; simp at this; omega
            | cons y qs => rw [updT, hst]
          clear hl1
          go_wp2_with fail
          go_ret2
          exact ⟨_, fun _ => undef, fun _ => undef, by rw [HUN.out]; rfl, by rw [HUN.out]; exact Nest.nil _ _ _ _, HB4.out⟩
      | some k =>
        have hkr : kidR (some k) = (k : Int) := rfl
        have hkl : k < kids.length := stepT_lt HG.out h0x hst
        have hkM : k < KM := by rw [← HKM.out]; exact hkl
        obtain ⟨gL, cLx, eL, _, hgLl⟩ := HRW.out.row.form (by omega)
        simp only [Value.slice.injEq] at eL
        obtain ⟨rfl, _, rfl⟩ := eL
        obtain ⟨hLc, hLcap, hLmax, _, _⟩ := own_full HRW.out.row
        have HLc := hideIt hLc
        clear hLc
        have HNDS : Hid (∀ W, Below w4.heap.size w4 W → ∀ i, i < KM → NodesAt W.heap.size W (rs i) (layT f (kidT kids i) 0)) := fun W hb i hi => by
          have hb2 : Below w2.heap.size w2 W := H23.out.trans ((H34.out.trans (hb.mono z4)).mono z3)
          have hfi := HFI.out i (by rw [HKM.out]; exact hi)
          have := (HRW.out.nest i hi).nodes (by rw [HPL.out i (by rw [HKM.out]; exact hi)]; exact Nat.le_trans hfi.1.1 (by omega)) (by rw [HPL.out i (by rw [HKM.out]; exact hi)]; exact hfi.2)
          rw [HPL.out i (by rw [HKM.out]; exact hi)] at this
          exact (this.below hb2).wide hb2.size
        obtain ⟨A5, hA5⟩ : ∃ A : Addr, (if cu = 1 then some (⟨bu, ou, none⟩ : Addr) else some ⟨bu, ou + 3, none⟩) = some A := by split <;> exact ⟨_, rfl⟩
        obtain ⟨aX, cX, eX⟩ := own_slice (HRW.out.nest k hkM).row
        obtain ⟨NX, hNX⟩ : ∃ NX, (PL vs k).length = NX := ⟨_, rfl⟩
        rw [hNX] at eX
        have lx : w4.cell? ⟨gL, k, none⟩ = some (.slice aX NX cX) := by rw [below_cell (H23.out.trans (H34.out.mono z3)) (by omega), (HLc.out k hkM).1, eX]
        have HB4D : Hid (Below w4.heap.size w4 w4.drew) := (Below.refl _ _).drew
        have HPSN : Hid (ps.length = N - 1) := by have := HNN.out; rw [Hid]; omega
        obtain ⟨RK, hRK⟩ : ∃ RK, (if N = 1 then some tu else updT (layG tu) ps (kidT kids k)) = RK := ⟨_, rfl⟩
        have HIH : Hid (Calls Try.prog 44 #[.slice aX NX cX, .slice (some A5) (N - 1) (cu - 1), .slice az NZ cz, .bool false] w4.drew fun e w' => ∃ a5 n5 c5, e = .returned (.tuple #[.slice a5 n5 c5, .bool RK.isSome]) ∧ ((∃ KV IV, Nest w4.drew.heap.size w' (.slice a5 n5 c5) (upN f RK) KV IV) ∨ (RK = some tu ∧ Value.slice a5 n5 c5 = .slice az NZ cz)) ∧ Below w4.drew.heap.size w4.drew w') := by
          by_cases hl1 : N = 1
          · rw [if_pos hl1] at hRK
            rw [hl1, ← hRK]
            refine (l6With_nil _ _ _ _ _ az NZ cz rfl w4.drew).mono ?_
            rintro e w' ⟨rfl, rfl⟩
            exact ⟨az, NZ, cz, rfl, .inr ⟨rfl, rfl⟩, Below.refl _ _⟩
          · rw [if_neg hl1] at hRK
            have hcu1 : ¬ cu = 1 := by omega
            have hsu : StepsAt w4.drew.heap.size w4.drew (.slice (some A5) ps.length (cu - 1)) ps := by
              have h1 : StepsAt w4.drew.heap.size w4.drew (.slice (some ⟨bu, ou, none⟩) N cu) (x :: ps) := (HU2.out.below ((HB4.out.trans (HB4D.out.mono (by omega))).mono hB)).wide (by have := HB4D.out.size; omega)
              refine steps_tail h1 HNN.out (fun _ => ?_)
              rw [if_neg hcu1, Option.some.injEq] at hA5
              exact hA5.symm
            have hzz : NodesAt w4.drew.heap.size w4.drew (.slice az NZ cz) wz := (HZN.out.below ((HB4.out.trans (HB4D.out.mono (by omega))).mono hB)).wide (by have := HB4D.out.size; omega)
            have h := ih f (kidT kids k) w4.drew.heap.size (rs k) (.slice az NZ cz) (some A5) (cu - 1) w4.drew (fun e => by have := HPSN.out; rw [e] at this; simp at this; omega) (HG.out.2 k hkl) (HOKP.out k hkl) (HNDS.out w4.drew HB4D.out k hkM) hzz hsu (by rw [HPSN.out]; omega) (fun y hy => HSB.out y (by simp [hy])) (by rw [HPSN.out]; omega) (by have := HFU.out; omega) (Nat.le_refl _)
            rw [hRK, HPSN.out, eX] at h
            refine h.mono ?_
            rintro e w' ⟨r, KV, IV, rfl, hn, hb⟩
            obtain ⟨a5, c5, e5⟩ := own_slice hn.row
            subst e5
            exact ⟨a5, _, c5, rfl, .inl ⟨KV, IV, hn⟩, hb⟩
        have HRRK : Hid (RR = RK.map (fun u => putKid k u (.mk kind n s keys kids))) := by
          rw [Hid, ← HRR.out, ← hRK]
          cases hps : ps with
          | nil =>
            have := HNN.out
            rw [hps] at this
            simp at this
            rw [if_pos (by omega)]
            show layG tu _ x = _
            unfold layG
            rw [hst]
            rfl
          | cons y qs =>
            have := HNN.out
            rw [hps] at this
            simp at this
            rw [if_neg (by omega), updT, hst]
            show (match updT (layG tu) (y :: qs) (kidT kids k) with | none => none | some u => some (putKid k u (.mk kind n s keys kids))) = _
            cases updT (layG tu) (y :: qs) (kidT kids k) <;> rfl
        have HKG : Hid (∀ u, RK = some u → goodT f u ∧ (layT f u 0).length ≤ 160) := fun u e => by
          rw [← hRK] at e
          split at e
          · simp only [Option.some.injEq] at e
            subst e
            exact ⟨HGU.out, by rw [HLU.out]; omega⟩
          · exact HLENK.out k u hkl e
        have HST := hideIt hst
        have HKLT := hideIt hkl
        have hkn : (k : Int) < (KM : Int) := by omega
        obtain ⟨LB, hLB⟩ : ∃ LB, ((N : Int) == 1) = LB := ⟨_, rfl⟩
        clear hRK hNX hst hkl
        cases LB
        all_goals
          go_wp2_with fail
          refine wp_region_any (by kernel_rfl) ?_
          change wpAny _ _ _ _ _ _ _ (World.drew _)
          refine wpAny_take (i := 0) (v := .slice (some ⟨gL, 0, none⟩) KM cL) rfl (by kernel_rfl) (by kernel_rfl) (by kernel_rfl) (fun _ _ _ h => h) (Or.inl ⟨by kernel_rfl, fun w => ?_⟩) ?_
          · go_simp
          refine wpAny_take (i := 1) (v := .int .i64 (k : Int)) rfl (by kernel_rfl) (by kernel_rfl) (by kernel_rfl) (fun _ _ _ h => h) (Or.inl ⟨by kernel_rfl, fun w => ?_⟩) ?_
          · go_simp
          refine wpAny_take (i := 2) (v := .pointer (some ⟨gL, k, none⟩)) rfl (by kernel_rfl) (by kernel_rfl) (by kernel_rfl) (fun _ _ _ h => h) (Or.inl ⟨by kernel_rfl, fun w => ?_⟩) ?_
          · go_simp
          refine wpAny_take (i := 4) (v := .slice (some ⟨bu, ou, none⟩) N cu) rfl (by kernel_rfl) (by kernel_rfl) (by kernel_rfl) (fun _ _ _ h => h) (Or.inl ⟨by kernel_rfl, fun w => ?_⟩) ?_
          · go_simp
          refine wpAny_take (i := 5) (v := .slice (some A5) (N - 1) (cu - 1)) rfl (by kernel_rfl) (by kernel_rfl) (by kernel_rfl) (fun _ _ _ h => h) (Or.inl ⟨by kernel_rfl, fun w => ?_⟩) ?_
          · go_simp <;> (intro hh; omega)
          refine wpAny_take (i := 6) (v := .slice az NZ cz) rfl (by kernel_rfl) (by kernel_rfl) (by kernel_rfl) (fun _ _ _ h => h) (Or.inl ⟨by kernel_rfl, fun w => ?_⟩) ?_
          · go_simp
          refine wpAny_take (i := 7) (v := .bool false) rfl (by kernel_rfl) (by kernel_rfl) (by kernel_rfl) (fun _ _ _ h => h) (Or.inl ⟨by kernel_rfl, fun w => ?_⟩) ?_
          · go_simp
          go_simp
          refine wpAny_ready (rs := [3]) (by kernel_rfl) (by simp) ?_
          refine AllReady.cons rfl (fun K hK => ?_) AllReady.nil
          go_simp
          refine hK _ _ ?_
          clear hK K
          refine wpAny_ready (rs := [8]) (by kernel_rfl) (by simp) ?_
          refine AllReady.cons rfl (fun K hK => ?_) AllReady.nil
          refine step_call4 (by kernel_rfl) 44 (.tmp 83) (.tmp 85) (.tmp 86) (.tmp 87) 24 25 24 4 (by kernel_rfl) (.slice aX NX cX) (.slice (some A5) (N - 1) (cu - 1)) (.slice az NZ cz) (.bool false) (by kernel_rfl) (by kernel_rfl) (by kernel_rfl) (by kernel_rfl) (call_with6 _ _ _ _) HIH.out ?_
          rintro e w5 ⟨a5, n5, c5, rfl, hn5, hb5⟩
          have HN5 := hideIt hn5
          have H45 : Hid (Below w4.heap.size w4 w5) := HB4D.out.trans (hb5.mono HB4D.out.size)
          have HB5 := hideIt (HB4.out.trans (H45.out.mono (by omega)))
          have z5 := H45.out.size
          obtain ⟨FS, hFS⟩ : ∃ FS, RK.isSome = FS := ⟨_, rfl⟩
          rw [hFS]
          refine ⟨_, rfl, ?_⟩
          refine hK _ _ ?_
          clear hK K hn5 hb5
          refine wpAny_take (i := 9) (v := .tuple #[.slice a5 n5 c5, .bool FS]) rfl (by kernel_rfl) (by kernel_rfl) (by kernel_rfl) (fun _ _ _ h => h) (Or.inl ⟨by kernel_rfl, fun w => ?_⟩) ?_
          · go_simp
          refine wpAny_take (i := 10) (v := .slice a5 n5 c5) rfl (by kernel_rfl) (by kernel_rfl) (by kernel_rfl) (fun _ _ _ h => h) (Or.inl ⟨by kernel_rfl, fun w => ?_⟩) ?_
          · go_simp
          refine wpAny_take (i := 11) (v := .bool FS) rfl (by kernel_rfl) (by kernel_rfl) (by kernel_rfl) (fun _ _ _ h => h) (Or.inl ⟨by kernel_rfl, fun w => ?_⟩) ?_
          · go_simp
          refine wpAny_take (i := 12) (v := .slice a5 n5 c5) rfl (by kernel_rfl) (by kernel_rfl) (by kernel_rfl) (fun _ _ _ h => h) (Or.inl ⟨by kernel_rfl, fun w => ?_⟩) ?_
          · go_simp
          refine wpAny_take (i := 13) (v := .bool FS) rfl (by kernel_rfl) (by kernel_rfl) (by kernel_rfl) (fun _ _ _ h => h) (Or.inl ⟨by kernel_rfl, fun w => ?_⟩) ?_
          · go_simp
          go_simp
          refine wpAny_done (by kernel_rfl) ?_ _
          cases hRKc : RK with
          | none =>
            have hFS0 : FS = false := by rw [← hFS, hRKc]; rfl
            have HUN : Hid (RR = none) := by rw [Hid, HRRK.out, hRKc]; rfl
            subst hFS0
            clear hFS hRKc
            go_wp2_with fail
            go_ret2
            exact ⟨_, fun _ => undef, fun _ => undef, by rw [HUN.out]; rfl, by rw [HUN.out]; exact Nest.nil _ _ _ _, HB5.out⟩
          | some u =>
            have hFS0 : FS = true := by rw [← hFS, hRKc]; rfl
            have HUN : Hid (RR = some (putKid k u (.mk kind n s keys kids))) := by rw [Hid, HRRK.out, hRKc]; rfl
            have HUG := hideIt (HKG.out u hRKc)
            have HLV := hideIt (HLEN.out _ HUN.out)
            have HN5u : Hid ((∃ KV IV, Nest w4.drew.heap.size w5 (.slice a5 n5 c5) (layT f u 0) KV IV) ∨ (layT f u 0 = wz ∧ Value.slice a5 n5 c5 = .slice az NZ cz)) := by
              rcases HN5.out with ⟨KV, IV, h⟩ | ⟨e1, e2⟩
              · rw [hRKc] at h; exact .inl ⟨KV, IV, h⟩
              · rw [hRKc] at e1; cases e1; exact .inr ⟨HLU.out, e2⟩
            subst hFS0
            have HRW5 : Hid (w5.ownsRow (w.alloc (.cells #[.int .i64 kind, .int .i64 n, .string s, .slice aK KN cK, .slice aI KM cI] 78)).heap.size 24 1 (.slice (some ⟨gL, 0, none⟩) KM cL) KM ((List.range KM).map rs)) := own_below HRW.out.row (H23.out.trans ((H34.out.trans (H45.out.mono z4)).mono z3)) (fun q hq => (HRW.out.row.lt q hq).2)
            have hfull5 := own_full HRW5.out
            have l5 := (hfull5.1 k hkM).1
            have f5 := (hfull5.1 k hkM).2
            have HNS5 : Hid (∀ i, i < KM → Nest (loR i) w5 (rs i) (layT f (kidT kids i) 0) (KV i) (IV i)) := fun i hi => by
              have h1 := (HRW.out.nest i hi).below (H23.out.trans ((H34.out.trans (H45.out.mono z4)).mono z3))
              rw [HPL.out i (by rw [HKM.out]; exact hi)] at h1
              exact h1
            obtain ⟨W6, hW6⟩ : ∃ W6, w5.setCell ⟨gL, k, none⟩ (.slice a5 n5 c5) = W6 := ⟨_, rfl⟩
            have HST6 : Hid (∀ c, c ≠ gL → W6.heap[c]? = w5.heap[c]?) := fun c hc => by rw [← hW6]; exact Below.heap_setCell w5 _ _ c hc
            have HZ6 : Hid (W6.heap.size = w5.heap.size) := by rw [Hid, ← hW6]; simp
            have hgw : w.heap.size + 1 ≤ gL := HRWLO.out gL (.inr trivial) rfl
            have HB6 : Hid (Below w.heap.size w W6) := by
              have h5 := HB5.out
              refine ⟨?_, ?_, ?_, by rw [HZ6.out]; exact h5.size, fun c hc => (HST6.out c (by omega)).trans (h5.block c hc)⟩
              · rw [← hW6]; exact h5.os
              · rw [← hW6]; exact h5.tape
              · rw [← hW6]; exact h5.output
            have HNR6 : Hid (NodesAt W6.heap.size W6 (.slice a5 n5 c5) (layT f u 0)) := by
              rcases HN5u.out with ⟨KV0, IV0, h⟩ | ⟨e1, e2⟩
              · rw [Hid, ← hW6]
                exact (nest_set h HRW5.out).nodes (by have := HUG.out.2; omega) (good_fits HUG.out.1 (by have := HUG.out.2; omega))
              · rw [Hid, e1, e2]
                exact (HZN.out.below (HB6.out.mono hB)).wide (by have := HB6.out.size; omega)
            have HRW6 : Hid (RowsAt W6.heap.size W6 (.slice (some ⟨gL, 0, none⟩) KM cL) KM (fun i => layT f (kidT (kids.set k u) i) 0)) := by
              have h1 := HNR6.out
              rw [← hW6] at h1
              have h2 := rows_setN HRW5.out hKM80 hkM HNS5.out (fun i hi => HFI.out i (by rw [HKM.out]; exact hi)) h1
              rw [hW6] at h2
              have e1 : (fun i => layT f (kidT (kids.set k u) i) 0) = fun i => if i = k then layT f u 0 else layT f (kidT kids i) 0 := by funext i; rw [kid_set HKLT.out]; split <;> rfl
              rw [Hid, e1]
              exact h2
            have b6 : W6.cell? ⟨w.heap.size, 0, none⟩ = some (.int .i64 kind) := by rw [cellR (HST6.out _ (by omega))]; exact HY0.out w5 H45.out
            have HKS6 : Hid (StrsAt W6.heap.size W6 (.slice aV KN cV) keys) := by
              have h1 := HK3.out
              rw [← HKN.out] at h1
              have h2 := own_strs h1 HNI.out.keys.1 HNI.out.keys.2.1
              rw [HKN.out] at h2
              have h3 := (h2.below (w' := w5) (H34.out.trans (H45.out.mono z4))).wide (B' := W6.heap.size) (by have := HZ6.out; omega)
              obtain ⟨q1, q2, ak, ck, eq, q3⟩ := h3
              refine ⟨q1, q2, ak, ck, eq, fun hp => ?_⟩
              obtain ⟨bb, oo, rfl, hbb, hcc⟩ := q3 hp
              refine ⟨bb, oo, rfl, hbb, fun i hi => ?_⟩
              have hne : bb ≠ gL := by
                simp only [Value.slice.injEq] at eq
                rintro rfl
                rcases own_apart HK3.out (own_below HRW.out.row H23.out (fun q hq => (HRW.out.row.lt q hq).2)) (by decide) with e | e
                · rw [eq.1] at e; cases e
                · exact e (by rw [eq.1]; rfl)
              rw [cellR (HST6.out bb hne)]
              exact hcc i hi
            have HMK : Hid (Calls Try.prog 75 #[.int .i64 kind, .slice aV KN cV, .slice (some ⟨gL, 0, none⟩) KM cL] W6 fun e w' => ∃ r KV IV, e = .returned r ∧ Nest W6.heap.size w' r (layT (f + 1) (putKid k u (.mk kind n s keys kids)) 0) KV IV ∧ Below W6.heap.size W6 w') := by
              obtain ⟨hn0, hs0⟩ : n = 0 ∧ s = ByteArray.empty := by
                rcases step_kinds HG.out HST.out with ⟨_, q1, q2, _⟩ | ⟨_, q1, q2, _⟩
                · exact ⟨q1, q2⟩
                · exact ⟨q1, q2⟩
              have h1 := HLV.out
              rw [putKid, hn0, hs0] at h1 ⊢
              exact make_laid h1.1 h1.2 HKS6.out (by rw [List.length_set, HKM.out]) HRW6.out
            have z6l : w.heap.size ≤ W6.heap.size := HB6.out.size
            clear hFS hRKc hfull5 k0 q0 q1 q2
            go_wp2_with fail
            refine HMK.out.mono ?_
            rintro e w7 ⟨r7, KV7, IV7, rfl, hn7, hb7⟩
            have HN7 := hideIt (hn7.low z6l)
            have HB7 := hideIt (HB6.out.trans (hb7.mono z6l))
            obtain ⟨a7, c7, e7⟩ := own_slice hn7.row
            obtain ⟨M7, hM7⟩ : ∃ M7, (layT (f + 1) (putKid k u (.mk kind n s keys kids)) 0).length = M7 := ⟨_, rfl⟩
            rw [hM7] at e7
            subst e7
            clear hn7 hb7 hM7
            go_wp2_with fail
            go_ret2
            exact ⟨_, KV7, IV7, by rw [HUN.out]; rfl, by rw [HUN.out]; exact HN7.out, HB7.out⟩
    · go_simp
      refine hK _ _ ?_
      clear hK K
      refine wpAny_ready (rs := [0]) (by kernel_rfl) (by simp) ?_
      refine AllReady.cons rfl (fun K hK => ?_) AllReady.nil
      go_simp
      refine hK _ _ ?_
      clear hK K
      refine wpAny_ready (rs := [4]) (by kernel_rfl) (by simp) ?_
      refine AllReady.cons rfl (fun K hK => ?_) AllReady.nil
      refine step_call2p (by kernel_rfl) 88 (.tmp 36) (.tmp 39) 78 39 (by kernel_rfl) (.agg #[.int .i64 kind, .int .i64 n, .string s, .slice aK KN cK, .slice aI KM cI]) (.agg #[.bool x.named, .string x.key, .int .i64 x.pl]) (by kernel_rfl) (by kernel_rfl) (call_kid6 _ _) (HLK.out w3.drew (HB3.out.trans (HBD.out.mono (by omega)))) ?_
      rintro e w4 ⟨rfl, hb4⟩
      refine .inl ⟨_, rfl, ?_⟩
      refine hK _ _ ?_
      clear hK K
      refine wpAny_take (i := 5) (v := .int .i64 (kidR (stepT (.mk kind n s keys kids) x))) rfl (by kernel_rfl) (by kernel_rfl) (by kernel_rfl) (fun _ _ _ h => h) (Or.inl ⟨by kernel_rfl, fun w => ?_⟩) ?_
      · go_simp
      go_simp
      refine wpAny_done (by kernel_rfl) ?_ _
      have H34 : Hid (Below w3.heap.size w3 w4) := HBD.out.trans (hb4.mono HBD.out.size)
      have HB4 := hideIt (HB3.out.trans (H34.out.mono (by omega)))
      have z4 := H34.out.size
      have HY0 : Hid (∀ W, Below w4.heap.size w4 W → W.cell? ⟨w.heap.size, 0, none⟩ = some (.int .i64 kind)) := fun W hb => (below_cell hb (by omega)).trans ((below_cell H34.out (by omega)).trans y0)
      have k0 := HY0.out w4 (Below.refl _ _)
      have q0 := (below_cell H34.out (by omega)).trans t0
      have q1 := (below_cell H34.out (by omega)).trans t1
      have q2 := (below_cell H34.out (by omega)).trans t2
      have H24 : Hid (Below w2.heap.size w2 w4) := H23.out.trans (H34.out.mono z3)
      clear hb4 y0 y1 y2 y3 y4 t0 t1 t2
      cases hst : stepT (.mk kind n s keys kids) x with
      | none =>
        have hkr : kidR none = -1 := rfl
        by_cases hl1 : N = 1
        · have hl2 : ((N : Int) == 1) = true := by simp; omega
          have HPN : Hid (ps = []) := by
            have := HNN.out
            exact List.eq_nil_of_length_eq_zero (by omega)
          have HRI : Hid (RR = insT tu x (.mk kind n s keys kids)) := by
            rw [Hid, ← HRR.out, HPN.out]
            show layG tu _ x = _
            unfold layG
            rw [hst]
          cases hin : insT tu x (.mk kind n s keys kids) with
          | none =>
            have HUN : Hid (RR = none) := by rw [Hid, HRI.out, hin]
            by_cases h6 : kind = 6
            · have h6' : (kind == 6) = true := by simp; omega
              have h5' : (kind == 5) = false := by simp; omega
              have hnm : x.named = false := by
                cases e : x.named
                · rfl
                · rw [insT, if_pos e, if_pos h6] at hin; cases hin
              rw [hnm] at q0
              clear h6 hl1 hin hst hnm
              go_wp2_with fail
              go_ret2
              exact ⟨_, fun _ => undef, fun _ => undef, by rw [HUN.out]; rfl, by rw [HUN.out]; exact Nest.nil _ _ _ _, HB4.out⟩
            · have h6' : (kind == 6) = false := by simp; omega
              by_cases h5 : kind = 5
              · have h5' : (kind == 5) = true := by simp; omega
                cases hnm : x.named
                · rw [hnm] at q0
                  have hpl : ¬ x.pl = (KM : Int) := by
                    rw [← HKM.out]
                    intro e
                    rw [insT, if_neg (by rw [hnm]; simp), if_pos ⟨h5, e⟩] at hin
                    cases hin
                  have hpl' : (x.pl == (KM : Int)) = false := by simp; omega
                  clear h6 h5 hl1 hin hst hnm
                  go_wp2_with fail
                  go_ret2
                  exact ⟨_, fun _ => undef, fun _ => undef, by rw [HUN.out]; rfl, by rw [HUN.out]; exact Nest.nil _ _ _ _, HB4.out⟩
                · rw [hnm] at q0
                  clear h6 h5 hl1 hin hst hnm
                  go_wp2_with fail
                  go_ret2
                  exact ⟨_, fun _ => undef, fun _ => undef, by rw [HUN.out]; rfl, by rw [HUN.out]; exact Nest.nil _ _ _ _, HB4.out⟩
              · have h5' : (kind == 5) = false := by simp; omega
                clear h6 h5 hl1 hin hst
                go_wp2_with fail
                go_ret2
                exact ⟨_, fun _ => undef, fun _ => undef, by rw [HUN.out]; rfl, by rw [HUN.out]; exact Nest.nil _ _ _ _, HB4.out⟩
          | some v =>
            have HUN : Hid (RR = some v) := by rw [Hid, HRI.out, hin]
            have HLV := hideIt (HLEN.out v HUN.out)
            obtain ⟨iR, hiR, hzR, hsR, hyR⟩ := info_parts infoRow
            have HRW4 : Hid (w4.ownsRow (w.alloc (.cells #[.int .i64 kind, .int .i64 n, .string s, .slice aK KN cK, .slice aI KM cI] 78)).heap.size 24 1 (.slice aL KM cL) KM ((List.range KM).map rs)) := own_below HRW.out.row H24.out (fun q hq => (HRW.out.row.lt q hq).2)
            have HK4 : Hid (w4.ownsRow w2.heap.size 9 1 (.slice aV KN cV) KN (keys.map .string)) := own_below HK3.out H34.out (fun q hq => (HK3.out.lt q hq).2)
            rcases ins_cases HG.out hst hin with ⟨hnm, hk5, hn0, hs0, hks0, hpl, hv⟩ | ⟨hnm, hk6, hn0, hs0, hkk, hno, hri, hv⟩
            · have h6' : (kind == 6) = false := by simp; omega
              have h5' : (kind == 5) = true := by simp; omega
              rw [hnm] at q0
              rw [hpl, HKM.out] at q2
              have HV : Hid (v = .mk kind 0 ByteArray.empty [] (kids.insertIdx kids.length tu)) := by rw [Hid, hv, hn0, hs0, hks0]
              have HK0 := hideIt hks0
              have HAL : Hid (Below w4.heap.size w4 (w4.alloc (.cells #[.slice az NZ cz] 24))) := (Below.refl _ _).alloc (Nat.le_refl _) _
              have hLB : (w.alloc (.cells #[.int .i64 kind, .int .i64 n, .string s, .slice aK KN cK, .slice aI KM cI] 78)).heap.size ≤ w4.heap.size := by simp; omega
              have HLO1 : Hid (w.heap.size + 1 ≤ (w.alloc (.cells #[.int .i64 kind, .int .i64 n, .string s, .slice aK KN cK, .slice aI KM cI] 78)).heap.size) := by rw [Hid]; simp
              generalize (w.alloc (.cells #[.int .i64 kind, .int .i64 n, .string s, .slice aK KN cK, .slice aI KM cI] 78)).heap.size = LO1 at HRW4 hLB HLO1
              clear hl1 hin hst hnm hk5 hn0 hs0 hks0 hpl hv
              go_wp2_with (at_builtin; refine wpList_append_own_at _ rfl _ _ 40 rfl LO1 24 iR (.slice none 0 0) 1 24 Try.underlying40 hiR hzR hsR hyR rfl (by decide) _ _ _ rfl (HRW4.out.alloc _) ⟨w4.heap.size, 0, none⟩ 1 1 [.slice az NZ cz] rfl rfl ?e1 ?e2 ?e3 ?e4 ?e5 ?_)
              case e1 => exact cell_one_new _ _ _
              case e2 => intro u hu; simp at hu; subst hu; rfl
              case e3 => unfold maxLen; omega
              case e4 => omega
              case e5 => simp; omega
              intro r5 w5 hown5 hgr5 _ hor5
              have HO5 := hideIt hown5
              have HGR5 := hideIt hgr5
              obtain ⟨a5, c5, e5⟩ := own_slice hown5
              subst e5
              have HB5 : Hid (Below w.heap.size w w5) := ((HB4.out.trans (HAL.out.mono HB4.out.size)).grown hgr5 (by have := HB4.out.size; simp; omega) (fun q hq => by have := (HRW4.out.lt q hq).1; have := HLO1.out; omega))
              have z5 := hgr5.size
              have k5 : w5.cell? ⟨w.heap.size, 0, none⟩ = some (.int .i64 kind) := (cellR (hgr5.block w.heap.size (by simp; omega) (fun e => by have := (HRW4.out.lt _ e.symm).1; have := HLO1.out; omega))).trans ((below_cell HAL.out (by omega)).trans k0)
              have HNS5 : Hid (∀ i, i < KM → NodesAt w5.heap.size w5 (rs i) (layT f (kidT kids i) 0)) := fun i hi => by
                have h1 := (HRW.out.nest i hi).below (H24.out.trans (HAL.out.mono (by omega)))
                rw [HPL.out i (by rw [HKM.out]; exact hi)] at h1
                have hfi := HFI.out i (by rw [HKM.out]; exact hi)
                exact (nest_grown h1 (HRW4.out.alloc _) HGR5.out).nodes (Nat.le_trans hfi.1.1 (by omega)) hfi.2
              have HZ5 : Hid (NodesAt w5.heap.size w5 (.slice az NZ cz) wz) := (HZN.out.below (HB5.out.mono hB)).wide (by have := HB5.out.size; omega)
              have HROW5 : Hid (RowsAt w5.heap.size w5 (.slice a5 (KM + 1) c5) (KM + 1) (fun i => layT f (kidT (kids.insertIdx kids.length tu) i) 0)) := by
                refine rows_of HO5.out (by omega) (fun i hi => ?_)
                rw [kid_ins (Nat.le_refl _), HKM.out]
                by_cases e : i < KM
                · rw [if_pos e]
                  exact ⟨rs i, by rw [List.getElem?_append_left (by simpa using e)]; simp [e], HNS5.out i e⟩
                · obtain rfl : i = KM := by omega
                  rw [if_neg e, if_pos rfl, HLU.out]
                  exact ⟨_, by rw [List.getElem?_append_right (by simp)]; simp, HZ5.out⟩
              have HKS5 : Hid (StrsAt w5.heap.size w5 (.slice aV KN cV) []) := by
                have e : KN = 0 := by rw [← HKN.out, HK0.out]; rfl
                rw [Hid, e]
                exact ⟨by simp, fun i hi => absurd hi (by simp), aV, cV, rfl, fun hp => absurd hp (by simp)⟩
              have HMK : Hid (Calls Try.prog 75 #[.int .i64 kind, .slice aV KN cV, .slice a5 (KM + 1) c5] w5 fun e w' => ∃ r KV IV, e = .returned r ∧ Nest w5.heap.size w' r (layT (f + 1) v 0) KV IV ∧ Below w5.heap.size w5 w') := by
                have h1 := HLV.out
                rw [HV.out] at h1 ⊢
                exact make_laid h1.1 h1.2 HKS5.out (by rw [ins_len (Nat.le_refl _), HKM.out]) HROW5.out
              have z5l := HB5.out.size
              clear hown5 hgr5 hor5 k0
              go_wp2_with fail
              refine HMK.out.mono ?_
              rintro e w7 ⟨r7, KV7, IV7, rfl, hn7, hb7⟩
              have HN7 := hideIt (hn7.low z5l)
              have HB7 := hideIt (HB5.out.trans (hb7.mono z5l))
              obtain ⟨a7, c7, e7⟩ := own_slice hn7.row
              obtain ⟨M7, hM7⟩ : ∃ M7, (layT (f + 1) v 0).length = M7 := ⟨_, rfl⟩
              rw [hM7] at e7
              subst e7
              clear hn7 hb7 hM7
              go_wp2_with fail
              go_ret2
              exact ⟨_, KV7, IV7, by rw [HUN.out]; rfl, by rw [HUN.out]; exact HN7.out, HB7.out⟩
            · have h6' : (kind == 6) = true := by simp; omega
              rw [hnm] at q0
              obtain ⟨p, hp⟩ : ∃ p, posK keys x.key = p := ⟨_, rfl⟩
              have hpl : p ≤ keys.length := by rw [← hp]; exact (posK_spec (l := keys) x.key).1
              have HPL2 := hideIt hpl
              have HSO := hideIt (sort_new hri hno)
              rw [hp] at hv HSO
              have HV : Hid (v = .mk 6 0 ByteArray.empty (keys.insertIdx p x.key) (kids.insertIdx p tu)) := by rw [Hid, hv, hn0, hs0, hk6]
              have HKK : Hid (KN = KM) := by rw [Hid, ← HKN.out, ← HKM.out]; exact hkk
              have HAL : Hid (Below w4.heap.size w4 (w4.alloc (.cells #[.string x.key] 9))) := (Below.refl _ _).alloc (Nat.le_refl _) _
              have HLO1 : Hid (w.heap.size + 1 ≤ (w.alloc (.cells #[.int .i64 kind, .int .i64 n, .string s, .slice aK KN cK, .slice aI KM cI] 78)).heap.size ∧ (w.alloc (.cells #[.int .i64 kind, .int .i64 n, .string s, .slice aK KN cK, .slice aI KM cI] 78)).heap.size ≤ w2.heap.size) := by rw [Hid]; simp; omega
              have HRL := hideIt HRW.out.row
              generalize (w.alloc (.cells #[.int .i64 kind, .int .i64 n, .string s, .slice aK KN cK, .slice aI KM cI] 78)).heap.size = LO1 at HRL HLO1
              clear hl1 hin hst hnm hk6 hn0 hs0 hkk hno hri hv hp hpl HRW4
              go_wp2_with (at_builtin; refine wpList_append_own_at _ rfl _ _ 75 rfl w2.heap.size 9 i1 (.string ByteArray.empty) 1 16 Try.underlying75 hi1 hz1 hs1 hy1 rfl (by decide) _ _ _ rfl (HK4.out.alloc _) ⟨w4.heap.size, 0, none⟩ 1 1 [.string x.key] rfl rfl ?g1 ?g2 ?g3 ?g4 ?g5 ?_)
              case g1 => exact cell_one_new _ _ _
              case g2 => intro u hu; simp at hu; subst hu; rfl
              case g3 => unfold maxLen; omega
              case g4 => omega
              case g5 => simp; omega
              intro r5 w5 hown5 hgr5 _ hor5
              have HO5 := hideIt hown5
              have z5 : w4.heap.size + 1 ≤ w5.heap.size := by simpa using hgr5.size
              obtain ⟨a5, c5, e5⟩ := own_slice hown5
              subst e5
              have H25 : Hid (Below w2.heap.size w2 w5) := (H24.out.trans (HAL.out.mono (by omega))).grown hgr5 (by simp; omega) (fun q hq => (HK4.out.lt q hq).1)
              have HB5 : Hid (Below w.heap.size w w5) := HB2.out.trans (H25.out.mono (by omega))
              have HRW5 : Hid (w5.ownsRow LO1 24 1 (.slice aL KM cL) KM ((List.range KM).map rs)) := own_below HRL.out H25.out (fun q hq => (HRL.out.lt q hq).2)
              have HAL5 : Hid (Below w5.heap.size w5 (w5.alloc (.cells #[.slice az NZ cz] 24))) := (Below.refl _ _).alloc (Nat.le_refl _) _
              have hL5 : LO1 ≤ w5.heap.size := by have := HLO1.out.2; omega
              clear hown5 hgr5 hor5 k0 q0 q1 q2
              go_wp2_with (at_builtin; refine wpList_append_own_at _ rfl _ _ 40 rfl LO1 24 iR (.slice none 0 0) 1 24 Try.underlying40 hiR hzR hsR hyR rfl (by decide) _ _ _ rfl (HRW5.out.alloc _) ⟨w5.heap.size, 0, none⟩ 1 1 [.slice az NZ cz] rfl rfl ?i1 ?i2 ?i3 ?i4 ?i5 ?_)
              case i1 => exact cell_one_new _ _ _
              case i2 => intro u hu; simp at hu; subst hu; rfl
              case i3 => unfold maxLen; omega
              case i4 => omega
              case i5 => simp; omega
              intro r6 w6 hown6 hgr6 _ hor6
              have HO6 := hideIt hown6
              have HGR6 := hideIt hgr6
              obtain ⟨a6, c6, e6⟩ := own_slice hown6
              subst e6
              have z6 : w5.heap.size + 1 ≤ w6.heap.size := by simpa using hgr6.size
              have HB6 : Hid (Below w.heap.size w w6) := (HB5.out.trans (HAL5.out.mono HB5.out.size)).grown hgr6 (by have := HB5.out.size; simp; omega) (fun q hq => by have := (HRW5.out.lt q hq).1; have := HLO1.out; omega)
              have HNS6 : Hid (∀ i, i < KM → NodesAt w6.heap.size w6 (rs i) (layT f (kidT kids i) 0)) := fun i hi => by
                have h1 := (HRW.out.nest i hi).below (H25.out.trans (HAL5.out.mono (by omega)))
                rw [HPL.out i (by rw [HKM.out]; exact hi)] at h1
                have hfi := HFI.out i (by rw [HKM.out]; exact hi)
                exact (nest_grown h1 (HRW5.out.alloc _) HGR6.out).nodes (Nat.le_trans hfi.1.1 (by omega)) hfi.2
              have HZ6 : Hid (NodesAt w6.heap.size w6 (.slice az NZ cz) wz) := (HZN.out.below (HB6.out.mono hB)).wide (by have := HB6.out.size; omega)
              have HK6 : Hid (StrsAt w6.heap.size w6 (.slice a5 (KN + 1) c5) (keys ++ [x.key])) := by
                have h1 := (HO5.out.alloc (.cells #[.slice az NZ cz] 24)).kept HGR6.out (own_apart (HO5.out.alloc (.cells #[.slice az NZ cz] 24)) (HRW5.out.alloc _) (by decide))
                have e1 : (keys ++ [x.key]).map Value.string = keys.map Value.string ++ [.string x.key] := by simp
                have e2 : (keys ++ [x.key]).length = KN + 1 := by simp [HKN.out]
                rw [← e1, ← e2] at h1
                have h2 := own_strs h1 (by rw [e2]; omega) (fun i hi => ?_)
                · rw [e2] at h2; exact h2
                · rw [e2] at hi
                  by_cases e : i < keys.length
                  · rw [key_pre e]; exact HNI.out.keys.2.1 i e
                  · obtain rfl : i = keys.length := by have := HKN.out; omega
                    rw [key_end]; have := hfx.1; omega
              have HC6 : Hid (CellsAt w6.heap.size w6 (.slice a6 (KM + 1) c6) (keys ++ [x.key]).length (fun i => if i < KM then rs i else .slice az NZ cz)) := by
                have e2 : (keys ++ [x.key]).length = KM + 1 := by simp [HKN.out, HKK.out]
                rw [Hid, e2]
                refine ⟨a6, c6, rfl, fun i hi => ?_, fun hp => ?_⟩
                · dsimp only
                  by_cases e : i < KM
                  · rw [if_pos e]
                    obtain ⟨a, c, e3⟩ := own_slice (HRW.out.nest i e).row
                    exact ⟨a, _, c, e3⟩
                  · rw [if_neg e]; exact ⟨_, _, _, rfl⟩
                · obtain ⟨gg, cap, e3, _, hg⟩ := HO6.out.form hp
                  simp only [Value.slice.injEq] at e3
                  obtain ⟨rfl, _, rfl⟩ := e3
                  refine ⟨gg, 0, rfl, hg, fun i hi => ?_⟩
                  rw [Nat.zero_add, HO6.out.cellAt i (by omega)]
                  dsimp only
                  by_cases e : i < KM
                  · rw [if_pos e, List.getElem?_append_left (by simpa using e)]; simp [e]
                  · obtain rfl : i = KM := by omega
                    rw [if_neg e, List.getElem?_append_right (by simp)]; simp
              have HSC := hideIt (l1Sorted_any w6.heap.size (.slice a5 (KN + 1) c5) (.slice a6 (KM + 1) c6) (keys ++ [x.key]) (fun i => if i < KM then rs i else .slice az NZ cz) w6 HK6.out HC6.out (Nat.le_refl _) (by simp [HKN.out]; omega))
              have HSO2 : Hid (sortIn (keys ++ [x.key]) (keys ++ [x.key]).length = some (keys.insertIdx p x.key, (List.range KM).insertIdx p KM)) := by
                have h1 := HSO.out
                have e2 : (keys ++ [x.key]).length = keys.length + 1 := by simp
                rw [Hid, e2, h1, HKN.out, HKK.out]
              clear hown6 hgr6 hor6
              go_wp2_with fail
              refine HSC.out.mono ?_
              rintro e w7 ⟨hs7, hb7⟩
              rw [HSO2.out] at hs7
              obtain ⟨nv, lv, rfl, hn7, hl7⟩ := hs7
              have z7 := hb7.size
              have HB7 := hideIt (HB6.out.trans (hb7.mono HB6.out.size))
              have e1 : (keys.insertIdx p x.key).length = KM + 1 := by rw [ins_len HPL2.out, HKN.out, HKK.out]
              have e2 : ((List.range KM).insertIdx p KM).length = KM + 1 := by rw [ins_len (by rw [List.length_range, ← HKK.out, ← HKN.out]; exact HPL2.out), List.length_range]
              have HKS7 : Hid (StrsAt w7.heap.size w7 nv (keys.insertIdx p x.key)) := by
                refine own_strs hn7 (by rw [e1]; omega) (fun i hi => ?_)
                rw [e1] at hi
                rw [key_ins HPL2.out]
                have := HKN.out
                have := HKK.out
                have := HPL2.out
                split
                · exact HNI.out.keys.2.1 i (by show i < keys.length; omega)
                · split
                  · have := hfx.1; omega
                  · exact HNI.out.keys.2.1 (i - 1) (by show i - 1 < keys.length; omega)
              rw [e2] at hl7
              have HROW7 : Hid (RowsAt w7.heap.size w7 lv (KM + 1) (fun i => layT f (kidT (kids.insertIdx p tu) i) 0)) := by
                have hpk : p ≤ KM := by rw [← HKK.out, ← HKN.out]; exact HPL2.out
                refine rows_of hl7 (by omega) (fun i hi => ?_)
                rw [List.getElem?_map, range_ins hpk hi, kid_ins (by rw [HKM.out]; exact hpk)]
                by_cases c1 : i < p
                · rw [if_pos c1, if_pos c1]
                  exact ⟨rs i, by simp; omega, ((HNS6.out i (by omega)).below hb7).wide z7⟩
                · rw [if_neg c1, if_neg c1]
                  by_cases c2 : i = p
                  · rw [if_pos c2, if_pos c2, HLU.out]
                    exact ⟨.slice az NZ cz, by simp, (HZ6.out.below hb7).wide z7⟩
                  · rw [if_neg c2, if_neg c2]
                    exact ⟨rs (i - 1), by simp; omega, ((HNS6.out (i - 1) (by omega)).below hb7).wide z7⟩
              have HMK : Hid (Calls Try.prog 75 #[.int .i64 6, nv, lv] w7 fun e w' => ∃ r KV IV, e = .returned r ∧ Nest w7.heap.size w' r (layT (f + 1) v 0) KV IV ∧ Below w7.heap.size w7 w') := by
                have h1 := HLV.out
                rw [HV.out] at h1 ⊢
                exact make_laid h1.1 h1.2 HKS7.out (by rw [ins_len (by rw [HKM.out, ← HKK.out, ← HKN.out]; exact HPL2.out), HKM.out]) HROW7.out
              have z7l := HB7.out.size
              obtain ⟨an, cn, en⟩ := own_slice hn7
              obtain ⟨al, cl, el⟩ := own_slice hl7
              rw [e1] at en
              subst en el
              clear hn7 hl7 hb7 e1 e2
              go_wp2_with fail
              refine HMK.out.mono ?_
              rintro e w8 ⟨r8, KV8, IV8, rfl, hn8, hb8⟩
              have HN8 := hideIt (hn8.low z7l)
              have HB8 := hideIt (HB7.out.trans (hb8.mono z7l))
              obtain ⟨a8, c8, e8⟩ := own_slice hn8.row
              obtain ⟨M8, hM8⟩ : ∃ M8, (layT (f + 1) v 0).length = M8 := ⟨_, rfl⟩
              rw [hM8] at e8
              subst e8
              clear hn8 hb8 hM8
              go_wp2_with fail
              go_ret2
              exact ⟨_, KV8, IV8, by rw [HUN.out]; rfl, by rw [HUN.out]; exact HN8.out, HB8.out⟩
        · have hl2 : ((N : Int) == 1) = false := by simp; omega
          have HUN : Hid (RR = none) := by
            rw [Hid, ← HRR.out]
            cases hps : ps with
            | nil => have := HNN.out; rw [hps] at this; simp at this; omega
            | cons y qs => rw [updT, hst]
          clear hl1
          go_wp2_with fail
          go_ret2
          exact ⟨_, fun _ => undef, fun _ => undef, by rw [HUN.out]; rfl, by rw [HUN.out]; exact Nest.nil _ _ _ _, HB4.out⟩
      | some k =>
        have hkr : kidR (some k) = (k : Int) := rfl
        have hkl : k < kids.length := stepT_lt HG.out h0x hst
        have hkM : k < KM := by rw [← HKM.out]; exact hkl
        obtain ⟨gL, cLx, eL, _, hgLl⟩ := HRW.out.row.form (by omega)
        simp only [Value.slice.injEq] at eL
        obtain ⟨rfl, _, rfl⟩ := eL
        obtain ⟨hLc, hLcap, hLmax, _, _⟩ := own_full HRW.out.row
        have HLc := hideIt hLc
        clear hLc
        have HNDS : Hid (∀ W, Below w4.heap.size w4 W → ∀ i, i < KM → NodesAt W.heap.size W (rs i) (layT f (kidT kids i) 0)) := fun W hb i hi => by
          have hb2 : Below w2.heap.size w2 W := H23.out.trans ((H34.out.trans (hb.mono z4)).mono z3)
          have hfi := HFI.out i (by rw [HKM.out]; exact hi)
          have := (HRW.out.nest i hi).nodes (by rw [HPL.out i (by rw [HKM.out]; exact hi)]; exact Nat.le_trans hfi.1.1 (by omega)) (by rw [HPL.out i (by rw [HKM.out]; exact hi)]; exact hfi.2)
          rw [HPL.out i (by rw [HKM.out]; exact hi)] at this
          exact (this.below hb2).wide hb2.size
        obtain ⟨A5, hA5⟩ : ∃ A : Addr, (if cu = 1 then some (⟨bu, ou, none⟩ : Addr) else some ⟨bu, ou + 3, none⟩) = some A := by split <;> exact ⟨_, rfl⟩
        obtain ⟨aX, cX, eX⟩ := own_slice (HRW.out.nest k hkM).row
        obtain ⟨NX, hNX⟩ : ∃ NX, (PL vs k).length = NX := ⟨_, rfl⟩
        rw [hNX] at eX
        have lx : w4.cell? ⟨gL, k, none⟩ = some (.slice aX NX cX) := by rw [below_cell (H23.out.trans (H34.out.mono z3)) (by omega), (HLc.out k hkM).1, eX]
        have HB4D : Hid (Below w4.heap.size w4 w4.drew) := (Below.refl _ _).drew
        have HPSN : Hid (ps.length = N - 1) := by have := HNN.out; rw [Hid]; omega
        obtain ⟨RK, hRK⟩ : ∃ RK, (if N = 1 then some tu else updT (layG tu) ps (kidT kids k)) = RK := ⟨_, rfl⟩
        have HIH : Hid (Calls Try.prog 44 #[.slice aX NX cX, .slice (some A5) (N - 1) (cu - 1), .slice az NZ cz, .bool false] w4.drew fun e w' => ∃ a5 n5 c5, e = .returned (.tuple #[.slice a5 n5 c5, .bool RK.isSome]) ∧ ((∃ KV IV, Nest w4.drew.heap.size w' (.slice a5 n5 c5) (upN f RK) KV IV) ∨ (RK = some tu ∧ Value.slice a5 n5 c5 = .slice az NZ cz)) ∧ Below w4.drew.heap.size w4.drew w') := by
          by_cases hl1 : N = 1
          · rw [if_pos hl1] at hRK
            rw [hl1, ← hRK]
            refine (l6With_nil _ _ _ _ _ az NZ cz rfl w4.drew).mono ?_
            rintro e w' ⟨rfl, rfl⟩
            exact ⟨az, NZ, cz, rfl, .inr ⟨rfl, rfl⟩, Below.refl _ _⟩
          · rw [if_neg hl1] at hRK
            have hcu1 : ¬ cu = 1 := by omega
            have hsu : StepsAt w4.drew.heap.size w4.drew (.slice (some A5) ps.length (cu - 1)) ps := by
              have h1 : StepsAt w4.drew.heap.size w4.drew (.slice (some ⟨bu, ou, none⟩) N cu) (x :: ps) := (HU2.out.below ((HB4.out.trans (HB4D.out.mono (by omega))).mono hB)).wide (by have := HB4D.out.size; omega)
              refine steps_tail h1 HNN.out (fun _ => ?_)
              rw [if_neg hcu1, Option.some.injEq] at hA5
              exact hA5.symm
            have hzz : NodesAt w4.drew.heap.size w4.drew (.slice az NZ cz) wz := (HZN.out.below ((HB4.out.trans (HB4D.out.mono (by omega))).mono hB)).wide (by have := HB4D.out.size; omega)
            have h := ih f (kidT kids k) w4.drew.heap.size (rs k) (.slice az NZ cz) (some A5) (cu - 1) w4.drew (fun e => by have := HPSN.out; rw [e] at this; simp at this; omega) (HG.out.2 k hkl) (HOKP.out k hkl) (HNDS.out w4.drew HB4D.out k hkM) hzz hsu (by rw [HPSN.out]; omega) (fun y hy => HSB.out y (by simp [hy])) (by rw [HPSN.out]; omega) (by have := HFU.out; omega) (Nat.le_refl _)
            rw [hRK, HPSN.out, eX] at h
            refine h.mono ?_
            rintro e w' ⟨r, KV, IV, rfl, hn, hb⟩
            obtain ⟨a5, c5, e5⟩ := own_slice hn.row
            subst e5
            exact ⟨a5, _, c5, rfl, .inl ⟨KV, IV, hn⟩, hb⟩
        have HRRK : Hid (RR = RK.map (fun u => putKid k u (.mk kind n s keys kids))) := by
          rw [Hid, ← HRR.out, ← hRK]
          cases hps : ps with
          | nil =>
            have := HNN.out
            rw [hps] at this
            simp at this
            rw [if_pos (by omega)]
            show layG tu _ x = _
            unfold layG
            rw [hst]
            rfl
          | cons y qs =>
            have := HNN.out
            rw [hps] at this
            simp at this
            rw [if_neg (by omega), updT, hst]
            show (match updT (layG tu) (y :: qs) (kidT kids k) with | none => none | some u => some (putKid k u (.mk kind n s keys kids))) = _
            cases updT (layG tu) (y :: qs) (kidT kids k) <;> rfl
        have HKG : Hid (∀ u, RK = some u → goodT f u ∧ (layT f u 0).length ≤ 160) := fun u e => by
          rw [← hRK] at e
          split at e
          · simp only [Option.some.injEq] at e
            subst e
            exact ⟨HGU.out, by rw [HLU.out]; omega⟩
          · exact HLENK.out k u hkl e
        have HST := hideIt hst
        have HKLT := hideIt hkl
        have hkn : (k : Int) < (KM : Int) := by omega
        obtain ⟨LB, hLB⟩ : ∃ LB, ((N : Int) == 1) = LB := ⟨_, rfl⟩
        clear hRK hNX hst hkl
        cases LB
        all_goals
          go_wp2_with fail
          refine wp_region_any (by kernel_rfl) ?_
          change wpAny _ _ _ _ _ _ _ (World.drew _)
          refine wpAny_take (i := 0) (v := .slice (some ⟨gL, 0, none⟩) KM cL) rfl (by kernel_rfl) (by kernel_rfl) (by kernel_rfl) (fun _ _ _ h => h) (Or.inl ⟨by kernel_rfl, fun w => ?_⟩) ?_
          · go_simp
          refine wpAny_take (i := 1) (v := .int .i64 (k : Int)) rfl (by kernel_rfl) (by kernel_rfl) (by kernel_rfl) (fun _ _ _ h => h) (Or.inl ⟨by kernel_rfl, fun w => ?_⟩) ?_
          · go_simp
          refine wpAny_take (i := 2) (v := .pointer (some ⟨gL, k, none⟩)) rfl (by kernel_rfl) (by kernel_rfl) (by kernel_rfl) (fun _ _ _ h => h) (Or.inl ⟨by kernel_rfl, fun w => ?_⟩) ?_
          · go_simp
          refine wpAny_take (i := 4) (v := .slice (some ⟨bu, ou, none⟩) N cu) rfl (by kernel_rfl) (by kernel_rfl) (by kernel_rfl) (fun _ _ _ h => h) (Or.inl ⟨by kernel_rfl, fun w => ?_⟩) ?_
          · go_simp
          refine wpAny_take (i := 5) (v := .slice (some A5) (N - 1) (cu - 1)) rfl (by kernel_rfl) (by kernel_rfl) (by kernel_rfl) (fun _ _ _ h => h) (Or.inl ⟨by kernel_rfl, fun w => ?_⟩) ?_
          · go_simp <;> (intro hh; omega)
          refine wpAny_take (i := 6) (v := .slice az NZ cz) rfl (by kernel_rfl) (by kernel_rfl) (by kernel_rfl) (fun _ _ _ h => h) (Or.inl ⟨by kernel_rfl, fun w => ?_⟩) ?_
          · go_simp
          refine wpAny_take (i := 7) (v := .bool false) rfl (by kernel_rfl) (by kernel_rfl) (by kernel_rfl) (fun _ _ _ h => h) (Or.inl ⟨by kernel_rfl, fun w => ?_⟩) ?_
          · go_simp
          go_simp
          refine wpAny_ready (rs := [3]) (by kernel_rfl) (by simp) ?_
          refine AllReady.cons rfl (fun K hK => ?_) AllReady.nil
          go_simp
          refine hK _ _ ?_
          clear hK K
          refine wpAny_ready (rs := [8]) (by kernel_rfl) (by simp) ?_
          refine AllReady.cons rfl (fun K hK => ?_) AllReady.nil
          refine step_call4 (by kernel_rfl) 44 (.tmp 83) (.tmp 85) (.tmp 86) (.tmp 87) 24 25 24 4 (by kernel_rfl) (.slice aX NX cX) (.slice (some A5) (N - 1) (cu - 1)) (.slice az NZ cz) (.bool false) (by kernel_rfl) (by kernel_rfl) (by kernel_rfl) (by kernel_rfl) (call_with6 _ _ _ _) HIH.out ?_
          rintro e w5 ⟨a5, n5, c5, rfl, hn5, hb5⟩
          have HN5 := hideIt hn5
          have H45 : Hid (Below w4.heap.size w4 w5) := HB4D.out.trans (hb5.mono HB4D.out.size)
          have HB5 := hideIt (HB4.out.trans (H45.out.mono (by omega)))
          have z5 := H45.out.size
          obtain ⟨FS, hFS⟩ : ∃ FS, RK.isSome = FS := ⟨_, rfl⟩
          rw [hFS]
          refine ⟨_, rfl, ?_⟩
          refine hK _ _ ?_
          clear hK K hn5 hb5
          refine wpAny_take (i := 9) (v := .tuple #[.slice a5 n5 c5, .bool FS]) rfl (by kernel_rfl) (by kernel_rfl) (by kernel_rfl) (fun _ _ _ h => h) (Or.inl ⟨by kernel_rfl, fun w => ?_⟩) ?_
          · go_simp
          refine wpAny_take (i := 10) (v := .slice a5 n5 c5) rfl (by kernel_rfl) (by kernel_rfl) (by kernel_rfl) (fun _ _ _ h => h) (Or.inl ⟨by kernel_rfl, fun w => ?_⟩) ?_
          · go_simp
          refine wpAny_take (i := 11) (v := .bool FS) rfl (by kernel_rfl) (by kernel_rfl) (by kernel_rfl) (fun _ _ _ h => h) (Or.inl ⟨by kernel_rfl, fun w => ?_⟩) ?_
          · go_simp
          refine wpAny_take (i := 12) (v := .slice a5 n5 c5) rfl (by kernel_rfl) (by kernel_rfl) (by kernel_rfl) (fun _ _ _ h => h) (Or.inl ⟨by kernel_rfl, fun w => ?_⟩) ?_
          · go_simp
          refine wpAny_take (i := 13) (v := .bool FS) rfl (by kernel_rfl) (by kernel_rfl) (by kernel_rfl) (fun _ _ _ h => h) (Or.inl ⟨by kernel_rfl, fun w => ?_⟩) ?_
          · go_simp
          go_simp
          refine wpAny_done (by kernel_rfl) ?_ _
          cases hRKc : RK with
          | none =>
            have hFS0 : FS = false := by rw [← hFS, hRKc]; rfl
            have HUN : Hid (RR = none) := by rw [Hid, HRRK.out, hRKc]; rfl
            subst hFS0
            clear hFS hRKc
            go_wp2_with fail
            go_ret2
            exact ⟨_, fun _ => undef, fun _ => undef, by rw [HUN.out]; rfl, by rw [HUN.out]; exact Nest.nil _ _ _ _, HB5.out⟩
          | some u =>
            have hFS0 : FS = true := by rw [← hFS, hRKc]; rfl
            have HUN : Hid (RR = some (putKid k u (.mk kind n s keys kids))) := by rw [Hid, HRRK.out, hRKc]; rfl
            have HUG := hideIt (HKG.out u hRKc)
            have HLV := hideIt (HLEN.out _ HUN.out)
            have HN5u : Hid ((∃ KV IV, Nest w4.drew.heap.size w5 (.slice a5 n5 c5) (layT f u 0) KV IV) ∨ (layT f u 0 = wz ∧ Value.slice a5 n5 c5 = .slice az NZ cz)) := by
              rcases HN5.out with ⟨KV, IV, h⟩ | ⟨e1, e2⟩
              · rw [hRKc] at h; exact .inl ⟨KV, IV, h⟩
              · rw [hRKc] at e1; cases e1; exact .inr ⟨HLU.out, e2⟩
            subst hFS0
            have HRW5 : Hid (w5.ownsRow (w.alloc (.cells #[.int .i64 kind, .int .i64 n, .string s, .slice aK KN cK, .slice aI KM cI] 78)).heap.size 24 1 (.slice (some ⟨gL, 0, none⟩) KM cL) KM ((List.range KM).map rs)) := own_below HRW.out.row (H23.out.trans ((H34.out.trans (H45.out.mono z4)).mono z3)) (fun q hq => (HRW.out.row.lt q hq).2)
            have hfull5 := own_full HRW5.out
            have l5 := (hfull5.1 k hkM).1
            have f5 := (hfull5.1 k hkM).2
            have HNS5 : Hid (∀ i, i < KM → Nest (loR i) w5 (rs i) (layT f (kidT kids i) 0) (KV i) (IV i)) := fun i hi => by
              have h1 := (HRW.out.nest i hi).below (H23.out.trans ((H34.out.trans (H45.out.mono z4)).mono z3))
              rw [HPL.out i (by rw [HKM.out]; exact hi)] at h1
              exact h1
            obtain ⟨W6, hW6⟩ : ∃ W6, w5.setCell ⟨gL, k, none⟩ (.slice a5 n5 c5) = W6 := ⟨_, rfl⟩
            have HST6 : Hid (∀ c, c ≠ gL → W6.heap[c]? = w5.heap[c]?) := fun c hc => by rw [← hW6]; exact Below.heap_setCell w5 _ _ c hc
            have HZ6 : Hid (W6.heap.size = w5.heap.size) := by rw [Hid, ← hW6]; simp
            have hgw : w.heap.size + 1 ≤ gL := HRWLO.out gL (.inr trivial) rfl
            have HB6 : Hid (Below w.heap.size w W6) := by
              have h5 := HB5.out
              refine ⟨?_, ?_, ?_, by rw [HZ6.out]; exact h5.size, fun c hc => (HST6.out c (by omega)).trans (h5.block c hc)⟩
              · rw [← hW6]; exact h5.os
              · rw [← hW6]; exact h5.tape
              · rw [← hW6]; exact h5.output
            have HNR6 : Hid (NodesAt W6.heap.size W6 (.slice a5 n5 c5) (layT f u 0)) := by
              rcases HN5u.out with ⟨KV0, IV0, h⟩ | ⟨e1, e2⟩
              · rw [Hid, ← hW6]
                exact (nest_set h HRW5.out).nodes (by have := HUG.out.2; omega) (good_fits HUG.out.1 (by have := HUG.out.2; omega))
              · rw [Hid, e1, e2]
                exact (HZN.out.below (HB6.out.mono hB)).wide (by have := HB6.out.size; omega)
            have HRW6 : Hid (RowsAt W6.heap.size W6 (.slice (some ⟨gL, 0, none⟩) KM cL) KM (fun i => layT f (kidT (kids.set k u) i) 0)) := by
              have h1 := HNR6.out
              rw [← hW6] at h1
              have h2 := rows_setN HRW5.out hKM80 hkM HNS5.out (fun i hi => HFI.out i (by rw [HKM.out]; exact hi)) h1
              rw [hW6] at h2
              have e1 : (fun i => layT f (kidT (kids.set k u) i) 0) = fun i => if i = k then layT f u 0 else layT f (kidT kids i) 0 := by funext i; rw [kid_set HKLT.out]; split <;> rfl
              rw [Hid, e1]
              exact h2
            have b6 : W6.cell? ⟨w.heap.size, 0, none⟩ = some (.int .i64 kind) := by rw [cellR (HST6.out _ (by omega))]; exact HY0.out w5 H45.out
            have HKS6 : Hid (StrsAt W6.heap.size W6 (.slice aV KN cV) keys) := by
              have h1 := HK3.out
              rw [← HKN.out] at h1
              have h2 := own_strs h1 HNI.out.keys.1 HNI.out.keys.2.1
              rw [HKN.out] at h2
              have h3 := (h2.below (w' := w5) (H34.out.trans (H45.out.mono z4))).wide (B' := W6.heap.size) (by have := HZ6.out; omega)
              obtain ⟨q1, q2, ak, ck, eq, q3⟩ := h3
              refine ⟨q1, q2, ak, ck, eq, fun hp => ?_⟩
              obtain ⟨bb, oo, rfl, hbb, hcc⟩ := q3 hp
              refine ⟨bb, oo, rfl, hbb, fun i hi => ?_⟩
              have hne : bb ≠ gL := by
                simp only [Value.slice.injEq] at eq
                rintro rfl
                rcases own_apart HK3.out (own_below HRW.out.row H23.out (fun q hq => (HRW.out.row.lt q hq).2)) (by decide) with e | e
                · rw [eq.1] at e; cases e
                · exact e (by rw [eq.1]; rfl)
              rw [cellR (HST6.out bb hne)]
              exact hcc i hi
            have HMK : Hid (Calls Try.prog 75 #[.int .i64 kind, .slice aV KN cV, .slice (some ⟨gL, 0, none⟩) KM cL] W6 fun e w' => ∃ r KV IV, e = .returned r ∧ Nest W6.heap.size w' r (layT (f + 1) (putKid k u (.mk kind n s keys kids)) 0) KV IV ∧ Below W6.heap.size W6 w') := by
              obtain ⟨hn0, hs0⟩ : n = 0 ∧ s = ByteArray.empty := by
                rcases step_kinds HG.out HST.out with ⟨_, q1, q2, _⟩ | ⟨_, q1, q2, _⟩
                · exact ⟨q1, q2⟩
                · exact ⟨q1, q2⟩
              have h1 := HLV.out
              rw [putKid, hn0, hs0] at h1 ⊢
              exact make_laid h1.1 h1.2 HKS6.out (by rw [List.length_set, HKM.out]) HRW6.out
            have z6l : w.heap.size ≤ W6.heap.size := HB6.out.size
            clear hFS hRKc hfull5 k0 q0 q1 q2
            go_wp2_with fail
            refine HMK.out.mono ?_
            rintro e w7 ⟨r7, KV7, IV7, rfl, hn7, hb7⟩
            have HN7 := hideIt (hn7.low z6l)
            have HB7 := hideIt (HB6.out.trans (hb7.mono z6l))
            obtain ⟨a7, c7, e7⟩ := own_slice hn7.row
            obtain ⟨M7, hM7⟩ : ∃ M7, (layT (f + 1) (putKid k u (.mk kind n s keys kids)) 0).length = M7 := ⟨_, rfl⟩
            rw [hM7] at e7
            subst e7
            clear hn7 hb7 hM7
            go_wp2_with fail
            go_ret2
            exact ⟨_, KV7, IV7, by rw [HUN.out]; rfl, by rw [HUN.out]; exact HN7.out, HB7.out⟩
end Go.Proofs.Ytpakfgonemiebaa
