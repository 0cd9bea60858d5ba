/-
  (*impl.treePart).follow: the part to which steps lead.
-/
import Derived.Test.YtpfnkpkcjefelaaFind
import Derived.Test.YtpfnkpkcjefelaaPsZ
import Derived.Test.YtpfnkpkcjefelaaVAt
namespace Go.Proofs.Ytpfnkpkcjefelaa
open Go.RowKit
set_option linter.unusedSimpArgs false
set_option linter.unusedVariables false

theorem own_strs_ks {base : Nat} {w : World} {v : Value} {l : List ByteArray} (h : w.ownsRow base 9 1 v l.length (l.map .string)) (h1 : l.length ≤ 1048576) (h2 : ∀ i, i < l.length → (keyAt l i).size ≤ 140737488355328) : StrsAt w.heap.size w v l := own_strs h (by omega) h2

/-- What find says of a part. -/
theorem find_any (B f : Nat) (kind n : Int) (s : ByteArray) (keys : List ByteArray) (kids : List VT) (lo hi p : Nat) (x : PS) (w : World) (h : PT B w (f + 1) (.mk kind n s keys kids) lo hi (.pointer (some ⟨p, 0, none⟩)))
    (h6 : kind = 6 → Rise keys ∧ keys.length ≤ 1048576 ∧ ∀ i, i < keys.length → (keyAt keys i).size ≤ 140737488355328) (hx : -9223372036854775808 ≤ x.pl ∧ x.pl ≤ 9223372036854775807) :
    Calls Try.prog 104 #[.pointer (some ⟨p, 0, none⟩), .agg #[.bool x.named, .string x.key, .int .i64 x.pl]] w fun e w' => e = .returned (.tuple #[.int .i64 (findR kind keys kids.length x).1, .bool (findR kind keys kids.length x).2]) ∧ Below w.heap.size w w' := by
  obtain ⟨sv, p', ks, it, ps, ls, hs, e, ht, hp⟩ := h
  obtain rfl : p = p' := by simpa using e
  have hlt := (hp.lt (Or.inl rfl)).2
  have c0 : w.cell? ⟨p, 0, none⟩ = some sv := by rw [hp.node.cellAt 0 (by omega)]; rfl
  have c1 : w.cell? ⟨p, 1, none⟩ = some ks := by rw [hp.node.cellAt 1 (by omega)]; rfl
  have c2 : w.cell? ⟨p, 2, none⟩ = some it := by rw [hp.node.cellAt 2 (by omega)]; rfl
  have no : ∀ k : Int, k ≠ 5 → k ≠ 6 → findR k keys kids.length x = (-1, false) := fun k h5 h6 => by unfold findR; rw [if_neg h5, if_neg (fun e => h6 e.1)]
  rcases ht with ⟨rfl, _, _, _, _, rfl⟩ | ⟨rfl, _, _, _, rfl⟩ | ⟨rfl, _, _, _, rfl⟩ | ⟨rfl, _, _, _, rfl⟩ | ⟨rfl, _, _, rfl, itv, rfl, hi⟩ | ⟨rfl, _, _, kv, itv, rfl, hs6, hi⟩
  · rw [no 1 (by omega) (by omega)]; exact find_null p _ ks it x w c0 hlt
  · rw [no 2 (by omega) (by omega)]; exact find_bool p _ ks it x w c0 hlt
  · rw [no 3 (by omega) (by omega)]; exact find_int p _ ks it x w c0 hlt
  · rw [no 4 (by omega) (by omega)]; exact find_text p _ ks it x w c0 hlt
  · obtain ⟨a, c, rfl⟩ := own_slice hp.kidsR
    exact find_list p kids.length _ a c x w c0 c2 hlt hi.1 hx
  · obtain ⟨g1, g2, g3⟩ := h6 rfl
    exact find_map p _ ks keys kids.length x w c0 c1 (own_strs_ks hp.keysR g2 g3) g1 g2 hlt

theorem tree_mk (vs : List VN) (f i : Nat) : treeOf vs (f + 1) i = .mk (nodeAt vs i).kind (nodeAt vs i).n (nodeAt vs i).s (nodeAt vs i).keys ((nodeAt vs i).kids.map fun k => treeOf vs f k.toNat) := rfl

/-- A node of kind 6 has keys that rise, as many as parts. -/
theorem node6 {vs : List VN} (hok : okB vs = true) {i : Nat} (hi : i < vs.length) (h6 : (nodeAt vs i).kind = 6) : Rise (nodeAt vs i).keys ∧ (nodeAt vs i).keys.length = (nodeAt vs i).kids.length ∧ (nodeAt vs i).keys.length ≤ 80 ∧ ∀ j, j < (nodeAt vs i).keys.length → (keyAt (nodeAt vs i).keys j).size ≤ 140737488355328 := by
  have hn := ((okB_parts hok).2.1 i hi).1
  have hk := keys_few hok i hi
  unfold nodeB namedB at hn
  simp [h6] at hn
  refine ⟨riseB_rise hn.2.2, hn.2.1, hk.2.2, fun j hj => ?_⟩
  have hr := hn.2.2
  unfold riseB at hr
  rw [List.all_eq_true] at hr
  have := hr j (List.mem_range.2 hj)
  unfold riseAt textB at this
  simp only [Bool.and_eq_true, decide_eq_true_eq] at this
  omega

/-- The node, if there is one, as the answer of follow. -/
def folPtr (o : Option Nat) (p : Nat) : Value := match o with
  | none => .pointer none
  | some _ => .pointer (some ⟨p, 0, none⟩)

set_option maxRecDepth 100000 in
set_option maxHeartbeats 3200000 in
theorem follow_any (B : Nat) (vs : List VN) (hok : okB vs = true) (f0 i0 lo0 hi0 p0 : Nat) (v : Value) (ps : List PS) (w : World) (h : PT B w f0 (treeOf vs f0 i0) lo0 hi0 (.pointer (some ⟨p0, 0, none⟩))) (hf : i0 < f0) (hi : i0 < vs.length) (hB : B ≤ w.heap.size) (hh : hi0 ≤ w.heap.size)
    (hv : StepsAt w.heap.size w v ps) (hst : ∀ k, k < ps.length → stepB (stepAt ps k) = true) :
    Calls Try.prog 75 #[.pointer (some ⟨p0, 0, none⟩), v] w fun e w' => ∃ p, e = .returned (.tuple #[folPtr (gotN vs i0 ps) p, .bool (gotN vs i0 ps).isSome]) ∧ (∀ q, gotN vs i0 ps = some q → q < vs.length ∧ ∃ f lo hi, q < f ∧ hi ≤ w'.heap.size ∧ PT B w' f (treeOf vs f q) lo hi (.pointer (some ⟨p, 0, none⟩))) ∧ Below w.heap.size w w' := by
  obtain ⟨hlen, hfit, a, cap, rfl, hcell⟩ := hv
  have HC := hideIt hcell
  have HF := hideIt hfit
  have HST := hideIt hst
  have HP0 := hideIt h
  have HOK := hideIt hok
  clear hcell hfit hst h hok
  go_enter Try.func75, Try.ntmps75
  go_wp2_with fail
  go_loopw [0, 12] (fun t i wr => ∃ (k q f lo hi p : Nat), k ≤ ps.length ∧ i = .int .i64 k ∧ t = .pointer (some ⟨p, 0, none⟩) ∧ gotN vs i0 (ps.take k) = some q ∧ q < vs.length ∧ q < f ∧ hi ≤ wr.heap.size ∧ PT B wr f (treeOf vs f q) lo hi (.pointer (some ⟨p, 0, none⟩)) ∧ Below w.heap.size w wr) (fun _ i _ => ps.length - (intOf i).toNat)
  case atStart => exact ⟨0, i0, f0, lo0, hi0, p0, Nat.zero_le _, rfl, rfl, rfl, hi, hf, hh, HP0.out, Below.refl _ _⟩
  case round =>
    obtain ⟨k, q, f, lo, hi', p, hk, rfl, rfl, hgot, hq, hqf, hhi, hpt, hbl⟩ := hrel
    have HG := hideIt hgot
    have HPT := hideIt hpt
    have zs := hbl.size
    clear hgot hpt HP0
    by_cases hlt : k < ps.length
    · obtain ⟨b, o, rfl, hbB, hc⟩ := HC.out (by omega)
      obtain ⟨hc0, hc1, hc2⟩ := hc k hlt
      have c0 := (below_cell hbl hbB).trans hc0
      have c1 := (below_cell hbl hbB).trans hc1
      have c2 := (below_cell hbl hbB).trans hc2
      have hfx := HF.out k hlt
      have hsx := HST.out k hlt
      have h0x : (stepAt ps k).named = true ∨ 0 ≤ (stepAt ps k).pl := by
        unfold stepB at hsx
        cases hnm : (stepAt ps k).named
        · right; simp [hnm] at hsx; omega
        · exact Or.inl rfl
      have HTS := hideIt (take_step hlt)
      have HNX : Hid (gotN vs i0 (ps.take (k + 1)) = match stepN (nodeAt vs q) (stepAt ps k) with | none => none | some j => some (intAt (nodeAt vs q).kids j).toNat) := by
        rw [Hid, HTS.out, gotN_append, HG.out]; rfl
      generalize stepAt ps k = x at *
      obtain ⟨g, rfl⟩ : ∃ g, f = g + 1 := ⟨f - 1, by omega⟩
      have hba : Below wr.heap.size wr (wr.alloc (.cells #[.bool x.named, .string x.key, .int .i64 x.pl] 49)) := (Below.refl _ _).alloc (Nat.le_refl _) _
      have HPA := hideIt (HPT.out.below hba (by omega) hhi)
      have HBA := hideIt hba
      clear hc hc0 hc1 hc2 hsx hba
      have HFI := hideIt (fun W (hW : PT B W (g + 1) (treeOf vs (g + 1) q) lo hi' (.pointer (some ⟨p, 0, none⟩))) => find_any B g _ _ _ _ _ lo hi' p x W (by rw [tree_mk] at hW; exact hW) (fun e => ⟨(node6 HOK.out hq e).1, by have := (node6 HOK.out hq e).2.2.1; omega, (node6 HOK.out hq e).2.2.2⟩) hfx.2)
      have HKL : Hid (((nodeAt vs q).kids.map fun k => treeOf vs g k.toNat).length = (nodeAt vs q).kids.length) := by simp [Hid]
      cases hsn : stepN (nodeAt vs q) x with
      | none =>
        have HFR : Hid ((findR (nodeAt vs q).kind (nodeAt vs q).keys ((nodeAt vs q).kids.map fun k => treeOf vs g k.toNat).length x).2 = false) := by rw [Hid, HKL.out]; exact findR_none hsn
        have HGN : Hid (gotN vs i0 ps = none) := gotN_none vs i0 (k := k + 1) (by rw [HNX.out, hsn])
        go_wp2_with fail
        refine (HFI.out _ HPA.out).mono ?_
        rintro e w1 ⟨rfl, hb1⟩
        rw [HFR.out]
        generalize (findR (nodeAt vs q).kind (nodeAt vs q).keys ((nodeAt vs q).kids.map fun k => treeOf vs g k.toNat).length x).1 = at1
        have HB1 : Hid (Below w.heap.size w w1) := (hbl.trans (HBA.out.mono zs)).trans (hb1.mono (by simp; omega))
        clear hb1
        go_wp2_with fail
        go_ret2
        exact ⟨0, by rw [HGN.out]; rfl, fun q' hq' => absurd (HGN.out.symm.trans hq') (by simp), HB1.out⟩
      | some j =>
        have hjl : j < (nodeAt vs q).kids.length := stepN_lt h0x (fun e => (node6 HOK.out hq e).2.1) hsn
        have HFR : Hid (findR (nodeAt vs q).kind (nodeAt vs q).keys ((nodeAt vs q).kids.map fun k => treeOf vs g k.toNat).length x = ((j : Int), true)) := by rw [Hid, HKL.out]; exact findR_some h0x hsn
        have hkin := kidsIn_get (keys_few HOK.out q hq).1 hjl
        obtain ⟨q2, hq2⟩ : ∃ q2 : Nat, intAt (nodeAt vs q).kids j = (q2 : Int) := ⟨(intAt (nodeAt vs q).kids j).toNat, by omega⟩
        have HNX2 : Hid (gotN vs i0 (ps.take (k + 1)) = some q2) := by rw [Hid, HNX.out, hsn]; simp [hq2]
        have hq2q : q2 < q := by omega
        go_wp2_with fail
        refine (HFI.out _ HPA.out).mono ?_
        rintro e w1 ⟨rfl, hb1⟩
        rw [HFR.out]
        have z1 := hb1.size
        simp only [World.size_alloc] at z1
        have HB1 : Hid (Below w.heap.size w w1) := (hbl.trans (HBA.out.mono zs)).trans (hb1.mono (by simp; omega))
        have hp1 := HPA.out.below hb1 (by simp; omega) (by simp; omega)
        rw [tree_mk] at hp1
        obtain ⟨sv, p', ks, it, pp, ls, hs, e1, _, hp⟩ := hp1
        obtain rfl : p = p' := by simpa using e1
        rw [HKL.out] at hp
        have d2 : w1.cell? ⟨p, 2, none⟩ = some it := by rw [hp.node.cellAt 2 (by omega)]; rfl
        obtain ⟨ai, ci, rfl⟩ := own_slice hp.kidsR
        obtain ⟨gi, capi, ei, _, hgl⟩ := hp.kidsR.form (by omega)
        cases ei
        have d3 : w1.cell? ⟨gi, j, none⟩ = some (pp j) := by rw [hp.kidsR.cellAt j (by omega)]; simp [hjl]
        have hkid := hp.kid j hjl
        have hrng := hp.rng j hjl
        rw [kidT_map hjl, hq2] at hkid
        simp only [Int.toNat_natCast] at hkid
        obtain ⟨p2, ep2⟩ : ∃ p2, pp j = .pointer (some ⟨p2, 0, none⟩) := by
          obtain ⟨g', rfl⟩ : ∃ g', g = g' + 1 := ⟨g - 1, by omega⟩
          rw [tree_mk] at hkid
          obtain ⟨_, p2, _, _, _, _, _, e2, _⟩ := hkid
          exact ⟨p2, e2⟩
        rw [ep2] at d3 hkid
        have HKD := hideIt hkid
        have hjm : (j : Int) < ((nodeAt vs q).kids.length : Int) := by omega
        clear hp hb1 hkid e1 ep2
        go_wp2_with fail
        go_roundw
        case rel => exact ⟨k + 1, q2, g, ls j, hs j, p2, by omega, by go_num, rfl, HNX2.out, by omega, by omega, by omega, HKD.out, HB1.out⟩
        case measure => simp [intOf]; omega
    · obtain rfl : k = ps.length := by omega
      have HGN : Hid (gotN vs i0 ps = some q) := by have := HG.out; rw [List.take_length] at this; exact this
      go_wp2_with fail
      go_ret2
      exact ⟨p, by rw [HGN.out]; rfl, fun q' hq' => (by rw [HGN.out] at hq'; cases hq'; exact ⟨hq, f, lo, hi', hqf, hhi, HPT.out⟩), hbl⟩
end Go.Proofs.Ytpfnkpkcjefelaa

/-
  (*impl.treePart).value: the value of a part, built anew.
-/
namespace Go.Proofs.Ytpfnkpkcjefelaa
open Go.RowKit
set_option linter.unusedSimpArgs false
set_option linter.unusedVariables false

def TKItems (lo B : Nat) (w : World) (it : Value) (n : Nat) (P : Nat → Value → Prop) : Prop :=
  n ≤ 100000 ∧ ∃ a cap, it = .slice a n cap ∧ (0 < n → ∃ b, a = some ⟨b, 0, none⟩ ∧ lo ≤ b ∧ b < B ∧ ∀ j, j < n → ∃ t x, w.cell? ⟨b, j, none⟩ = some (.iface t x) ∧ P j (.iface t x))

/-- The value of a tree; its rows of values lie between the blocks lo and B, its keys below K. -/
def TK (K lo B : Nat) (w : World) : Nat → VT → Value → Prop
  | 0, _, _ => False
  | f + 1, .mk kind n s keys kids, v =>
    (kind = 1 ∧ n = 0 ∧ s = ByteArray.empty ∧ keys = [] ∧ kids = [] ∧ v = .iface 135 (.agg #[])) ∨
    (kind = 2 ∧ s = ByteArray.empty ∧ keys = [] ∧ kids = [] ∧ v = .iface 121 (.agg #[.int .i64 n])) ∨
    (kind = 3 ∧ s = ByteArray.empty ∧ keys = [] ∧ kids = [] ∧ v = .iface 122 (.agg #[.int .i64 n])) ∨
    (kind = 4 ∧ n = 0 ∧ keys = [] ∧ kids = [] ∧ v = .iface 124 (.agg #[.string s])) ∨
    (kind = 5 ∧ n = 0 ∧ s = ByteArray.empty ∧ keys = [] ∧ ∃ it, v = .iface 93 (.agg #[it]) ∧ TKItems lo B w it kids.length (fun j u => TK K lo B w f (kidT kids j) u)) ∨
    (kind = 6 ∧ n = 0 ∧ s = ByteArray.empty ∧ ∃ ks it, v = .iface 95 (.agg #[ks, it]) ∧ StrsAt K w ks keys ∧ TKItems lo B w it kids.length (fun j u => TK K lo B w f (kidT kids j) u))

theorem TK.iface {K lo B : Nat} {w : World} {f : Nat} {t : VT} {v : Value} (h : TK K lo B w f t v) : ∃ ty x, v = .iface ty x := by
  cases f with
  | zero => exact h.elim
  | succ f =>
    obtain ⟨kind, n, s, keys, kids⟩ := t
    rcases h with ⟨_, _, _, _, _, rfl⟩ | ⟨_, _, _, _, rfl⟩ | ⟨_, _, _, _, rfl⟩ | ⟨_, _, _, _, rfl⟩ | ⟨_, _, _, _, it, rfl, _⟩ | ⟨_, _, _, ks, it, rfl, _⟩ <;> exact ⟨_, _, rfl⟩

theorem TK.move {K lo B lo' B' : Nat} {w w' : World} (h1 : ∀ k, k < K → w'.heap[k]? = w.heap[k]?) (h2 : ∀ k, lo ≤ k → k < B → w'.heap[k]? = w.heap[k]?) (hl : lo' ≤ lo) (hB : B ≤ B') : ∀ {f : Nat} {t : VT} {v : Value}, TK K lo B w f t v → TK K lo' B' w' f t v := by
  intro f
  induction f with
  | zero => intro t v h; exact h.elim
  | succ f ih =>
    intro t v h
    obtain ⟨kind, n, s, keys, kids⟩ := t
    have hit : ∀ it, TKItems lo B w it kids.length (fun j u => TK K lo B w f (kidT kids j) u) → TKItems lo' B' w' it kids.length (fun j u => TK K lo' B' w' f (kidT kids j) u) := by
      rintro it ⟨h0, a, cap, e, hx⟩
      refine ⟨h0, a, cap, e, fun hn => ?_⟩
      obtain ⟨b, ea, h3, h4, h5⟩ := hx hn
      refine ⟨b, ea, by omega, by omega, fun j hj => ?_⟩
      obtain ⟨t, x, hc, hv⟩ := h5 j hj
      exact ⟨t, x, (World.cell?_of_block (h2 b h3 h4)).trans hc, ih hv⟩
    rcases h with h | h | h | h | ⟨g1, g2, g3, g4, it, e, hi⟩ | ⟨g1, g2, g3, ks, it, e, hs, hi⟩
    · exact Or.inl h
    · exact Or.inr (Or.inl h)
    · exact Or.inr (Or.inr (Or.inl h))
    · exact Or.inr (Or.inr (Or.inr (Or.inl h)))
    · exact Or.inr (Or.inr (Or.inr (Or.inr (Or.inl ⟨g1, g2, g3, g4, it, e, hit it hi⟩))))
    · exact Or.inr (Or.inr (Or.inr (Or.inr (Or.inr ⟨g1, g2, g3, ks, it, e, hs.keep (lo := K) (B := K) (fun k _ hk' => h1 k hk') (Nat.le_refl _), hit it hi⟩))))

theorem TK.tree {K lo B X : Nat} {w : World} (hK : K ≤ X) (hB : B ≤ X) : ∀ {f : Nat} {t : VT} {v : Value}, TK K lo B w f t v → TreeAt X w f t v := by
  intro f
  induction f with
  | zero => intro t v h; exact h.elim
  | succ f ih =>
    intro t v h
    obtain ⟨kind, n, s, keys, kids⟩ := t
    have hit : ∀ it, TKItems lo B w it kids.length (fun j u => TK K lo B w f (kidT kids j) u) → TItems X w it kids.length (fun j u => TreeAt X w f (kidT kids j) u) := by
      rintro it ⟨h0, a, cap, e, hx⟩
      refine ⟨h0, a, cap, e, fun hn => ?_⟩
      obtain ⟨b, ea, h3, h4, h5⟩ := hx hn
      refine ⟨b, ea, by omega, fun j hj => ?_⟩
      obtain ⟨t, x, hc, hv⟩ := h5 j hj
      exact ⟨t, x, hc, ih hv⟩
    rcases h with h | h | h | h | ⟨g1, g2, g3, g4, it, e, hi⟩ | ⟨g1, g2, g3, ks, it, e, hs, hi⟩
    · exact Or.inl h
    · exact Or.inr (Or.inl h)
    · exact Or.inr (Or.inr (Or.inl h))
    · exact Or.inr (Or.inr (Or.inr (Or.inl h)))
    · exact Or.inr (Or.inr (Or.inr (Or.inr (Or.inl ⟨g1, g2, g3, g4, it, e, hit it hi⟩))))
    · exact Or.inr (Or.inr (Or.inr (Or.inr (Or.inr ⟨g1, g2, g3, ks, it, e, hs.wide hK, hit it hi⟩))))

/-- The first k values of parts: a row of their own, each value between two blocks. -/
structure TVals (K base : Nat) (w : World) (v : Value) (k f : Nat) (T : Nat → VT) (V : Nat → Value) (lo hi : Nat → Nat) : Prop where
  row : w.ownsRow base 73 1 v k ((List.range k).map V)
  is : ∀ j, j < k → TK K (lo j) (hi j) w f (T j) (V j)
  ord : ∀ j, j < k → base ≤ lo j ∧ lo j ≤ hi j ∧ hi j ≤ w.heap.size
  far : ∀ j, j < k → ∀ x, v.ownBlock = some x → x < lo j ∨ hi j ≤ x

theorem TVals.start (K base : Nat) (w : World) (f : Nat) (T : Nat → VT) : TVals K base w (.slice none 0 0) 0 f T (fun _ => undef) (fun _ => 0) (fun _ => 0) :=
  ⟨World.ownsRow_nil _ _ _ _, fun j hj => absurd hj (by omega), fun j hj => absurd hj (by omega), fun j hj => absurd hj (by omega)⟩

theorem TVals.snoc {K base : Nat} {w w1 w5 : World} {v v' x : Value} {k f : Nat} {T : Nat → VT} {V : Nat → Value} {lo hi : Nat → Nat} {o : Obj} (h : TVals K base w v k f T V lo hi) (hK : K ≤ base) (hbase : base ≤ w.heap.size) (hb : Below w.heap.size w w1)
    (hv : TK K w.heap.size w1.heap.size w1 f (T k) x)
    (hown : w5.ownsRow base 73 1 v' (k + 1) ((List.range k).map V ++ [x])) (hg : (w1.alloc o).grownBy w5 v.ownBlock) (hor : v'.ownBlock = v.ownBlock ∨ v'.ownBlock = some (w1.heap.size + 1)) :
    TVals K base w5 v' (k + 1) f T (updF V k x) (updF lo k w.heap.size) (updF hi k w1.heap.size) := by
  have hs := hb.size
  have hgs2 : w1.heap.size + 1 ≤ w5.heap.size := by simpa using hg.size
  have hlt := h.row.lt
  have kp1 : ∀ c, c < w1.heap.size → v.ownBlock ≠ some c → w5.heap[c]? = w1.heap[c]? := fun c h1 h2 =>
    (hg.block c (by simp; omega) (fun e => h2 e.symm)).trans (Below.block ((Below.refl w1.heap.size w1).alloc (Nat.le_refl _) o) c h1)
  have kp : ∀ c, c < w.heap.size → v.ownBlock ≠ some c → w5.heap[c]? = w.heap[c]? := fun c h1 h2 => (kp1 c (by omega) h2).trans (hb.block c h1)
  refine ⟨by rw [range_map_snoc]; exact hown, fun j hj => ?_, fun j hj => ?_, fun j hj y hy => ?_⟩
  · by_cases e : j = k
    · subst e
      rw [updF_same, updF_same, updF_same]
      exact hv.move (fun c hc => kp1 c (by omega) (fun e => by have := hlt c e; omega)) (fun c h3 h4 => kp1 c h4 (fun e => by have := hlt c e; omega)) (Nat.le_refl _) (Nat.le_refl _)
    · rw [updF_other _ _ e, updF_other _ _ e, updF_other _ _ e]
      have ho := h.ord j (by omega)
      exact (h.is j (by omega)).move (fun c hc => kp c (by omega) (fun e => by have := hlt c e; omega)) (fun c h3 h4 => kp c (by omega) (fun e => by have := h.far j (by omega) c e; omega)) (Nat.le_refl _) (Nat.le_refl _)
  · by_cases e : j = k
    · subst e
      rw [updF_same, updF_same]
      omega
    · rw [updF_other _ _ e, updF_other _ _ e]
      have ho := h.ord j (by omega)
      omega
  · rcases hor with e2 | e2
    · rw [e2] at hy
      have h3 := hlt y hy
      by_cases e : j = k
      · subst e
        rw [updF_same, updF_same]
        omega
      · rw [updF_other _ _ e, updF_other _ _ e]
        exact h.far j (by omega) y hy
    · rw [e2] at hy
      have h3 : w1.heap.size + 1 = y := by simpa using hy
      by_cases e : j = k
      · subst e
        rw [updF_same, updF_same]
        omega
      · rw [updF_other _ _ e, updF_other _ _ e]
        have ho := h.ord j (by omega)
        omega

theorem TVals.items {K base : Nat} {w : World} {v : Value} {m f : Nat} {T : Nat → VT} {V : Nat → Value} {lo hi : Nat → Nat} (h : TVals K base w v m f T V lo hi) (hm : m ≤ 100000) :
    TKItems base w.heap.size w v m (fun j u => TK K base w.heap.size w f (T j) u) := by
  obtain ⟨a, c, e⟩ := own_slice h.row
  subst e
  refine ⟨hm, a, c, rfl, fun hp => ?_⟩
  obtain ⟨g, cap, e, hge, hlt⟩ := h.row.form hp
  cases e
  refine ⟨g, rfl, hge, hlt, fun j hj => ?_⟩
  obtain ⟨t, x, hx⟩ := (h.is j hj).iface
  have ho := h.ord j hj
  refine ⟨t, x, by rw [h.row.cellAt j (by omega)]; simp [hj, hx], ?_⟩
  rw [← hx]
  exact (h.is j hj).move (fun _ _ => rfl) (fun _ _ _ => rfl) ho.1 ho.2.2

theorem PT.ptr {B : Nat} {w : World} {f : Nat} {t : VT} {lo hi : Nat} {v : Value} (h : PT B w f t lo hi v) : ∃ p, v = .pointer (some ⟨p, 0, none⟩) := by
  cases f with
  | zero => exact h.elim
  | succ f =>
    obtain ⟨kind, n, s, keys, kids⟩ := t
    obtain ⟨_, p, _, _, _, _, _, e, _⟩ := h
    exact ⟨p, e⟩

/-- What value answers, at every tree of that height. -/
def Values (B K f : Nat) : Prop :=
  ∀ (t : VT) (lo hi : Nat) (v : Value) (w : World), PT B w f t lo hi v → hi ≤ K → B ≤ K → K ≤ w.heap.size →
    Calls Try.prog 76 #[v] w fun e w' => ∃ ty x, e = .returned (.iface ty x) ∧ TK K w.heap.size w'.heap.size w' f t (.iface ty x) ∧ Below w.heap.size w w'

set_option maxRecDepth 100000 in
set_option maxHeartbeats 6400000 in
theorem value_any (B K : Nat) : ∀ f, Values B K f := by
  intro f
  induction f with
  | zero => intro t lo hi v w h; exact h.elim
  | succ f ih =>
    intro t lo hi v w h hh hBK hK
    obtain ⟨kind, n, s, keys, kids⟩ := t
    obtain ⟨sv, p, ks, it, ps, ls, hs, rfl, ht, hp⟩ := h
    have hkn : kids.length ≤ 100000 := by
      rcases ht with ⟨_, _, _, _, rfl, _⟩ | ⟨_, _, _, rfl, _⟩ | ⟨_, _, _, rfl, _⟩ | ⟨_, _, _, rfl, _⟩ | ⟨_, _, _, _, _, _, hi⟩ | ⟨_, _, _, _, _, _, _, hi⟩
      · simp
      · simp
      · simp
      · simp
      · exact hi.1
      · exact hi.1
    obtain ⟨M, hM2⟩ : ∃ M, kids.length = M := ⟨_, rfl⟩
    have HM := hideIt hM2
    rw [hM2] at hkn hp
    clear hM2
    have HP := hideIt hp
    have HT := hideIt ht
    have hpl := (hp.lt (Or.inl rfl)).2
    have c2 : w.cell? ⟨p, 2, none⟩ = some it := by rw [hp.node.cellAt 2 (by omega)]; rfl
    obtain ⟨ai, ci, eit⟩ := own_slice hp.kidsR
    subst eit
    clear hp ht
    obtain ⟨i0, hi0, hz0, hs0, hy0⟩ := info_parts infoVal
    go_enter Try.func76, Try.ntmps76
    go_wp2_with fail
    go_loopw [3, 11] (fun o i wr => ∃ (k : Nat) (V : Nat → Value) (l h : Nat → Nat), k ≤ M ∧ i = .int .i64 k ∧ TVals K w.heap.size wr o k f (kidT kids) V l h ∧ Below w.heap.size w wr) (fun _ i _ => M - (intOf i).toNat)
    case atStart => exact ⟨0, _, _, _, Nat.zero_le _, rfl, TVals.start _ _ _ _ _, Below.refl _ _⟩
    case round =>
      obtain ⟨k, V, l, h, hk, rfl, hvals, hbl⟩ := hrel
      have HV := hideIt hvals
      have zs := hbl.size
      obtain ⟨ao, co, eo⟩ := own_slice hvals.row
      subst eo
      clear hvals
      by_cases hlt : k < M
      · obtain ⟨gi, capi, ei, _, hgl⟩ := HP.out.kidsR.form (by omega)
        cases ei
        have d3 : wr.cell? ⟨gi, k, none⟩ = some (ps k) := (below_cell hbl hgl).trans (by rw [HP.out.kidsR.cellAt k (by omega)]; simp [hlt])
        have hkid := HP.out.kid k hlt
        have hrng := HP.out.rng k hlt
        have HKD := hideIt (hkid.move (w' := wr) (fun c hc => hbl.block c (by omega)) (Nat.le_refl _) (Nat.le_refl _) (fun c _ hc => hbl.block c (by omega)))
        obtain ⟨p2, ep2⟩ := hkid.ptr
        rw [ep2] at d3 HKD
        clear hkid ep2
        go_wp2_with fail
        refine (ih (kidT kids k) (ls k) (hs k) _ _ HKD.out (by omega) hBK (by omega)).mono ?_
        rintro e w1 ⟨ty, x, rfl, htk, hb1⟩
        have z1 := hb1.size
        have HTK := hideIt htk
        have HB1 := hideIt hb1
        have HROW := hideIt (own_below HV.out.row hb1 (fun x hx => (HV.out.row.lt x hx).2))
        clear htk hb1
        go_wp2_with (at_builtin; refine wpList_append_own_at _ rfl _ _ 85 rfl w.heap.size 73 i0 .nilIface 1 16 Try.underlying85 hi0 hz0 hs0 hy0 rfl (by decide) _ _ _ rfl (HROW.out.alloc _) ⟨w1.heap.size, 0, none⟩ 1 1 [.iface ty x] rfl rfl ?c1 ?c2 ?c3 ?c4 ?c5 ?_)
        case c1 => exact cell_one_new _ _ _
        case c2 => intro u hu; simp at hu; subst hu; rfl
        case c3 => unfold maxLen; omega
        case c4 => omega
        case c5 => simp; omega
        intro v' w5 hown hgrow _ hor
        have HV5 := hideIt (HV.out.snoc hK zs HB1.out HTK.out hown hgrow hor)
        have HB5 : Hid (Below w.heap.size w w5) := ((hbl.trans (HB1.out.mono zs)).alloc (by omega) _).grown hgrow (by simp; omega) (fun x hx => (HROW.out.lt x hx).1)
        clear hown hgrow hor
        go_wp2_with fail
        go_roundw
        case rel => exact ⟨k + 1, _, _, _, by omega, by go_num, HV5.out, HB5.out⟩
        case measure => simp [intOf]; omega
      · obtain rfl : k = M := by omega
        have c0 : wr.cell? ⟨p, 0, none⟩ = some sv := (below_cell hbl hpl).trans (by rw [HP.out.node.cellAt 0 (by omega)]; rfl)
        have c1 : wr.cell? ⟨p, 1, none⟩ = some ks := (below_cell hbl hpl).trans (by rw [HP.out.node.cellAt 1 (by omega)]; rfl)
        have HITS := hideIt (HV.out.items hkn)
        have ht := HT.out
        clear HT c2
        rcases ht with ⟨rfl, rfl, rfl, rfl, rfl, rfl⟩ | ⟨rfl, rfl, rfl, rfl, rfl⟩ | ⟨rfl, rfl, rfl, rfl, rfl⟩ | ⟨rfl, rfl, rfl, rfl, rfl⟩ | ⟨rfl, rfl, rfl, rfl, itv, rfl, hi⟩ | ⟨rfl, rfl, rfl, kv, itv, rfl, hs6, hi⟩
        · have t1 := taf_null_list (.agg #[])
          have t2 := ta_null_map (.agg #[])
          go_wp2_with fail
          go_ret
          exact ⟨_, _, rfl, Or.inl ⟨rfl, rfl, rfl, rfl, rfl, rfl⟩, hbl⟩
        · have t1 := taf_bool_list (.agg #[.int .i64 n])
          have t2 := ta_bool_map (.agg #[.int .i64 n])
          go_wp2_with fail
          go_ret
          exact ⟨_, _, rfl, Or.inr (Or.inl ⟨rfl, rfl, rfl, rfl, rfl⟩), hbl⟩
        · have t1 := taf_int_list (.agg #[.int .i64 n])
          have t2 := ta_int_map (.agg #[.int .i64 n])
          go_wp2_with fail
          go_ret
          exact ⟨_, _, rfl, Or.inr (Or.inr (Or.inl ⟨rfl, rfl, rfl, rfl, rfl⟩)), hbl⟩
        · have t1 := taf_text_list (.agg #[.string s])
          have t2 := ta_text_map (.agg #[.string s])
          go_wp2_with fail
          go_ret
          exact ⟨_, _, rfl, Or.inr (Or.inr (Or.inr (Or.inl ⟨rfl, rfl, rfl, rfl, rfl⟩))), hbl⟩
        · have t1 := taf_list_list (.agg #[itv])
          have t2 := ta_list_map (.agg #[itv])
          clear hi
          go_wp2_with fail
          go_ret
          exact ⟨_, _, rfl, Or.inr (Or.inr (Or.inr (Or.inr (Or.inl ⟨rfl, rfl, rfl, rfl, _, rfl, by rw [HM.out]; exact HITS.out⟩)))), hbl⟩
        · have t1 := taf_map_list (.agg #[kv, itv])
          have t2 := ta_map_map (.agg #[kv, itv])
          have HKS : Hid (StrsAt K wr ks keys) := by
            have h1 := own_strs HP.out.keysR hs6.1 hs6.2.1
            obtain ⟨g1, g2, ak, ck, rfl, g3⟩ := h1
            refine ⟨g1, g2, ak, ck, rfl, fun hpos => ?_⟩
            obtain ⟨b, o, rfl, hb, hc⟩ := g3 hpos
            have hbt := HP.out.top b (Or.inr (Or.inl rfl))
            exact ⟨b, o, rfl, by omega, fun i hi => (below_cell hbl (by omega)).trans (hc i hi)⟩
          obtain ⟨aks, cks, eks⟩ := own_slice HP.out.keysR
          subst eks
          clear hi hs6
          go_wp2_with fail
          go_ret
          exact ⟨_, _, rfl, Or.inr (Or.inr (Or.inr (Or.inr (Or.inr ⟨rfl, rfl, rfl, _, _, rfl, HKS.out, by rw [HM.out]; exact HITS.out⟩)))), hbl⟩
end Go.Proofs.Ytpfnkpkcjefelaa
