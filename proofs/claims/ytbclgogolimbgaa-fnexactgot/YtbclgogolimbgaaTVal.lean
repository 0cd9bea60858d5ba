/-
  (*impl.treePart).value: the value of a part, built anew.
-/
import Derived.Test.YtbclgogolimbgaaFind
import Derived.Test.YtbclgogolimbgaaVAt
namespace Go.Proofs.Ytbclgogolimbgaa
open Go.RowKit
set_option linter.unusedSimpArgs false
set_option linter.unusedVariables false

def TKItems (lo B : Nat) (w : World) (it : Value) (n : Nat) (P : Nat → Value → Prop) : Prop :=
  n ≤ 100000 ∧ ∃ a cap, it = .slice a n cap ∧ (0 < n → ∃ b, a = some ⟨b, 0, none⟩ ∧ lo ≤ b ∧ b < B ∧ ∀ j, j < n → ∃ t x, w.cell? ⟨b, j, none⟩ = some (.iface t x) ∧ P j (.iface t x))

/-- The value of a tree; its rows of values lie between the blocks lo and B, its keys below K. -/
def TK (K lo B : Nat) (w : World) : Nat → VT → Value → Prop
  | 0, _, _ => False
  | f + 1, .mk kind n s keys kids, v =>
    (kind = 1 ∧ n = 0 ∧ s = ByteArray.empty ∧ keys = [] ∧ kids = [] ∧ v = .iface 155 (.agg #[])) ∨
    (kind = 2 ∧ s = ByteArray.empty ∧ keys = [] ∧ kids = [] ∧ v = .iface 132 (.agg #[.int .i64 n])) ∨
    (kind = 3 ∧ s = ByteArray.empty ∧ keys = [] ∧ kids = [] ∧ v = .iface 133 (.agg #[.int .i64 n])) ∨
    (kind = 4 ∧ n = 0 ∧ keys = [] ∧ kids = [] ∧ v = .iface 135 (.agg #[.string s])) ∨
    (kind = 5 ∧ n = 0 ∧ s = ByteArray.empty ∧ keys = [] ∧ ∃ it, v = .iface 129 (.agg #[it]) ∧ TKItems lo B w it kids.length (fun j u => TK K lo B w f (kidT kids j) u)) ∨
    (kind = 6 ∧ n = 0 ∧ s = ByteArray.empty ∧ ∃ ks it, v = .iface 121 (.agg #[ks, it]) ∧ StrsAt K w ks keys ∧ TKItems lo B w it kids.length (fun j u => TK K lo B w f (kidT kids j) u))

theorem TK.iface {K lo B : Nat} {w : World} {f : Nat} {t : VT} {v : Value} (h : TK K lo B w f t v) : ∃ ty x, v = .iface ty x := by
  cases f with
  | zero => exact h.elim
  | succ f =>
    obtain ⟨kind, n, s, keys, kids⟩ := t
    rcases h with ⟨_, _, _, _, _, rfl⟩ | ⟨_, _, _, _, rfl⟩ | ⟨_, _, _, _, rfl⟩ | ⟨_, _, _, _, rfl⟩ | ⟨_, _, _, _, it, rfl, _⟩ | ⟨_, _, _, ks, it, rfl, _⟩ <;> exact ⟨_, _, rfl⟩

theorem TK.move {K lo B lo' B' : Nat} {w w' : World} (h1 : ∀ k, k < K → w'.heap[k]? = w.heap[k]?) (h2 : ∀ k, lo ≤ k → k < B → w'.heap[k]? = w.heap[k]?) (hl : lo' ≤ lo) (hB : B ≤ B') : ∀ {f : Nat} {t : VT} {v : Value}, TK K lo B w f t v → TK K lo' B' w' f t v := by
  intro f
  induction f with
  | zero => intro t v h; exact h.elim
  | succ f ih =>
    intro t v h
    obtain ⟨kind, n, s, keys, kids⟩ := t
    have hit : ∀ it, TKItems lo B w it kids.length (fun j u => TK K lo B w f (kidT kids j) u) → TKItems lo' B' w' it kids.length (fun j u => TK K lo' B' w' f (kidT kids j) u) := by
      rintro it ⟨h0, a, cap, e, hx⟩
      refine ⟨h0, a, cap, e, fun hn => ?_⟩
      obtain ⟨b, ea, h3, h4, h5⟩ := hx hn
      refine ⟨b, ea, by omega, by omega, fun j hj => ?_⟩
      obtain ⟨t, x, hc, hv⟩ := h5 j hj
      exact ⟨t, x, (World.cell?_of_block (h2 b h3 h4)).trans hc, ih hv⟩
    rcases h with h | h | h | h | ⟨g1, g2, g3, g4, it, e, hi⟩ | ⟨g1, g2, g3, ks, it, e, hs, hi⟩
    · exact Or.inl h
    · exact Or.inr (Or.inl h)
    · exact Or.inr (Or.inr (Or.inl h))
    · exact Or.inr (Or.inr (Or.inr (Or.inl h)))
    · exact Or.inr (Or.inr (Or.inr (Or.inr (Or.inl ⟨g1, g2, g3, g4, it, e, hit it hi⟩))))
    · exact Or.inr (Or.inr (Or.inr (Or.inr (Or.inr ⟨g1, g2, g3, ks, it, e, hs.keep (lo := K) (B := K) (fun k _ hk' => h1 k hk') (Nat.le_refl _), hit it hi⟩))))

theorem TK.tree {K lo B X : Nat} {w : World} (hK : K ≤ X) (hB : B ≤ X) : ∀ {f : Nat} {t : VT} {v : Value}, TK K lo B w f t v → TreeAt X w f t v := by
  intro f
  induction f with
  | zero => intro t v h; exact h.elim
  | succ f ih =>
    intro t v h
    obtain ⟨kind, n, s, keys, kids⟩ := t
    have hit : ∀ it, TKItems lo B w it kids.length (fun j u => TK K lo B w f (kidT kids j) u) → TItems X w it kids.length (fun j u => TreeAt X w f (kidT kids j) u) := by
      rintro it ⟨h0, a, cap, e, hx⟩
      refine ⟨h0, a, cap, e, fun hn => ?_⟩
      obtain ⟨b, ea, h3, h4, h5⟩ := hx hn
      refine ⟨b, ea, by omega, fun j hj => ?_⟩
      obtain ⟨t, x, hc, hv⟩ := h5 j hj
      exact ⟨t, x, hc, ih hv⟩
    rcases h with h | h | h | h | ⟨g1, g2, g3, g4, it, e, hi⟩ | ⟨g1, g2, g3, ks, it, e, hs, hi⟩
    · exact Or.inl h
    · exact Or.inr (Or.inl h)
    · exact Or.inr (Or.inr (Or.inl h))
    · exact Or.inr (Or.inr (Or.inr (Or.inl h)))
    · exact Or.inr (Or.inr (Or.inr (Or.inr (Or.inl ⟨g1, g2, g3, g4, it, e, hit it hi⟩))))
    · exact Or.inr (Or.inr (Or.inr (Or.inr (Or.inr ⟨g1, g2, g3, ks, it, e, hs.wide hK, hit it hi⟩))))

/-- The first k values of parts: a row of their own, each value between two blocks. -/
structure TVals (K base : Nat) (w : World) (v : Value) (k f : Nat) (T : Nat → VT) (V : Nat → Value) (lo hi : Nat → Nat) : Prop where
  row : w.ownsRow base 61 1 v k ((List.range k).map V)
  is : ∀ j, j < k → TK K (lo j) (hi j) w f (T j) (V j)
  ord : ∀ j, j < k → base ≤ lo j ∧ lo j ≤ hi j ∧ hi j ≤ w.heap.size
  far : ∀ j, j < k → ∀ x, v.ownBlock = some x → x < lo j ∨ hi j ≤ x

theorem TVals.start (K base : Nat) (w : World) (f : Nat) (T : Nat → VT) : TVals K base w (.slice none 0 0) 0 f T (fun _ => undef) (fun _ => 0) (fun _ => 0) :=
  ⟨World.ownsRow_nil _ _ _ _, fun j hj => absurd hj (by omega), fun j hj => absurd hj (by omega), fun j hj => absurd hj (by omega)⟩

theorem TVals.snoc {K base : Nat} {w w1 w5 : World} {v v' x : Value} {k f : Nat} {T : Nat → VT} {V : Nat → Value} {lo hi : Nat → Nat} {o : Obj} (h : TVals K base w v k f T V lo hi) (hK : K ≤ base) (hbase : base ≤ w.heap.size) (hb : Below w.heap.size w w1)
    (hv : TK K w.heap.size w1.heap.size w1 f (T k) x)
    (hown : w5.ownsRow base 61 1 v' (k + 1) ((List.range k).map V ++ [x])) (hg : (w1.alloc o).grownBy w5 v.ownBlock) (hor : v'.ownBlock = v.ownBlock ∨ v'.ownBlock = some (w1.heap.size + 1)) :
    TVals K base w5 v' (k + 1) f T (updF V k x) (updF lo k w.heap.size) (updF hi k w1.heap.size) := by
  have hs := hb.size
  have hgs2 : w1.heap.size + 1 ≤ w5.heap.size := by simpa using hg.size
  have hlt := h.row.lt
  have kp1 : ∀ c, c < w1.heap.size → v.ownBlock ≠ some c → w5.heap[c]? = w1.heap[c]? := fun c h1 h2 =>
    (hg.block c (by simp; omega) (fun e => h2 e.symm)).trans (Below.block ((Below.refl w1.heap.size w1).alloc (Nat.le_refl _) o) c h1)
  have kp : ∀ c, c < w.heap.size → v.ownBlock ≠ some c → w5.heap[c]? = w.heap[c]? := fun c h1 h2 => (kp1 c (by omega) h2).trans (hb.block c h1)
  refine ⟨by rw [range_map_snoc]; exact hown, fun j hj => ?_, fun j hj => ?_, fun j hj y hy => ?_⟩
  · by_cases e : j = k
    · subst e
      rw [updF_same, updF_same, updF_same]
      exact hv.move (fun c hc => kp1 c (by omega) (fun e => by have := hlt c e; omega)) (fun c h3 h4 => kp1 c h4 (fun e => by have := hlt c e; omega)) (Nat.le_refl _) (Nat.le_refl _)
    · rw [updF_other _ _ e, updF_other _ _ e, updF_other _ _ e]
      have ho := h.ord j (by omega)
      exact (h.is j (by omega)).move (fun c hc => kp c (by omega) (fun e => by have := hlt c e; omega)) (fun c h3 h4 => kp c (by omega) (fun e => by have := h.far j (by omega) c e; omega)) (Nat.le_refl _) (Nat.le_refl _)
  · by_cases e : j = k
    · subst e
      rw [updF_same, updF_same]
      omega
    · rw [updF_other _ _ e, updF_other _ _ e]
      have ho := h.ord j (by omega)
      omega
  · rcases hor with e2 | e2
    · rw [e2] at hy
      have h3 := hlt y hy
      by_cases e : j = k
      · subst e
        rw [updF_same, updF_same]
        omega
      · rw [updF_other _ _ e, updF_other _ _ e]
        exact h.far j (by omega) y hy
    · rw [e2] at hy
      have h3 : w1.heap.size + 1 = y := by simpa using hy
      by_cases e : j = k
      · subst e
        rw [updF_same, updF_same]
        omega
      · rw [updF_other _ _ e, updF_other _ _ e]
        have ho := h.ord j (by omega)
        omega

theorem TVals.items {K base : Nat} {w : World} {v : Value} {m f : Nat} {T : Nat → VT} {V : Nat → Value} {lo hi : Nat → Nat} (h : TVals K base w v m f T V lo hi) (hm : m ≤ 100000) :
    TKItems base w.heap.size w v m (fun j u => TK K base w.heap.size w f (T j) u) := by
  obtain ⟨a, c, e⟩ := own_slice h.row
  subst e
  refine ⟨hm, a, c, rfl, fun hp => ?_⟩
  obtain ⟨g, cap, e, hge, hlt⟩ := h.row.form hp
  cases e
  refine ⟨g, rfl, hge, hlt, fun j hj => ?_⟩
  obtain ⟨t, x, hx⟩ := (h.is j hj).iface
  have ho := h.ord j hj
  refine ⟨t, x, by rw [h.row.cellAt j (by omega)]; simp [hj, hx], ?_⟩
  rw [← hx]
  exact (h.is j hj).move (fun _ _ => rfl) (fun _ _ _ => rfl) ho.1 ho.2.2

theorem PT.ptr {B : Nat} {w : World} {f : Nat} {t : VT} {lo hi : Nat} {v : Value} (h : PT B w f t lo hi v) : ∃ p, v = .pointer (some ⟨p, 0, none⟩) := by
  cases f with
  | zero => exact h.elim
  | succ f =>
    obtain ⟨kind, n, s, keys, kids⟩ := t
    obtain ⟨_, p, _, _, _, _, _, e, _⟩ := h
    exact ⟨p, e⟩

/-- What value answers, at every tree of that height. -/
def Values (B K f : Nat) : Prop :=
  ∀ (t : VT) (lo hi : Nat) (v : Value) (w : World), PT B w f t lo hi v → hi ≤ K → B ≤ K → K ≤ w.heap.size →
    Calls Try.prog 48 #[v] w fun e w' => ∃ ty x, e = .returned (.iface ty x) ∧ TK K w.heap.size w'.heap.size w' f t (.iface ty x) ∧ Below w.heap.size w w'

set_option maxRecDepth 100000 in
set_option maxHeartbeats 6400000 in
theorem value_any (B K : Nat) : ∀ f, Values B K f := by
  intro f
  induction f with
  | zero => intro t lo hi v w h; exact h.elim
  | succ f ih =>
    intro t lo hi v w h hh hBK hK
    obtain ⟨kind, n, s, keys, kids⟩ := t
    obtain ⟨sv, p, ks, it, ps, ls, hs, rfl, ht, hp⟩ := h
    have hkn : kids.length ≤ 100000 := by
      rcases ht with ⟨_, _, _, _, rfl, _⟩ | ⟨_, _, _, rfl, _⟩ | ⟨_, _, _, rfl, _⟩ | ⟨_, _, _, rfl, _⟩ | ⟨_, _, _, _, _, _, hi⟩ | ⟨_, _, _, _, _, _, _, hi⟩
      · simp
      · simp
      · simp
      · simp
      · exact hi.1
      · exact hi.1
    obtain ⟨M, hM2⟩ : ∃ M, kids.length = M := ⟨_, rfl⟩
    have HM := hideIt hM2
    rw [hM2] at hkn hp
    clear hM2
    have HP := hideIt hp
    have HT := hideIt ht
    have hpl := (hp.lt (Or.inl rfl)).2
    have c2 : w.cell? ⟨p, 2, none⟩ = some it := by rw [hp.node.cellAt 2 (by omega)]; rfl
    obtain ⟨ai, ci, eit⟩ := own_slice hp.kidsR
    subst eit
    clear hp ht
    obtain ⟨i0, hi0, hz0, hs0, hy0⟩ := info_parts infoVal
    go_enter Try.func48, Try.ntmps48
    go_wp2_with fail
    go_loopw [3, 11] (fun o i wr => ∃ (k : Nat) (V : Nat → Value) (l h : Nat → Nat), k ≤ M ∧ i = .int .i64 k ∧ TVals K w.heap.size wr o k f (kidT kids) V l h ∧ Below w.heap.size w wr) (fun _ i _ => M - (intOf i).toNat)
    case atStart => exact ⟨0, _, _, _, Nat.zero_le _, rfl, TVals.start _ _ _ _ _, Below.refl _ _⟩
    case round =>
      obtain ⟨k, V, l, h, hk, rfl, hvals, hbl⟩ := hrel
      have HV := hideIt hvals
      have zs := hbl.size
      obtain ⟨ao, co, eo⟩ := own_slice hvals.row
      subst eo
      clear hvals
      by_cases hlt : k < M
      · obtain ⟨gi, capi, ei, _, hgl⟩ := HP.out.kidsR.form (by omega)
        cases ei
        have d3 : wr.cell? ⟨gi, k, none⟩ = some (ps k) := (below_cell hbl hgl).trans (by rw [HP.out.kidsR.cellAt k (by omega)]; simp [hlt])
        have hkid := HP.out.kid k hlt
        have hrng := HP.out.rng k hlt
        have HKD := hideIt (hkid.move (w' := wr) (fun c hc => hbl.block c (by omega)) (Nat.le_refl _) (Nat.le_refl _) (fun c _ hc => hbl.block c (by omega)))
        obtain ⟨p2, ep2⟩ := hkid.ptr
        rw [ep2] at d3 HKD
        clear hkid ep2
        go_wp2_with fail
        refine (ih (kidT kids k) (ls k) (hs k) _ _ HKD.out (by omega) hBK (by omega)).mono ?_
        rintro e w1 ⟨ty, x, rfl, htk, hb1⟩
        have z1 := hb1.size
        have HTK := hideIt htk
        have HB1 := hideIt hb1
        have HROW := hideIt (own_below HV.out.row hb1 (fun x hx => (HV.out.row.lt x hx).2))
        clear htk hb1
        go_wp2_with (at_builtin; refine wpList_append_own_at _ rfl _ _ 84 rfl w.heap.size 61 i0 .nilIface 1 16 Try.underlying84 hi0 hz0 hs0 hy0 rfl (by decide) _ _ _ rfl (HROW.out.alloc _) ⟨w1.heap.size, 0, none⟩ 1 1 [.iface ty x] rfl rfl ?c1 ?c2 ?c3 ?c4 ?c5 ?_)
        case c1 => exact cell_one_new _ _ _
        case c2 => intro u hu; simp at hu; subst hu; rfl
        case c3 => unfold maxLen; omega
        case c4 => omega
        case c5 => simp; omega
        intro v' w5 hown hgrow _ hor
        have HV5 := hideIt (HV.out.snoc hK zs HB1.out HTK.out hown hgrow hor)
        have HB5 : Hid (Below w.heap.size w w5) := ((hbl.trans (HB1.out.mono zs)).alloc (by omega) _).grown hgrow (by simp; omega) (fun x hx => (HROW.out.lt x hx).1)
        clear hown hgrow hor
        go_wp2_with fail
        go_roundw
        case rel => exact ⟨k + 1, _, _, _, by omega, by go_num, HV5.out, HB5.out⟩
        case measure => simp [intOf]; omega
      · obtain rfl : k = M := by omega
        have c0 : wr.cell? ⟨p, 0, none⟩ = some sv := (below_cell hbl hpl).trans (by rw [HP.out.node.cellAt 0 (by omega)]; rfl)
        have c1 : wr.cell? ⟨p, 1, none⟩ = some ks := (below_cell hbl hpl).trans (by rw [HP.out.node.cellAt 1 (by omega)]; rfl)
        have HITS := hideIt (HV.out.items hkn)
        have ht := HT.out
        clear HT c2
        rcases ht with ⟨rfl, rfl, rfl, rfl, rfl, rfl⟩ | ⟨rfl, rfl, rfl, rfl, rfl⟩ | ⟨rfl, rfl, rfl, rfl, rfl⟩ | ⟨rfl, rfl, rfl, rfl, rfl⟩ | ⟨rfl, rfl, rfl, rfl, itv, rfl, hi⟩ | ⟨rfl, rfl, rfl, kv, itv, rfl, hs6, hi⟩
        · have t1 := taf_null_list (.agg #[])
          have t2 := ta_null_map (.agg #[])
          go_wp2_with fail
          go_ret
          exact ⟨_, _, rfl, Or.inl ⟨rfl, rfl, rfl, rfl, rfl, rfl⟩, hbl⟩
        · have t1 := taf_bool_list (.agg #[.int .i64 n])
          have t2 := ta_bool_map (.agg #[.int .i64 n])
          go_wp2_with fail
          go_ret
          exact ⟨_, _, rfl, Or.inr (Or.inl ⟨rfl, rfl, rfl, rfl, rfl⟩), hbl⟩
        · have t1 := taf_int_list (.agg #[.int .i64 n])
          have t2 := ta_int_map (.agg #[.int .i64 n])
          go_wp2_with fail
          go_ret
          exact ⟨_, _, rfl, Or.inr (Or.inr (Or.inl ⟨rfl, rfl, rfl, rfl, rfl⟩)), hbl⟩
        · have t1 := taf_text_list (.agg #[.string s])
          have t2 := ta_text_map (.agg #[.string s])
          go_wp2_with fail
          go_ret
          exact ⟨_, _, rfl, Or.inr (Or.inr (Or.inr (Or.inl ⟨rfl, rfl, rfl, rfl, rfl⟩))), hbl⟩
        · have t1 := taf_list_list (.agg #[itv])
          have t2 := ta_list_map (.agg #[itv])
          clear hi
          go_wp2_with fail
          go_ret
          exact ⟨_, _, rfl, Or.inr (Or.inr (Or.inr (Or.inr (Or.inl ⟨rfl, rfl, rfl, rfl, _, rfl, by rw [HM.out]; exact HITS.out⟩)))), hbl⟩
        · have t1 := taf_map_list (.agg #[kv, itv])
          have t2 := ta_map_map (.agg #[kv, itv])
          have HKS : Hid (StrsAt K wr ks keys) := by
            have h1 := own_strs HP.out.keysR hs6.1 hs6.2.1
            obtain ⟨g1, g2, ak, ck, rfl, g3⟩ := h1
            refine ⟨g1, g2, ak, ck, rfl, fun hpos => ?_⟩
            obtain ⟨b, o, rfl, hb, hc⟩ := g3 hpos
            have hbt := HP.out.top b (Or.inr (Or.inl rfl))
            exact ⟨b, o, rfl, by omega, fun i hi => (below_cell hbl (by omega)).trans (hc i hi)⟩
          obtain ⟨aks, cks, eks⟩ := own_slice HP.out.keysR
          subst eks
          clear hi hs6
          go_wp2_with fail
          go_ret
          exact ⟨_, _, rfl, Or.inr (Or.inr (Or.inr (Or.inr (Or.inr ⟨rfl, rfl, rfl, _, _, rfl, HKS.out, by rw [HM.out]; exact HITS.out⟩)))), hbl⟩
end Go.Proofs.Ytbclgogolimbgaa
