/-
  (*impl.treePart).value over parts of which some were changed: what is asked of memory is that it can be read, no more.
-/
import Derived.Test.YtpakfgonemiebaaTVal
import Derived.Test.YtpakfgonemiebaaSParts
import Derived.Test.YtpakfgonemiebaaWthP
namespace Go.Proofs.Ytpakfgonemiebaa
open Go.RowKit
set_option linter.unusedSimpArgs false
set_option linter.unusedVariables false

def SelfOk (kind n : Int) (s : ByteArray) (keys : List ByteArray) (kids : List VT) (sv : Value) : Prop :=
  (kind = 1 ∧ n = 0 ∧ s = ByteArray.empty ∧ keys = [] ∧ kids = [] ∧ sv = .iface 150 (.agg #[])) ∨
  (kind = 2 ∧ s = ByteArray.empty ∧ keys = [] ∧ kids = [] ∧ sv = .iface 140 (.agg #[.int .i64 n])) ∨
  (kind = 3 ∧ s = ByteArray.empty ∧ keys = [] ∧ kids = [] ∧ sv = .iface 141 (.agg #[.int .i64 n])) ∨
  (kind = 4 ∧ n = 0 ∧ keys = [] ∧ kids = [] ∧ sv = .iface 143 (.agg #[.string s])) ∨
  (kind = 5 ∧ n = 0 ∧ s = ByteArray.empty ∧ keys = [] ∧ ∃ x, sv = .iface 124 x) ∨
  (kind = 6 ∧ n = 0 ∧ s = ByteArray.empty ∧ ∃ x, sv = .iface 120 x)
def PRItems (B : Nat) (w : World) (it : Value) (n : Nat) (Q : Nat → Value → Prop) : Prop :=
  n ≤ 100000 ∧ ∃ a cap, it = .slice a n cap ∧ (0 < n → ∃ b, a = some ⟨b, 0, none⟩ ∧ b < B ∧ ∀ j, j < n → ∃ p, w.cell? ⟨b, j, none⟩ = some (.pointer (some ⟨p, 0, none⟩)) ∧ Q j (.pointer (some ⟨p, 0, none⟩)))
/-- A part that can be read: its blocks lie below B. -/
def PR (B : Nat) (w : World) : Nat → VT → Value → Prop
  | 0, _, _ => False
  | f + 1, .mk kind n s keys kids, v => ∃ sv p ks it, v = .pointer (some ⟨p, 0, none⟩) ∧ p < B ∧ w.cell? ⟨p, 0, none⟩ = some sv ∧ w.cell? ⟨p, 1, none⟩ = some ks ∧ w.cell? ⟨p, 2, none⟩ = some it ∧
    SelfOk kind n s keys kids sv ∧ StrsAt B w ks keys ∧ PRItems B w it kids.length (fun j u => PR B w f (kidT kids j) u)
theorem cellR {w w' : World} {b o : Nat} (h : w'.heap[b]? = w.heap[b]?) : w'.cell? ⟨b, o, none⟩ = w.cell? ⟨b, o, none⟩ := World.cell?_of_block (w := w) (a := ⟨b, o, none⟩) h
theorem PR.keep {B B' : Nat} {w w' : World} (hB : B ≤ B') (hk : ∀ b, b < B → w'.heap[b]? = w.heap[b]?) : ∀ {f : Nat} {t : VT} {v : Value}, PR B w f t v → PR B' w' f t v := by
  intro f
  induction f with
  | zero => intro t v h; exact h.elim
  | succ f ih =>
    intro t v h
    obtain ⟨kind, n, s, keys, kids⟩ := t
    obtain ⟨sv, p, ks, it, e, hp, c0, c1, c2, hs, hst, hm, a, cap, ei, hi⟩ := h
    have hst' : StrsAt B' w' ks keys := by
      obtain ⟨g1, g2, ak, ck, rfl, g3⟩ := hst
      refine ⟨g1, g2, ak, ck, rfl, fun hpos => ?_⟩
      obtain ⟨b, o, rfl, hb, hc⟩ := g3 hpos
      exact ⟨b, o, rfl, by omega, fun i hi => (cellR (hk b hb)).trans (hc i hi)⟩
    refine ⟨sv, p, ks, it, e, by omega, (cellR (hk p hp)).trans c0, (cellR (hk p hp)).trans c1, (cellR (hk p hp)).trans c2, hs, hst', hm, a, cap, ei, fun hn => ?_⟩
    obtain ⟨b, ea, hb, hc⟩ := hi hn
    refine ⟨b, ea, by omega, fun j hj => ?_⟩
    obtain ⟨q, h1, h2⟩ := hc j hj
    exact ⟨q, (cellR (hk b hb)).trans h1, ih h2⟩
theorem PR.ptr {B : Nat} {w : World} {f : Nat} {t : VT} {v : Value} (h : PR B w f t v) : ∃ p, v = .pointer (some ⟨p, 0, none⟩) := by
  cases f with
  | zero => exact h.elim
  | succ f =>
    obtain ⟨kind, n, s, keys, kids⟩ := t
    obtain ⟨_, p, _, _, e, _⟩ := h
    exact ⟨p, e⟩
theorem tree_self {B : Nat} {w : World} {f : Nat} {kind n : Int} {s : ByteArray} {keys : List ByteArray} {kids : List VT} {sv : Value} (h : TreeAt B w (f + 1) (.mk kind n s keys kids) sv) : SelfOk kind n s keys kids sv ∧ kids.length ≤ 100000 ∧ keys.length ≤ 8796093022208 ∧ ∀ i, i < keys.length → (keyAt keys i).size ≤ 140737488355328 := by
  rcases h with ⟨rfl, rfl, rfl, rfl, rfl, rfl⟩ | ⟨rfl, rfl, rfl, rfl, rfl⟩ | ⟨rfl, rfl, rfl, rfl, rfl⟩ | ⟨rfl, rfl, rfl, rfl, rfl⟩ | ⟨rfl, rfl, rfl, rfl, it, rfl, hi⟩ | ⟨rfl, rfl, rfl, ks, it, rfl, hs, hi⟩
  · exact ⟨.inl ⟨rfl, rfl, rfl, rfl, rfl, rfl⟩, by simp, by simp, fun i hi => absurd hi (by simp)⟩
  · exact ⟨.inr (.inl ⟨rfl, rfl, rfl, rfl, rfl⟩), by simp, by simp, fun i hi => absurd hi (by simp)⟩
  · exact ⟨.inr (.inr (.inl ⟨rfl, rfl, rfl, rfl, rfl⟩)), by simp, by simp, fun i hi => absurd hi (by simp)⟩
  · exact ⟨.inr (.inr (.inr (.inl ⟨rfl, rfl, rfl, rfl, rfl⟩))), by simp, by simp, fun i hi => absurd hi (by simp)⟩
  · exact ⟨.inr (.inr (.inr (.inr (.inl ⟨rfl, rfl, rfl, rfl, _, rfl⟩)))), hi.1, by simp, fun i hi => absurd hi (by simp)⟩
  · exact ⟨.inr (.inr (.inr (.inr (.inr ⟨rfl, rfl, rfl, _, rfl⟩)))), hi.1, hs.1, hs.2.1⟩
/-- What can be written can be read. -/
theorem PT.read {B : Nat} {w : World} : ∀ {f : Nat} {t : VT} {lo hi X : Nat} {v : Value}, PT B w f t lo hi v → hi ≤ X → PR X w f t v := by
  intro f
  induction f with
  | zero => intro t lo hi X v h; exact h.elim
  | succ f ih =>
    intro t lo hi X v h hX
    obtain ⟨kind, n, s, keys, kids⟩ := t
    obtain ⟨sv, p, ks, it, ps, ls, hs, rfl, ht, hp⟩ := h
    obtain ⟨t1, t2, t3, t4⟩ := tree_self ht
    have c0 : w.cell? ⟨p, 0, none⟩ = some sv := by rw [hp.node.cellAt 0 (by omega)]; rfl
    have c1 : w.cell? ⟨p, 1, none⟩ = some ks := by rw [hp.node.cellAt 1 (by omega)]; rfl
    have c2 : w.cell? ⟨p, 2, none⟩ = some it := by rw [hp.node.cellAt 2 (by omega)]; rfl
    have hpX := hp.top p (Or.inl rfl)
    have hst : StrsAt X w ks keys := by
      have h1 := own_strs hp.keysR t3 t4
      obtain ⟨g1, g2, ak, ck, rfl, g3⟩ := h1
      refine ⟨g1, g2, ak, ck, rfl, fun hpos => ?_⟩
      obtain ⟨b, o, rfl, hb, hc⟩ := g3 hpos
      have hbt := hp.top b (Or.inr (Or.inl rfl))
      exact ⟨b, o, rfl, by omega, hc⟩
    obtain ⟨ai, ci, eit⟩ := own_slice hp.kidsR
    refine ⟨sv, p, ks, it, rfl, by omega, c0, c1, c2, t1, hst, t2, ai, ci, eit, fun hn => ?_⟩
    obtain ⟨gi, capi, ei, _, hgl⟩ := hp.kidsR.form (by omega)
    rw [eit] at ei
    cases ei
    have hgt := hp.top gi (Or.inr (Or.inr (by rw [eit]; rfl)))
    refine ⟨gi, rfl, by omega, fun j hj => ?_⟩
    have hkid := hp.kid j hj
    have hrng := hp.rng j hj
    obtain ⟨q, eq⟩ := hkid.ptr
    rw [eit] at hp
    refine ⟨q, by rw [hp.kidsR.cellAt j (by omega)]; simp [hj, eq], ?_⟩
    rw [← eq]
    exact ih hkid (by omega)

/-- What value answers, at every tree of that height that can be read. -/
def RValues (K f : Nat) : Prop :=
  ∀ (t : VT) (v : Value) (w : World), PR K w f t v → K ≤ w.heap.size →
    Calls Try.prog 41 #[v] w fun e w' => ∃ ty x, e = .returned (.iface ty x) ∧ TK K w.heap.size w'.heap.size w' f t (.iface ty x) ∧ Below w.heap.size w w'

set_option maxRecDepth 100000 in
set_option maxHeartbeats 6400000 in
theorem rvalue_any (K : Nat) : ∀ f, RValues K f := by
  intro f
  induction f with
  | zero => intro t v w h; exact h.elim
  | succ f ih =>
    intro t v w h hK
    obtain ⟨kind, n, s, keys, kids⟩ := t
    obtain ⟨sv, p, ks, it, rfl, hpK, c0, c1, c2, hself, hks, hkn, ai, ci, rfl, hits⟩ := h
    obtain ⟨M, hM2⟩ : ∃ M, kids.length = M := ⟨_, rfl⟩
    have HM := hideIt hM2
    rw [hM2] at hkn hits c2
    clear hM2
    have hpl : p < w.heap.size := by omega
    have HI := hideIt hits
    have HKS := hideIt hks
    have HT := hideIt hself
    have HC0 := hideIt c0
    have HC1 := hideIt c1
    clear hits hks hself c0 c1
    obtain ⟨i0, hi0, hz0, hs0, hy0⟩ := info_parts infoVal
    go_enter Try.func41, Try.ntmps41
    go_wp2_with fail
    go_loopw [3, 11] (fun o i wr => ∃ (k : Nat) (V : Nat → Value) (l h : Nat → Nat), k ≤ M ∧ i = .int .i64 k ∧ TVals K w.heap.size wr o k f (kidT kids) V l h ∧ Below w.heap.size w wr) (fun _ i _ => M - (intOf i).toNat)
    case atStart => exact ⟨0, _, _, _, Nat.zero_le _, rfl, TVals.start _ _ _ _ _, Below.refl _ _⟩
    case round =>
      obtain ⟨k, V, l, h, hk, rfl, hvals, hbl⟩ := hrel
      have HV := hideIt hvals
      have zs := hbl.size
      obtain ⟨ao, co, eo⟩ := own_slice hvals.row
      subst eo
      clear hvals
      by_cases hlt : k < M
      · obtain ⟨gi, rfl, hgK, hgc⟩ := HI.out (by omega)
        obtain ⟨p2, hc2, hkid⟩ := hgc k hlt
        have hgl : gi < w.heap.size := by omega
        have d3 : wr.cell? ⟨gi, k, none⟩ = some (.pointer (some ⟨p2, 0, none⟩)) := (below_cell hbl hgl).trans hc2
        have HKD := hideIt (hkid.keep (w' := wr) (Nat.le_refl _) (fun c hc => hbl.block c (by omega)))
        clear hkid hgc hc2
        go_wp2_with fail
        refine (ih (kidT kids k) _ _ HKD.out (by omega)).mono ?_
        rintro e w1 ⟨ty, x, rfl, htk, hb1⟩
        have z1 := hb1.size
        have HTK := hideIt htk
        have HB1 := hideIt hb1
        have HROW := hideIt (own_below HV.out.row hb1 (fun x hx => (HV.out.row.lt x hx).2))
        clear htk hb1
        go_wp2_with (at_builtin; refine wpList_append_own_at _ rfl _ _ 84 rfl w.heap.size 62 i0 .nilIface 1 16 Try.underlying84 hi0 hz0 hs0 hy0 rfl (by decide) _ _ _ rfl (HROW.out.alloc _) ⟨w1.heap.size, 0, none⟩ 1 1 [.iface ty x] rfl rfl ?c1 ?c2 ?c3 ?c4 ?c5 ?_)
        case c1 => exact cell_one_new _ _ _
        case c2 => intro u hu; simp at hu; subst hu; rfl
        case c3 => unfold maxLen; omega
        case c4 => omega
        case c5 => simp; omega
        intro v' w5 hown hgrow _ hor
        have HV5 := hideIt (HV.out.snoc hK zs HB1.out HTK.out hown hgrow hor)
        have HB5 : Hid (Below w.heap.size w w5) := ((hbl.trans (HB1.out.mono zs)).alloc (by omega) _).grown hgrow (by simp; omega) (fun x hx => (HROW.out.lt x hx).1)
        clear hown hgrow hor
        go_wp2_with fail
        go_roundw
        case rel => exact ⟨k + 1, _, _, _, by omega, by go_num, HV5.out, HB5.out⟩
        case measure => simp [intOf]; omega
      · obtain rfl : k = M := by omega
        have c0 : wr.cell? ⟨p, 0, none⟩ = some sv := (below_cell hbl hpl).trans HC0.out
        have c1 : wr.cell? ⟨p, 1, none⟩ = some ks := (below_cell hbl hpl).trans HC1.out
        have HITS := hideIt (HV.out.items hkn)
        have ht := HT.out
        clear HT c2
        rcases ht with ⟨rfl, rfl, rfl, rfl, rfl, rfl⟩ | ⟨rfl, rfl, rfl, rfl, rfl⟩ | ⟨rfl, rfl, rfl, rfl, rfl⟩ | ⟨rfl, rfl, rfl, rfl, rfl⟩ | ⟨rfl, rfl, rfl, rfl, itv, rfl⟩ | ⟨rfl, rfl, rfl, itv, rfl⟩
        · have t1 := taf_null_list (.agg #[])
          have t2 := ta_null_map (.agg #[])
          go_wp2_with fail
          go_ret
          exact ⟨_, _, rfl, Or.inl ⟨rfl, rfl, rfl, rfl, rfl, rfl⟩, hbl⟩
        · have t1 := taf_bool_list (.agg #[.int .i64 n])
          have t2 := ta_bool_map (.agg #[.int .i64 n])
          go_wp2_with fail
          go_ret
          exact ⟨_, _, rfl, Or.inr (Or.inl ⟨rfl, rfl, rfl, rfl, rfl⟩), hbl⟩
        · have t1 := taf_int_list (.agg #[.int .i64 n])
          have t2 := ta_int_map (.agg #[.int .i64 n])
          go_wp2_with fail
          go_ret
          exact ⟨_, _, rfl, Or.inr (Or.inr (Or.inl ⟨rfl, rfl, rfl, rfl, rfl⟩)), hbl⟩
        · have t1 := taf_text_list (.agg #[.string s])
          have t2 := ta_text_map (.agg #[.string s])
          go_wp2_with fail
          go_ret
          exact ⟨_, _, rfl, Or.inr (Or.inr (Or.inr (Or.inl ⟨rfl, rfl, rfl, rfl, rfl⟩))), hbl⟩
        · have t1 := taf_list_list itv
          have t2 := ta_list_map itv
          go_wp2_with fail
          go_ret
          exact ⟨_, _, rfl, Or.inr (Or.inr (Or.inr (Or.inr (Or.inl ⟨rfl, rfl, rfl, rfl, _, rfl, by rw [HM.out]; exact HITS.out⟩)))), hbl⟩
        · have t1 := taf_map_list itv
          have t2 := ta_map_map itv
          have HKS2 : Hid (StrsAt K wr ks keys) := by
            obtain ⟨g1, g2, ak, ck, rfl, g3⟩ := HKS.out
            refine ⟨g1, g2, ak, ck, rfl, fun hpos => ?_⟩
            obtain ⟨b, o, rfl, hb, hc⟩ := g3 hpos
            exact ⟨b, o, rfl, hb, fun i hi => (below_cell hbl (by omega)).trans (hc i hi)⟩
          obtain ⟨_, _, aks, cks, eks, _⟩ := HKS.out
          subst eks
          go_wp2_with fail
          go_ret
          exact ⟨_, _, rfl, Or.inr (Or.inr (Or.inr (Or.inr (Or.inr ⟨rfl, rfl, rfl, _, _, rfl, HKS2.out, by rw [HM.out]; exact HITS.out⟩)))), hbl⟩
end Go.Proofs.Ytpakfgonemiebaa

/-
  A part in its tree: what is read of the whole when that part is changed.
-/
namespace Go.Proofs.Ytpakfgonemiebaa
open Go.RowKit
set_option linter.unusedSimpArgs false
set_option linter.unusedVariables false

theorem folT_snoc : ∀ (ps : List PS) (t : VT) (x : PS), folT (ps ++ [x]) t = match folT ps t with | none => none | some s => match stepT s x with | none => none | some k => some (kidT (kidsT s) k) := by
  intro ps
  induction ps with
  | nil => intro t x; rfl
  | cons y ps ih =>
    intro t x
    rw [List.cons_append, folT, folT]
    cases stepT t y with
    | none => rfl
    | some k => exact ih _ x
theorem plugT_snoc : ∀ (ps : List PS) (t s u : VT) (x : PS) (k : Nat), folT ps t = some s → stepT s x = some k → plugT (ps ++ [x]) t u = plugT ps t (putKid k u s) := by
  intro ps
  induction ps with
  | nil =>
    intro t s u x k h1 h2
    rw [folT, Option.some.injEq] at h1
    subst h1
    show (match stepT t x with | none => t | some k => putKid k (plugT [] (kidT (kidsT t) k) u) t) = putKid k u t
    rw [h2]
    rfl
  | cons y ps ih =>
    intro t s u x k h1 h2
    rw [folT] at h1
    show (match stepT t y with | none => t | some j => putKid j (plugT (ps ++ [x]) (kidT (kidsT t) j) u) t) = (match stepT t y with | none => t | some j => putKid j (plugT ps (kidT (kidsT t) j) (putKid k u s)) t)
    cases e : stepT t y with
    | none => simp [e] at h1
    | some j =>
      rw [e] at h1
      dsimp only at h1 ⊢
      rw [ih _ s u x k h1 h2]
theorem folT_none (t : VT) {ps : List PS} {k : Nat} (h : folT (ps.take k) t = none) : folT ps t = none := by
  have : ∀ (a b : List PS) (t : VT), folT a t = none → folT (a ++ b) t = none := by
    intro a
    induction a with
    | nil => intro b t h; cases h
    | cons y a ih =>
      intro b t h
      rw [List.cons_append, folT]
      rw [folT] at h
      cases e : stepT t y with
      | none => rfl
      | some j => rw [e] at h; exact ih b _ h
  have h2 := this (ps.take k) (ps.drop k) t h
  rwa [List.take_append_drop] at h2

/-- The whole, read where only the part's blocks have turned. -/
def Ctx (w : World) (X f0 : Nat) (T0 : VT → VT) (v0 : Value) (f lo hi : Nat) (vp : Value) : Prop :=
  ∀ (w' : World) (u : VT) (Y : Nat), X ≤ Y → (∀ k, k < X → (k < lo ∨ hi ≤ k) → w'.heap[k]? = w.heap[k]?) → PR Y w' f u vp → PR Y w' f0 (T0 u) v0
theorem Ctx.id (w : World) (X f0 lo hi : Nat) (v0 : Value) : Ctx w X f0 (fun u => u) v0 f0 lo hi v0 := fun _ _ _ _ _ h => h
theorem Ctx.below {w w1 : World} {X f0 f lo hi : Nat} {T0 : VT → VT} {v0 vp : Value} (h : Ctx w X f0 T0 v0 f lo hi vp) (hb : ∀ k, k < X → w1.heap[k]? = w.heap[k]?) : Ctx w1 X f0 T0 v0 f lo hi vp :=
  fun w' u Y hY hs hp => h w' u Y hY (fun k hk ho => (hs k hk ho).trans (hb k hk)) hp
theorem Ctx.step {B : Nat} {w : World} {X f0 f lo hi : Nat} {T0 : VT → VT} {v0 : Value} {kind n : Int} {s : ByteArray} {keys : List ByteArray} {kids : List VT} {sv : Value} {p : Nat} {ks it : Value} {ps : Nat → Value} {ls hs : Nat → Nat}
    (h : Ctx w X f0 T0 v0 (f + 1) lo hi (.pointer (some ⟨p, 0, none⟩))) (ht : TreeAt B w (f + 1) (.mk kind n s keys kids) sv) (hp : PNode w lo hi sv keys kids.length (fun j l h u => PT B w f (kidT kids j) l h u) p ks it ps ls hs)
    (hX : hi ≤ X) (hh : hi ≤ w.heap.size) (hB : B ≤ lo) {k : Nat} (hk : k < kids.length) :
    Ctx w X f0 (fun u => T0 (putKid k u (.mk kind n s keys kids))) v0 f (ls k) (hs k) (ps k) := by
  intro w' u Y hY hsame hpr
  have hr := hp.rng k hk
  refine h w' _ Y hY (fun c hc ho => hsame c hc (by omega)) ?_
  have hout := hp.out k hk
  have hb : ∀ x, POwn p ks it x → w'.heap[x]? = w.heap[x]? := fun x hx => hsame x (by have := hp.top x hx; omega) (hout x hx)
  obtain ⟨t1, t2, t3, t4⟩ := tree_self ht
  have c0 : w.cell? ⟨p, 0, none⟩ = some sv := by rw [hp.node.cellAt 0 (by omega)]; rfl
  have c1 : w.cell? ⟨p, 1, none⟩ = some ks := by rw [hp.node.cellAt 1 (by omega)]; rfl
  have c2 : w.cell? ⟨p, 2, none⟩ = some it := by rw [hp.node.cellAt 2 (by omega)]; rfl
  have hpX := hp.top p (Or.inl rfl)
  have hpb := hb p (Or.inl rfl)
  have hst : StrsAt Y w' ks keys := by
    have h1 := own_strs hp.keysR t3 t4
    obtain ⟨g1, g2, ak, ck, rfl, g3⟩ := h1
    refine ⟨g1, g2, ak, ck, rfl, fun hpos => ?_⟩
    obtain ⟨b, o, rfl, hbb, hc⟩ := g3 hpos
    have hbt := hp.top b (Or.inr (Or.inl rfl))
    exact ⟨b, o, rfl, by omega, fun i hi => (cellR (hb b (Or.inr (Or.inl rfl)))).trans (hc i hi)⟩
  have hself : SelfOk kind n s keys (kids.set k u) sv := by
    rcases t1 with ⟨_, _, _, _, e, _⟩ | ⟨_, _, _, e, _⟩ | ⟨_, _, _, e, _⟩ | ⟨_, _, _, e, _⟩ | q | q
    · rw [e] at hk; simp at hk
    · rw [e] at hk; simp at hk
    · rw [e] at hk; simp at hk
    · rw [e] at hk; simp at hk
    · exact .inr (.inr (.inr (.inr (.inl q))))
    · exact .inr (.inr (.inr (.inr (.inr q))))
  obtain ⟨ai, ci, eit⟩ := own_slice hp.kidsR
  refine ⟨sv, p, ks, it, rfl, by omega, (cellR hpb).trans c0, (cellR hpb).trans c1, (cellR hpb).trans c2, hself, hst, by rw [List.length_set]; exact t2, ai, ci, by rw [List.length_set]; exact eit, fun hn => ?_⟩
  obtain ⟨gi, capi, ei, _, hgl⟩ := hp.kidsR.form (by omega)
  rw [eit] at ei
  cases ei
  have hgt := hp.top gi (Or.inr (Or.inr (by rw [eit]; rfl)))
  have hgb := hb gi (Or.inr (Or.inr (by rw [eit]; rfl)))
  refine ⟨gi, rfl, by omega, fun j hj => ?_⟩
  rw [List.length_set] at hj
  have hkid := hp.kid j hj
  have hrng := hp.rng j hj
  obtain ⟨q, eq⟩ := hkid.ptr
  rw [eit] at hp
  refine ⟨q, (cellR hgb).trans (by rw [hp.kidsR.cellAt j (by omega)]; simp [hj, eq]), ?_⟩
  show PR Y w' f (kidT (kids.set k u) j) _
  rw [kid_set hk, ← eq]
  by_cases e : j = k
  · subst e; rw [if_pos rfl]; exact hpr
  · rw [if_neg e]
    refine (hkid.move (w' := w') (fun c hc => ?_) (Nat.le_refl _) (Nat.le_refl _) (fun c h1 h2 => ?_)).read (by omega)
    · exact hsame c (by omega) (by omega)
    · refine hsame c (by omega) ?_
      rcases Nat.lt_or_gt_of_ne e with l | l
      · have := hp.ord j k l hk; omega
      · have := hp.ord k j l hj; omega
end Go.Proofs.Ytpakfgonemiebaa

/-
  (*impl.treePart).follow, and what is read of the whole when the part that it leads to is changed.
-/
namespace Go.Proofs.Ytpakfgonemiebaa
open Go.RowKit
set_option linter.unusedSimpArgs false
set_option linter.unusedVariables false

def folPtrT (o : Option VT) (p : Nat) : Value := match o with
  | none => .pointer none
  | some _ => .pointer (some ⟨p, 0, none⟩)
/-- What a good part says of its keys. -/
theorem good6 {f : Nat} {kind n : Int} {s : ByteArray} {keys : List ByteArray} {kids : List VT} (hg : goodT f (.mk kind n s keys kids)) (h6 : kind = 6) (hk : keys.length ≤ 1048576) : Rise keys ∧ keys.length ≤ 1048576 ∧ ∀ i, i < keys.length → (keyAt keys i).size ≤ 140737488355328 := by
  cases f with
  | zero => exact hg.elim
  | succ f =>
    rcases nodeT_says hg.1 with ⟨e2, _⟩ | ⟨e2, _⟩ | ⟨e2, _⟩ | ⟨e2, _⟩ | ⟨e2, _⟩ | ⟨_, _, _, hm, hr⟩
    · omega
    · omega
    · omega
    · omega
    · omega
    · refine ⟨riseB_rise hr, hk, fun i hi => ?_⟩
      have := (rise_at hr hi).1
      unfold textB at this
      simp only [Bool.and_eq_true, decide_eq_true_eq] at this
      omega
theorem PT.keysN {B : Nat} {w : World} {f : Nat} {kind n : Int} {s : ByteArray} {keys : List ByteArray} {kids : List VT} {lo hi : Nat} {v : Value} (h : PT B w f (.mk kind n s keys kids) lo hi v) (hg : goodT f (.mk kind n s keys kids)) : keys.length ≤ 1048576 := by
  cases f with
  | zero => exact h.elim
  | succ f =>
    obtain ⟨sv, p, ks, it, ps, ls, hs, e, ht, hp⟩ := h
    have := (tree_self ht).2.1
    rcases nodeT_says hg.1 with ⟨_, _, _, e2, _⟩ | ⟨_, _, _, e2, _⟩ | ⟨_, _, _, e2, _⟩ | ⟨_, _, _, e2, _⟩ | ⟨_, _, _, e2⟩ | ⟨_, _, _, hm, hr⟩
    · rw [e2]; simp
    · rw [e2]; simp
    · rw [e2]; simp
    · rw [e2]; simp
    · rw [e2]; simp
    · omega

set_option maxRecDepth 100000 in
set_option maxHeartbeats 3200000 in
theorem followC_any (B X f0 : Nat) (t0 : VT) (lo0 hi0 p0 : Nat) (v : Value) (ps : List PS) (w : World) (h : PT B w f0 t0 lo0 hi0 (.pointer (some ⟨p0, 0, none⟩))) (hg0 : goodT f0 t0) (hBl : B ≤ lo0) (hX : hi0 ≤ X) (hXw : X ≤ w.heap.size) (hh : hi0 ≤ w.heap.size) (hBw : B ≤ w.heap.size)
    (hv : StepsAt w.heap.size w v ps) (hst : ∀ k, k < ps.length → stepB (stepAt ps k) = true) :
    Calls Try.prog 46 #[.pointer (some ⟨p0, 0, none⟩), v] w fun e w' => ∃ p, e = .returned (.tuple #[folPtrT (folT ps t0) p, .bool (folT ps t0).isSome]) ∧ (∀ s, folT ps t0 = some s → ∃ f lo hi, (f0 ≤ f + ps.length ∧ goodT f s) ∧ lo0 ≤ lo ∧ hi ≤ hi0 ∧ PT B w' f s lo hi (.pointer (some ⟨p, 0, none⟩)) ∧ Ctx w' X f0 (plugT ps t0) (.pointer (some ⟨p0, 0, none⟩)) f lo hi (.pointer (some ⟨p, 0, none⟩))) ∧ Below w.heap.size w w' := by
  obtain ⟨hlen, hfit, a, cap, rfl, hcell⟩ := hv
  have HC := hideIt hcell
  have HF := hideIt hfit
  have HST := hideIt hst
  have HP0 := hideIt h
  clear hcell hfit hst h
  go_enter Try.func46, Try.ntmps46
  go_wp2_with fail
  go_loopw [0, 12] (fun t i wr => ∃ (k f lo hi p : Nat) (s : VT), k ≤ ps.length ∧ i = .int .i64 k ∧ t = .pointer (some ⟨p, 0, none⟩) ∧ folT (ps.take k) t0 = some s ∧ (f0 ≤ f + k ∧ goodT f s) ∧ lo0 ≤ lo ∧ hi ≤ hi0 ∧ PT B wr f s lo hi (.pointer (some ⟨p, 0, none⟩)) ∧ Ctx wr X f0 (plugT (ps.take k) t0) (.pointer (some ⟨p0, 0, none⟩)) f lo hi (.pointer (some ⟨p, 0, none⟩)) ∧ Below w.heap.size w wr) (fun _ i _ => ps.length - (intOf i).toNat)
  case atStart => exact ⟨0, f0, lo0, hi0, p0, t0, Nat.zero_le _, rfl, rfl, rfl, ⟨Nat.le_refl _, hg0⟩, Nat.le_refl _, Nat.le_refl _, HP0.out, Ctx.id _ _ _ _ _ _, Below.refl _ _⟩
  case round =>
    obtain ⟨k, f, lo, hi', p, s, hk, rfl, rfl, hgot, ⟨hfk, hgd⟩, hlo, hhi, hpt, hctx, hbl⟩ := hrel
    have HFK := hideIt hfk
    clear hfk
    have HG := hideIt hgot
    have HPT := hideIt hpt
    have HGD := hideIt hgd
    have HCT := hideIt hctx
    have zs := hbl.size
    clear hgot hpt HP0 hgd hctx
    by_cases hlt : k < ps.length
    · obtain ⟨b, o, rfl, hbB, hc⟩ := HC.out (by omega)
      obtain ⟨hc0, hc1, hc2⟩ := hc k hlt
      have c0 := (below_cell hbl hbB).trans hc0
      have c1 := (below_cell hbl hbB).trans hc1
      have c2 := (below_cell hbl hbB).trans hc2
      have hfx := HF.out k hlt
      have hsx := HST.out k hlt
      have h0x : (stepAt ps k).named = true ∨ 0 ≤ (stepAt ps k).pl := by
        unfold stepB at hsx
        cases hnm : (stepAt ps k).named
        · right; simp [hnm] at hsx; omega
        · exact Or.inl rfl
      have HTS := hideIt (take_step hlt)
      have HNX : Hid (folT (ps.take (k + 1)) t0 = match stepT s (stepAt ps k) with | none => none | some j => some (kidT (kidsT s) j)) := by
        rw [Hid, HTS.out, folT_snoc, HG.out]
        try rfl
      have HPL : Hid (∀ j u, stepT s (stepAt ps k) = some j → plugT (ps.take (k + 1)) t0 u = plugT (ps.take k) t0 (putKid j u s)) := fun j u hj => by rw [HTS.out]; exact plugT_snoc _ _ _ _ _ _ HG.out hj
      generalize stepAt ps k = x at *
      obtain ⟨g, rfl⟩ : ∃ g, f = g + 1 := by
        cases f with
        | zero => exact HGD.out.elim
        | succ g => exact ⟨g, rfl⟩
      obtain ⟨kind, n, sx, keys, kids⟩ := s
      have hba : Below wr.heap.size wr (wr.alloc (.cells #[.bool x.named, .string x.key, .int .i64 x.pl] 39)) := (Below.refl _ _).alloc (Nat.le_refl _) _
      have HPA := hideIt (HPT.out.below hba (by omega) (by omega))
      have HBA := hideIt hba
      clear hc hc0 hc1 hc2 hsx hba
      have HFI := hideIt (fun W (hW : PT B W (g + 1) (.mk kind n sx keys kids) lo hi' (.pointer (some ⟨p, 0, none⟩))) => find_any B g _ _ _ _ _ lo hi' p x W hW (fun e => good6 HGD.out e (HPT.out.keysN HGD.out)) hfx.2)
      cases hsn : stepTo kind keys kids.length x with
      | none =>
        have HFR : Hid ((findR kind keys kids.length x).2 = false) := findR_none hsn
        have HGN : Hid (folT ps t0 = none) := folT_none t0 (k := k + 1) (by rw [HNX.out]; show (match stepTo kind keys kids.length x with | none => none | some j => _) = _; rw [hsn])
        go_wp2_with fail
        refine (HFI.out _ HPA.out).mono ?_
        rintro e w1 ⟨rfl, hb1⟩
        rw [HFR.out]
        generalize (findR kind keys kids.length x).1 = at1
        have HB1 : Hid (Below w.heap.size w w1) := (hbl.trans (HBA.out.mono zs)).trans (hb1.mono (by simp; omega))
        clear hb1
        go_wp2_with fail
        go_ret2
        exact ⟨0, by rw [HGN.out]; rfl, fun q' hq' => absurd (HGN.out.symm.trans hq') (by simp), HB1.out⟩
      | some j =>
        have hjl : j < kids.length := stepT_lt (t := .mk kind n sx keys kids) HGD.out h0x hsn
        have HFR : Hid (findR kind keys kids.length x = ((j : Int), true)) := findR_some h0x hsn
        have HNX2 : Hid (folT (ps.take (k + 1)) t0 = some (kidT kids j)) := by rw [Hid, HNX.out]; show (match stepTo kind keys kids.length x with | none => none | some j => _) = _; rw [hsn]; rfl
        have HPL2 : Hid (plugT (ps.take (k + 1)) t0 = fun u => plugT (ps.take k) t0 (putKid j u (.mk kind n sx keys kids))) := by funext u; exact HPL.out j u hsn
        clear HPL HNX
        go_wp2_with fail
        refine (HFI.out _ HPA.out).mono ?_
        rintro e w1 ⟨rfl, hb1⟩
        rw [HFR.out]
        have z1 := hb1.size
        simp only [World.size_alloc] at z1
        have HB1 : Hid (Below w.heap.size w w1) := (hbl.trans (HBA.out.mono zs)).trans (hb1.mono (by simp; omega))
        have HWR1 : Hid (Below wr.heap.size wr w1) := HBA.out.trans (hb1.mono (by simp))
        have hp1 := HPA.out.below hb1 (by simp; omega) (by simp; omega)
        obtain ⟨sv, p', ks, it, pp, ls, hs, e1, htr, hp⟩ := hp1
        obtain rfl : p = p' := by simpa using e1
        have HCX := hideIt ((HCT.out.below (fun c hc => HWR1.out.block c (by omega))).step htr hp (by omega) (by omega) (by omega) hjl)
        rw [← HPL2.out] at HCX
        have d2 : w1.cell? ⟨p, 2, none⟩ = some it := by rw [hp.node.cellAt 2 (by omega)]; rfl
        obtain ⟨ai, ci, rfl⟩ := own_slice hp.kidsR
        obtain ⟨gi, capi, ei, _, hgl⟩ := hp.kidsR.form (by omega)
        cases ei
        have d3 : w1.cell? ⟨gi, j, none⟩ = some (pp j) := by rw [hp.kidsR.cellAt j (by omega)]; simp [hjl]
        have hkid := hp.kid j hjl
        have hrng := hp.rng j hjl
        obtain ⟨p2, ep2⟩ := hkid.ptr
        rw [ep2] at d3 hkid HCX
        have HKD := hideIt hkid
        have HGK := hideIt (HGD.out.2 j hjl)
        have hjm : (j : Int) < (kids.length : Int) := by omega
        clear hp hb1 hkid e1 ep2 htr
        go_wp2_with fail
        go_roundw
        case rel => exact ⟨k + 1, g, ls j, hs j, p2, kidT kids j, by omega, by go_num, rfl, HNX2.out, ⟨by have := HFK.out; omega, HGK.out⟩, by omega, by omega, HKD.out, HCX.out, HB1.out⟩
        case measure => simp [intOf]; omega
    · obtain rfl : k = ps.length := by omega
      have HGN : Hid (folT ps t0 = some s) := by have := HG.out; rw [List.take_length] at this; exact this
      have HCT2 := HCT.out
      rw [List.take_length] at HCT2
      have HCT3 := hideIt HCT2
      clear HCT2 HCT
      go_wp2_with fail
      go_ret2
      exact ⟨p, by rw [HGN.out]; rfl, fun q' hq' => (by rw [HGN.out] at hq'; cases hq'; exact ⟨f, lo, hi', ⟨HFK.out, HGD.out⟩, hlo, hhi, HPT.out, HCT3.out⟩), hbl⟩
end Go.Proofs.Ytpakfgonemiebaa
