/-
  (*impl.treePart).value over parts of which some were changed: what is asked of memory is that it can be read, no more.
-/
import Derived.Test.YtpakfgonemiebaaTVal
import Derived.Test.YtpakfgonemiebaaSParts
import Derived.Test.YtpakfgonemiebaaStb
import Derived.Test.YtpakfgonemiebaaProg
import Derived.Deep.OwnRows
import Derived.KernelRfl
import Derived.Deep.QuietTactic
import Derived.BigQuiet
import Derived.WalkSmall
import Derived.Deep.RegionWith
namespace Go.Proofs.Ytpakfgonemiebaa
open Go.RowKit
set_option linter.unusedSimpArgs false
set_option linter.unusedVariables false

def SelfOk (kind n : Int) (s : ByteArray) (keys : List ByteArray) (kids : List VT) (sv : Value) : Prop :=
  (kind = 1 ∧ n = 0 ∧ s = ByteArray.empty ∧ keys = [] ∧ kids = [] ∧ sv = .iface 150 (.agg #[])) ∨
  (kind = 2 ∧ s = ByteArray.empty ∧ keys = [] ∧ kids = [] ∧ sv = .iface 140 (.agg #[.int .i64 n])) ∨
  (kind = 3 ∧ s = ByteArray.empty ∧ keys = [] ∧ kids = [] ∧ sv = .iface 141 (.agg #[.int .i64 n])) ∨
  (kind = 4 ∧ n = 0 ∧ keys = [] ∧ kids = [] ∧ sv = .iface 143 (.agg #[.string s])) ∨
  (kind = 5 ∧ n = 0 ∧ s = ByteArray.empty ∧ keys = [] ∧ ∃ x, sv = .iface 124 x) ∨
  (kind = 6 ∧ n = 0 ∧ s = ByteArray.empty ∧ ∃ x, sv = .iface 120 x)
def PRItems (B : Nat) (w : World) (it : Value) (n : Nat) (Q : Nat → Value → Prop) : Prop :=
  n ≤ 100000 ∧ ∃ a cap, it = .slice a n cap ∧ (0 < n → ∃ b, a = some ⟨b, 0, none⟩ ∧ b < B ∧ ∀ j, j < n → ∃ p, w.cell? ⟨b, j, none⟩ = some (.pointer (some ⟨p, 0, none⟩)) ∧ Q j (.pointer (some ⟨p, 0, none⟩)))
/-- A part that can be read: its blocks lie below B. -/
def PR (B : Nat) (w : World) : Nat → VT → Value → Prop
  | 0, _, _ => False
  | f + 1, .mk kind n s keys kids, v => ∃ sv p ks it, v = .pointer (some ⟨p, 0, none⟩) ∧ p < B ∧ w.cell? ⟨p, 0, none⟩ = some sv ∧ w.cell? ⟨p, 1, none⟩ = some ks ∧ w.cell? ⟨p, 2, none⟩ = some it ∧
    SelfOk kind n s keys kids sv ∧ StrsAt B w ks keys ∧ PRItems B w it kids.length (fun j u => PR B w f (kidT kids j) u)
theorem cellR {w w' : World} {b o : Nat} (h : w'.heap[b]? = w.heap[b]?) : w'.cell? ⟨b, o, none⟩ = w.cell? ⟨b, o, none⟩ := World.cell?_of_block (w := w) (a := ⟨b, o, none⟩) h
theorem PR.keep {B B' : Nat} {w w' : World} (hB : B ≤ B') (hk : ∀ b, b < B → w'.heap[b]? = w.heap[b]?) : ∀ {f : Nat} {t : VT} {v : Value}, PR B w f t v → PR B' w' f t v := by
  intro f
  induction f with
  | zero => intro t v h; exact h.elim
  | succ f ih =>
    intro t v h
    obtain ⟨kind, n, s, keys, kids⟩ := t
    obtain ⟨sv, p, ks, it, e, hp, c0, c1, c2, hs, hst, hm, a, cap, ei, hi⟩ := h
    have hst' : StrsAt B' w' ks keys := by
      obtain ⟨g1, g2, ak, ck, rfl, g3⟩ := hst
      refine ⟨g1, g2, ak, ck, rfl, fun hpos => ?_⟩
      obtain ⟨b, o, rfl, hb, hc⟩ := g3 hpos
      exact ⟨b, o, rfl, by omega, fun i hi => (cellR (hk b hb)).trans (hc i hi)⟩
    refine ⟨sv, p, ks, it, e, by omega, (cellR (hk p hp)).trans c0, (cellR (hk p hp)).trans c1, (cellR (hk p hp)).trans c2, hs, hst', hm, a, cap, ei, fun hn => ?_⟩
    obtain ⟨b, ea, hb, hc⟩ := hi hn
    refine ⟨b, ea, by omega, fun j hj => ?_⟩
    obtain ⟨q, h1, h2⟩ := hc j hj
    exact ⟨q, (cellR (hk b hb)).trans h1, ih h2⟩
theorem PR.ptr {B : Nat} {w : World} {f : Nat} {t : VT} {v : Value} (h : PR B w f t v) : ∃ p, v = .pointer (some ⟨p, 0, none⟩) := by
  cases f with
  | zero => exact h.elim
  | succ f =>
    obtain ⟨kind, n, s, keys, kids⟩ := t
    obtain ⟨_, p, _, _, e, _⟩ := h
    exact ⟨p, e⟩
theorem tree_self {B : Nat} {w : World} {f : Nat} {kind n : Int} {s : ByteArray} {keys : List ByteArray} {kids : List VT} {sv : Value} (h : TreeAt B w (f + 1) (.mk kind n s keys kids) sv) : SelfOk kind n s keys kids sv ∧ kids.length ≤ 100000 ∧ keys.length ≤ 8796093022208 ∧ ∀ i, i < keys.length → (keyAt keys i).size ≤ 140737488355328 := by
  rcases h with ⟨rfl, rfl, rfl, rfl, rfl, rfl⟩ | ⟨rfl, rfl, rfl, rfl, rfl⟩ | ⟨rfl, rfl, rfl, rfl, rfl⟩ | ⟨rfl, rfl, rfl, rfl, rfl⟩ | ⟨rfl, rfl, rfl, rfl, it, rfl, hi⟩ | ⟨rfl, rfl, rfl, ks, it, rfl, hs, hi⟩
  · exact ⟨.inl ⟨rfl, rfl, rfl, rfl, rfl, rfl⟩, by simp, by simp, fun i hi => absurd hi (by simp)⟩
  · exact ⟨.inr (.inl ⟨rfl, rfl, rfl, rfl, rfl⟩), by simp, by simp, fun i hi => absurd hi (by simp)⟩
  · exact ⟨.inr (.inr (.inl ⟨rfl, rfl, rfl, rfl, rfl⟩)), by simp, by simp, fun i hi => absurd hi (by simp)⟩
  · exact ⟨.inr (.inr (.inr (.inl ⟨rfl, rfl, rfl, rfl, rfl⟩))), by simp, by simp, fun i hi => absurd hi (by simp)⟩
  · exact ⟨.inr (.inr (.inr (.inr (.inl ⟨rfl, rfl, rfl, rfl, _, rfl⟩)))), hi.1, by simp, fun i hi => absurd hi (by simp)⟩
  · exact ⟨.inr (.inr (.inr (.inr (.inr ⟨rfl, rfl, rfl, _, rfl⟩)))), hi.1, hs.1, hs.2.1⟩
/-- What can be written can be read. -/
theorem PT.read {B : Nat} {w : World} : ∀ {f : Nat} {t : VT} {lo hi X : Nat} {v : Value}, PT B w f t lo hi v → hi ≤ X → PR X w f t v := by
  intro f
  induction f with
  | zero => intro t lo hi X v h; exact h.elim
  | succ f ih =>
    intro t lo hi X v h hX
    obtain ⟨kind, n, s, keys, kids⟩ := t
    obtain ⟨sv, p, ks, it, ps, ls, hs, rfl, ht, hp⟩ := h
    obtain ⟨t1, t2, t3, t4⟩ := tree_self ht
    have c0 : w.cell? ⟨p, 0, none⟩ = some sv := by rw [hp.node.cellAt 0 (by omega)]; rfl
    have c1 : w.cell? ⟨p, 1, none⟩ = some ks := by rw [hp.node.cellAt 1 (by omega)]; rfl
    have c2 : w.cell? ⟨p, 2, none⟩ = some it := by rw [hp.node.cellAt 2 (by omega)]; rfl
    have hpX := hp.top p (Or.inl rfl)
    have hst : StrsAt X w ks keys := by
      have h1 := own_strs hp.keysR t3 t4
      obtain ⟨g1, g2, ak, ck, rfl, g3⟩ := h1
      refine ⟨g1, g2, ak, ck, rfl, fun hpos => ?_⟩
      obtain ⟨b, o, rfl, hb, hc⟩ := g3 hpos
      have hbt := hp.top b (Or.inr (Or.inl rfl))
      exact ⟨b, o, rfl, by omega, hc⟩
    obtain ⟨ai, ci, eit⟩ := own_slice hp.kidsR
    refine ⟨sv, p, ks, it, rfl, by omega, c0, c1, c2, t1, hst, t2, ai, ci, eit, fun hn => ?_⟩
    obtain ⟨gi, capi, ei, _, hgl⟩ := hp.kidsR.form (by omega)
    rw [eit] at ei
    cases ei
    have hgt := hp.top gi (Or.inr (Or.inr (by rw [eit]; rfl)))
    refine ⟨gi, rfl, by omega, fun j hj => ?_⟩
    have hkid := hp.kid j hj
    have hrng := hp.rng j hj
    obtain ⟨q, eq⟩ := hkid.ptr
    rw [eit] at hp
    refine ⟨q, by rw [hp.kidsR.cellAt j (by omega)]; simp [hj, eq], ?_⟩
    rw [← eq]
    exact ih hkid (by omega)

/-- What value answers, at every tree of that height that can be read. -/
def RValues (K f : Nat) : Prop :=
  ∀ (t : VT) (v : Value) (w : World), PR K w f t v → K ≤ w.heap.size →
    Calls Try.prog 41 #[v] w fun e w' => ∃ ty x, e = .returned (.iface ty x) ∧ TK K w.heap.size w'.heap.size w' f t (.iface ty x) ∧ Below w.heap.size w w'

set_option maxRecDepth 100000 in
set_option maxHeartbeats 6400000 in
theorem rvalue_any (K : Nat) : ∀ f, RValues K f := by
  intro f
  induction f with
  | zero => intro t v w h; exact h.elim
  | succ f ih =>
    intro t v w h hK
    obtain ⟨kind, n, s, keys, kids⟩ := t
    obtain ⟨sv, p, ks, it, rfl, hpK, c0, c1, c2, hself, hks, hkn, ai, ci, rfl, hits⟩ := h
    obtain ⟨M, hM2⟩ : ∃ M, kids.length = M := ⟨_, rfl⟩
    have HM := hideIt hM2
    rw [hM2] at hkn hits c2
    clear hM2
    have hpl : p < w.heap.size := by omega
    have HI := hideIt hits
    have HKS := hideIt hks
    have HT := hideIt hself
    have HC0 := hideIt c0
    have HC1 := hideIt c1
    clear hits hks hself c0 c1
    obtain ⟨i0, hi0, hz0, hs0, hy0⟩ := info_parts infoVal
    go_enter Try.func41, Try.ntmps41
    go_wp2_with fail
    go_loopw [3, 11] (fun o i wr => ∃ (k : Nat) (V : Nat → Value) (l h : Nat → Nat), k ≤ M ∧ i = .int .i64 k ∧ TVals K w.heap.size wr o k f (kidT kids) V l h ∧ Below w.heap.size w wr) (fun _ i _ => M - (intOf i).toNat)
    case atStart => exact ⟨0, _, _, _, Nat.zero_le _, rfl, TVals.start _ _ _ _ _, Below.refl _ _⟩
    case round =>
      obtain ⟨k, V, l, h, hk, rfl, hvals, hbl⟩ := hrel
      have HV := hideIt hvals
      have zs := hbl.size
      obtain ⟨ao, co, eo⟩ := own_slice hvals.row
      subst eo
      clear hvals
      by_cases hlt : k < M
      · obtain ⟨gi, rfl, hgK, hgc⟩ := HI.out (by omega)
        obtain ⟨p2, hc2, hkid⟩ := hgc k hlt
        have hgl : gi < w.heap.size := by omega
        have d3 : wr.cell? ⟨gi, k, none⟩ = some (.pointer (some ⟨p2, 0, none⟩)) := (below_cell hbl hgl).trans hc2
        have HKD := hideIt (hkid.keep (w' := wr) (Nat.le_refl _) (fun c hc => hbl.block c (by omega)))
        clear hkid hgc hc2
        go_wp2_with fail
        refine (ih (kidT kids k) _ _ HKD.out (by omega)).mono ?_
        rintro e w1 ⟨ty, x, rfl, htk, hb1⟩
        have z1 := hb1.size
        have HTK := hideIt htk
        have HB1 := hideIt hb1
        have HROW := hideIt (own_below HV.out.row hb1 (fun x hx => (HV.out.row.lt x hx).2))
        clear htk hb1
        go_wp2_with (at_builtin; refine wpList_append_own_at _ rfl _ _ 84 rfl w.heap.size 62 i0 .nilIface 1 16 Try.underlying84 hi0 hz0 hs0 hy0 rfl (by decide) _ _ _ rfl (HROW.out.alloc _) ⟨w1.heap.size, 0, none⟩ 1 1 [.iface ty x] rfl rfl ?c1 ?c2 ?c3 ?c4 ?c5 ?_)
        case c1 => exact cell_one_new _ _ _
        case c2 => intro u hu; simp at hu; subst hu; rfl
        case c3 => unfold maxLen; omega
        case c4 => omega
        case c5 => simp; omega
        intro v' w5 hown hgrow _ hor
        have HV5 := hideIt (HV.out.snoc hK zs HB1.out HTK.out hown hgrow hor)
        have HB5 : Hid (Below w.heap.size w w5) := ((hbl.trans (HB1.out.mono zs)).alloc (by omega) _).grown hgrow (by simp; omega) (fun x hx => (HROW.out.lt x hx).1)
        clear hown hgrow hor
        go_wp2_with fail
        go_roundw
        case rel => exact ⟨k + 1, _, _, _, by omega, by go_num, HV5.out, HB5.out⟩
        case measure => simp [intOf]; omega
      · obtain rfl : k = M := by omega
        have c0 : wr.cell? ⟨p, 0, none⟩ = some sv := (below_cell hbl hpl).trans HC0.out
        have c1 : wr.cell? ⟨p, 1, none⟩ = some ks := (below_cell hbl hpl).trans HC1.out
        have HITS := hideIt (HV.out.items hkn)
        have ht := HT.out
        clear HT c2
        rcases ht with ⟨rfl, rfl, rfl, rfl, rfl, rfl⟩ | ⟨rfl, rfl, rfl, rfl, rfl⟩ | ⟨rfl, rfl, rfl, rfl, rfl⟩ | ⟨rfl, rfl, rfl, rfl, rfl⟩ | ⟨rfl, rfl, rfl, rfl, itv, rfl⟩ | ⟨rfl, rfl, rfl, itv, rfl⟩
        · have t1 := taf_null_list (.agg #[])
          have t2 := ta_null_map (.agg #[])
          go_wp2_with fail
          go_ret
          exact ⟨_, _, rfl, Or.inl ⟨rfl, rfl, rfl, rfl, rfl, rfl⟩, hbl⟩
        · have t1 := taf_bool_list (.agg #[.int .i64 n])
          have t2 := ta_bool_map (.agg #[.int .i64 n])
          go_wp2_with fail
          go_ret
          exact ⟨_, _, rfl, Or.inr (Or.inl ⟨rfl, rfl, rfl, rfl, rfl⟩), hbl⟩
        · have t1 := taf_int_list (.agg #[.int .i64 n])
          have t2 := ta_int_map (.agg #[.int .i64 n])
          go_wp2_with fail
          go_ret
          exact ⟨_, _, rfl, Or.inr (Or.inr (Or.inl ⟨rfl, rfl, rfl, rfl, rfl⟩)), hbl⟩
        · have t1 := taf_text_list (.agg #[.string s])
          have t2 := ta_text_map (.agg #[.string s])
          go_wp2_with fail
          go_ret
          exact ⟨_, _, rfl, Or.inr (Or.inr (Or.inr (Or.inl ⟨rfl, rfl, rfl, rfl, rfl⟩))), hbl⟩
        · have t1 := taf_list_list itv
          have t2 := ta_list_map itv
          go_wp2_with fail
          go_ret
          exact ⟨_, _, rfl, Or.inr (Or.inr (Or.inr (Or.inr (Or.inl ⟨rfl, rfl, rfl, rfl, _, rfl, by rw [HM.out]; exact HITS.out⟩)))), hbl⟩
        · have t1 := taf_map_list itv
          have t2 := ta_map_map itv
          have HKS2 : Hid (StrsAt K wr ks keys) := by
            obtain ⟨g1, g2, ak, ck, rfl, g3⟩ := HKS.out
            refine ⟨g1, g2, ak, ck, rfl, fun hpos => ?_⟩
            obtain ⟨b, o, rfl, hb, hc⟩ := g3 hpos
            exact ⟨b, o, rfl, hb, fun i hi => (below_cell hbl (by omega)).trans (hc i hi)⟩
          obtain ⟨_, _, aks, cks, eks, _⟩ := HKS.out
          subst eks
          go_wp2_with fail
          go_ret
          exact ⟨_, _, rfl, Or.inr (Or.inr (Or.inr (Or.inr (Or.inr ⟨rfl, rfl, rfl, _, _, rfl, HKS2.out, by rw [HM.out]; exact HITS.out⟩)))), hbl⟩
end Go.Proofs.Ytpakfgonemiebaa

/-
  A part in its tree: what is read of the whole when that part is changed.
-/
namespace Go.Proofs.Ytpakfgonemiebaa
open Go.RowKit
set_option linter.unusedSimpArgs false
set_option linter.unusedVariables false

theorem folT_snoc : ∀ (ps : List PS) (t : VT) (x : PS), folT (ps ++ [x]) t = match folT ps t with | none => none | some s => match stepT s x with | none => none | some k => some (kidT (kidsT s) k) := by
  intro ps
  induction ps with
  | nil => intro t x; rfl
  | cons y ps ih =>
    intro t x
    rw [List.cons_append, folT, folT]
    cases stepT t y with
    | none => rfl
    | some k => exact ih _ x
theorem plugT_snoc : ∀ (ps : List PS) (t s u : VT) (x : PS) (k : Nat), folT ps t = some s → stepT s x = some k → plugT (ps ++ [x]) t u = plugT ps t (putKid k u s) := by
  intro ps
  induction ps with
  | nil =>
    intro t s u x k h1 h2
    rw [folT, Option.some.injEq] at h1
    subst h1
    show (match stepT t x with | none => t | some k => putKid k (plugT [] (kidT (kidsT t) k) u) t) = putKid k u t
    rw [h2]
    rfl
  | cons y ps ih =>
    intro t s u x k h1 h2
    rw [folT] at h1
    show (match stepT t y with | none => t | some j => putKid j (plugT (ps ++ [x]) (kidT (kidsT t) j) u) t) = (match stepT t y with | none => t | some j => putKid j (plugT ps (kidT (kidsT t) j) (putKid k u s)) t)
    cases e : stepT t y with
    | none => simp [e] at h1
    | some j =>
      rw [e] at h1
      dsimp only at h1 ⊢
      rw [ih _ s u x k h1 h2]
theorem folT_none (t : VT) {ps : List PS} {k : Nat} (h : folT (ps.take k) t = none) : folT ps t = none := by
  have : ∀ (a b : List PS) (t : VT), folT a t = none → folT (a ++ b) t = none := by
    intro a
    induction a with
    | nil => intro b t h; cases h
    | cons y a ih =>
      intro b t h
      rw [List.cons_append, folT]
      rw [folT] at h
      cases e : stepT t y with
      | none => rfl
      | some j => rw [e] at h; exact ih b _ h
  have h2 := this (ps.take k) (ps.drop k) t h
  rwa [List.take_append_drop] at h2

/-- The whole, read where only the part's blocks have turned. -/
def Ctx (w : World) (X f0 : Nat) (T0 : VT → VT) (v0 : Value) (f lo hi : Nat) (vp : Value) : Prop :=
  ∀ (w' : World) (u : VT) (Y : Nat), X ≤ Y → (∀ k, k < X → (k < lo ∨ hi ≤ k) → w'.heap[k]? = w.heap[k]?) → PR Y w' f u vp → PR Y w' f0 (T0 u) v0
theorem Ctx.id (w : World) (X f0 lo hi : Nat) (v0 : Value) : Ctx w X f0 (fun u => u) v0 f0 lo hi v0 := fun _ _ _ _ _ h => h
theorem Ctx.below {w w1 : World} {X f0 f lo hi : Nat} {T0 : VT → VT} {v0 vp : Value} (h : Ctx w X f0 T0 v0 f lo hi vp) (hb : ∀ k, k < X → w1.heap[k]? = w.heap[k]?) : Ctx w1 X f0 T0 v0 f lo hi vp :=
  fun w' u Y hY hs hp => h w' u Y hY (fun k hk ho => (hs k hk ho).trans (hb k hk)) hp
theorem Ctx.step {B : Nat} {w : World} {X f0 f lo hi : Nat} {T0 : VT → VT} {v0 : Value} {kind n : Int} {s : ByteArray} {keys : List ByteArray} {kids : List VT} {sv : Value} {p : Nat} {ks it : Value} {ps : Nat → Value} {ls hs : Nat → Nat}
    (h : Ctx w X f0 T0 v0 (f + 1) lo hi (.pointer (some ⟨p, 0, none⟩))) (ht : TreeAt B w (f + 1) (.mk kind n s keys kids) sv) (hp : PNode w lo hi sv keys kids.length (fun j l h u => PT B w f (kidT kids j) l h u) p ks it ps ls hs)
    (hX : hi ≤ X) (hh : hi ≤ w.heap.size) (hB : B ≤ lo) {k : Nat} (hk : k < kids.length) :
    Ctx w X f0 (fun u => T0 (putKid k u (.mk kind n s keys kids))) v0 f (ls k) (hs k) (ps k) := by
  intro w' u Y hY hsame hpr
  have hr := hp.rng k hk
  refine h w' _ Y hY (fun c hc ho => hsame c hc (by omega)) ?_
  have hout := hp.out k hk
  have hb : ∀ x, POwn p ks it x → w'.heap[x]? = w.heap[x]? := fun x hx => hsame x (by have := hp.top x hx; omega) (hout x hx)
  obtain ⟨t1, t2, t3, t4⟩ := tree_self ht
  have c0 : w.cell? ⟨p, 0, none⟩ = some sv := by rw [hp.node.cellAt 0 (by omega)]; rfl
  have c1 : w.cell? ⟨p, 1, none⟩ = some ks := by rw [hp.node.cellAt 1 (by omega)]; rfl
  have c2 : w.cell? ⟨p, 2, none⟩ = some it := by rw [hp.node.cellAt 2 (by omega)]; rfl
  have hpX := hp.top p (Or.inl rfl)
  have hpb := hb p (Or.inl rfl)
  have hst : StrsAt Y w' ks keys := by
    have h1 := own_strs hp.keysR t3 t4
    obtain ⟨g1, g2, ak, ck, rfl, g3⟩ := h1
    refine ⟨g1, g2, ak, ck, rfl, fun hpos => ?_⟩
    obtain ⟨b, o, rfl, hbb, hc⟩ := g3 hpos
    have hbt := hp.top b (Or.inr (Or.inl rfl))
    exact ⟨b, o, rfl, by omega, fun i hi => (cellR (hb b (Or.inr (Or.inl rfl)))).trans (hc i hi)⟩
  have hself : SelfOk kind n s keys (kids.set k u) sv := by
    rcases t1 with ⟨_, _, _, _, e, _⟩ | ⟨_, _, _, e, _⟩ | ⟨_, _, _, e, _⟩ | ⟨_, _, _, e, _⟩ | q | q
    · rw [e] at hk; simp at hk
    · rw [e] at hk; simp at hk
    · rw [e] at hk; simp at hk
    · rw [e] at hk; simp at hk
    · exact .inr (.inr (.inr (.inr (.inl q))))
    · exact .inr (.inr (.inr (.inr (.inr q))))
  obtain ⟨ai, ci, eit⟩ := own_slice hp.kidsR
  refine ⟨sv, p, ks, it, rfl, by omega, (cellR hpb).trans c0, (cellR hpb).trans c1, (cellR hpb).trans c2, hself, hst, by rw [List.length_set]; exact t2, ai, ci, by rw [List.length_set]; exact eit, fun hn => ?_⟩
  obtain ⟨gi, capi, ei, _, hgl⟩ := hp.kidsR.form (by omega)
  rw [eit] at ei
  cases ei
  have hgt := hp.top gi (Or.inr (Or.inr (by rw [eit]; rfl)))
  have hgb := hb gi (Or.inr (Or.inr (by rw [eit]; rfl)))
  refine ⟨gi, rfl, by omega, fun j hj => ?_⟩
  rw [List.length_set] at hj
  have hkid := hp.kid j hj
  have hrng := hp.rng j hj
  obtain ⟨q, eq⟩ := hkid.ptr
  rw [eit] at hp
  refine ⟨q, (cellR hgb).trans (by rw [hp.kidsR.cellAt j (by omega)]; simp [hj, eq]), ?_⟩
  show PR Y w' f (kidT (kids.set k u) j) _
  rw [kid_set hk, ← eq]
  by_cases e : j = k
  · subst e; rw [if_pos rfl]; exact hpr
  · rw [if_neg e]
    refine (hkid.move (w' := w') (fun c hc => ?_) (Nat.le_refl _) (Nat.le_refl _) (fun c h1 h2 => ?_)).read (by omega)
    · exact hsame c (by omega) (by omega)
    · refine hsame c (by omega) ?_
      rcases Nat.lt_or_gt_of_ne e with l | l
      · have := hp.ord j k l hk; omega
      · have := hp.ord k j l hj; omega
end Go.Proofs.Ytpakfgonemiebaa

/-
  Paths that come in: what takes their sizes from a budget; what copies them into new memory; what holds two against each other.
-/
namespace Go.Proofs.Ytpakfgonemiebaa
open Go.RowKit
set_option linter.unusedSimpArgs false
set_option linter.unusedVariables false

abbrev RawSteps (B : Nat) (w : World) (v : Value) (ps : List PS) : Prop := StepsIn 9223372036854775807 9223372036854775807 B w v ps
abbrev StepsAt (B : Nat) (w : World) (v : Value) (ps : List PS) : Prop := StepsIn 1048576 1048576 B w v ps

set_option maxHeartbeats 800000 in
theorem szPStep_any (x : PS) (r : Int) (w : World) (hx : x.key.size ≤ 9223372036854775807) (h1 : 0 ≤ r) (h2 : r ≤ 1048576) :
    Calls Try.prog 55 #[.agg #[.bool x.named, .string x.key, .int .i64 x.pl], .int .i64 r] w fun e w' => (∃ q, e = .returned (.int .i64 q) ∧ q ≤ 1048576 ∧ (0 ≤ q → x.key.size ≤ 1048576)) ∧ Below w.heap.size w w' := by
  have hbel : ∀ (o : Obj), Below w.heap.size w (w.alloc o) := fun o => (Below.refl _ _).alloc (Nat.le_refl _) o
  go_enter Try.func55, Try.ntmps55
  go_wp2_with fail
  all_goals
    go_ret
    exact ⟨⟨_, rfl, by omega, fun h => by omega⟩, hbel _⟩

set_option maxHeartbeats 800000 in
theorem szPStepS_any (B : Nat) (v : Value) (ps : List PS) (r : Int) (w : World) (h : RawSteps B w v ps) (hB : B ≤ w.heap.size) (h1 : 0 ≤ r) (h2 : r ≤ 1048576) :
    Calls Try.prog 23 #[v, .int .i64 r] w fun e w' => (∃ q, e = .returned (.int .i64 q) ∧ q ≤ 1048576 ∧ (0 ≤ q → ps.length ≤ 1048576 ∧ ∀ i, i < ps.length → (stepAt ps i).key.size ≤ 1048576)) ∧ Below w.heap.size w w' := by
  obtain ⟨hlen, hfit, a, cap, rfl, hcell⟩ := h
  go_enter Try.func23, Try.ntmps23
  go_wp2_with fail
  · go_ret
    exact ⟨⟨_, rfl, by omega, fun h => by omega⟩, Below.refl _ _⟩
  · go_loopw [1, 5] (fun t i wr => ∃ (k : Nat) (q : Int), k ≤ ps.length ∧ i = .int .i64 k ∧ t = .int .i64 q ∧ 0 ≤ q ∧ q ≤ 1048576 ∧ Hid (∀ j, j < k → (stepAt ps j).key.size ≤ 1048576) ∧ Below w.heap.size w wr) (fun _ i _ => ps.length - (intOf i).toNat)
    case atStart => exact ⟨0, _, Nat.zero_le _, rfl, rfl, by omega, by omega, fun j hj => by omega, Below.refl _ _⟩
    case round =>
      obtain ⟨k, q, hk, rfl, rfl, hq0, hq1, HS, hbel⟩ := hrel
      by_cases hlt : k < ps.length
      · obtain ⟨b, o, rfl, hbB, hc⟩ := hcell (by omega)
        obtain ⟨hc0, hc1, hc2⟩ := hc k hlt
        have c0 := (below_cell (hbel.mono hB) hbB).trans hc0
        have c1 := (below_cell (hbel.mono hB) hbB).trans hc1
        have c2 := (below_cell (hbel.mono hB) hbB).trans hc2
        have hs := (hfit k hlt).1
        have hsize := hbel.size
        clear hc hcell hc0 hc1 hc2 hfit
        go_wp2_with fail
        refine (szPStep_any (stepAt ps k) _ _ hs (by omega) (by omega)).mono ?_
        rintro e w' ⟨⟨q', rfl, hq', hsm⟩, hb'⟩
        have hb2 : Below w.heap.size w w' := hbel.trans (hb'.mono hsize)
        have HM := hideIt hsm
        clear hsm
        go_wp2_with fail
        · go_ret
          exact ⟨⟨_, rfl, by omega, fun h => by omega⟩, hb2⟩
        · go_roundw
          case rel =>
            refine ⟨k + 1, _, by omega, by go_num, rfl, by omega, by omega, fun j hj => ?_, hb2⟩
            by_cases e : j = k
            · subst e; exact HM.out (by omega)
            · exact HS.out j (by omega)
          case measure => simp [intOf]; omega
      · obtain rfl : k = ps.length := by omega
        go_wp2_with fail
        go_ret
        exact ⟨⟨_, rfl, by omega, fun _ => ⟨by omega, HS.out⟩⟩, hbel⟩

set_option maxHeartbeats 800000 in
theorem toPStep_any (x : PS) (w : World) :
    Calls Try.prog 57 #[.agg #[.bool x.named, .string x.key, .int .i64 x.pl]] w fun e w' => e = .returned (.agg #[.bool x.named, .string x.key, .int .i64 x.pl]) ∧ Below w.heap.size w w' := by
  go_enter Try.func57, Try.ntmps57
  go_wp2_with fail
  refine bodyPost_ret (v := .agg #[.bool x.named, .string x.key, .int .i64 x.pl]) (by simp [results, Try.results57, go_sem]) rfl ⟨rfl, ?_⟩
  repeat (first | exact Below.refl _ _ | refine Below.setCell ?_ (by simp <;> omega) _ | refine Below.alloc ?_ (by simp <;> omega) _)

def zeroStep : Value := .agg #[.bool false, .string ByteArray.empty, .int .i64 0]
theorem infoStep : (Try.prog.info? 39).map (fun i => (i.zero, i.size, i.bytes)) = some (some zeroStep, 3, 32) := by kernel_rfl
def madeSteps (n : Nat) : Array Value := madeCells zeroStep.cells (n * 3)
theorem size_madeSteps (n : Nat) : (madeSteps n).size = n * 3 := size_madeCells _ _

theorem run_make_steps (n : Nat) (hb : 32 * n ≤ 281474976710656) (w : World) :
    (Instr.makeSlice 25 (.int .i64 (n : Int)) (.int .i64 (n : Int))).run Try.prog w = .ok (.slice (some ⟨w.heap.size, 0, none⟩) n n) (w.alloc (.cells (madeSteps n) 39)) := by
  obtain ⟨i, hi, hzz⟩ := Option.map_eq_some_iff.1 infoStep
  simp only [Prod.mk.injEq] at hzz
  obtain ⟨hz, hs, hby⟩ := hzz
  have hr := run_make (P := Try.prog) w 25 39 i zeroStep Try.underlying25 hi hz .i64 .i64 n n (by omega) (Int.le_refl _) (by rw [hby]; omega) (by omega)
  simp only [Int.toNat_natCast, hs] at hr
  exact hr

def stepCell (ps : List PS) (j : Nat) : Value :=
  if j % 3 = 0 then .bool (stepAt ps (j / 3)).named
  else if j % 3 = 1 then .string (stepAt ps (j / 3)).key
  else .int .i64 (stepAt ps (j / 3)).pl
theorem stepCell0 (ps : List PS) (i : Nat) : stepCell ps (i * 3) = .bool (stepAt ps i).named := by
  unfold stepCell
  rw [if_pos (by omega), show i * 3 / 3 = i by omega]
theorem stepCell1 (ps : List PS) (i : Nat) : stepCell ps (i * 3 + 1) = .string (stepAt ps i).key := by
  unfold stepCell
  rw [if_neg (by omega), if_pos (by omega), show (i * 3 + 1) / 3 = i by omega]
theorem stepCell2 (ps : List PS) (i : Nat) : stepCell ps (i * 3 + 2) = .int .i64 (stepAt ps i).pl := by
  unfold stepCell
  rw [if_neg (by omega), if_neg (by omega), show (i * 3 + 2) / 3 = i by omega]

def fillStep (ps : List PS) (z : Nat → Value) (k j : Nat) : Value := if j < k * 3 then stepCell ps j else z j

theorem fillStep_step {w : World} {b t m k : Nat} {ps : List PS} {z : Nat → Value} (h : w.rowIs b t m (fillStep ps z k)) :
    (((w.setCell ⟨b, k * 3, none⟩ (.bool (stepAt ps k).named)).setCell ⟨b, k * 3 + 1, none⟩ (.string (stepAt ps k).key)).setCell ⟨b, k * 3 + 2, none⟩ (.int .i64 (stepAt ps k).pl)).rowIs b t m (fillStep ps z (k + 1)) := by
  refine (((h.set (k * 3) _).set (k * 3 + 1) _).set (k * 3 + 2) _).congr fun j _ => ?_
  by_cases e2 : j = k * 3 + 2
  · subst e2
    rw [if_pos rfl, fillStep, if_pos (by omega), stepCell2]
  rw [if_neg e2]
  by_cases e1 : j = k * 3 + 1
  · subst e1
    rw [if_pos rfl, fillStep, if_pos (by omega), stepCell1]
  rw [if_neg e1]
  by_cases e0 : j = k * 3
  · subst e0
    rw [if_pos rfl, fillStep, if_pos (by omega), stepCell0]
  rw [if_neg e0]
  unfold fillStep
  by_cases hj : j < k * 3
  · rw [if_pos hj, if_pos (by omega)]
  · rw [if_neg hj, if_neg (by omega)]

theorem rowIs_below' {B b t n : Nat} {w w' : World} {f : Nat → Value} (h : w.rowIs b t n f) (hb : Below B w w') (hB : b < B) : w'.rowIs b t n f := h.of_block (hb.block b hB)

theorem ownSteps {w : World} {b : Nat} {ps : List PS} (h : w.rowIs b 39 (ps.length * 3) (stepCell ps)) (h1 : ps.length ≤ 1048576) (h2 : ∀ i, i < ps.length → (stepAt ps i).key.size ≤ 1048576 ∧ -9223372036854775808 ≤ (stepAt ps i).pl ∧ (stepAt ps i).pl ≤ 9223372036854775807) :
    StepsAt w.heap.size w (.slice (some ⟨b, 0, none⟩) ps.length ps.length) ps := by
  refine ⟨h1, h2, _, _, rfl, fun _ => ⟨b, 0, rfl, h.lt, fun i hi => ?_⟩⟩
  rw [Nat.zero_add]
  refine ⟨?_, ?_, ?_⟩
  · rw [h.cell (by omega), stepCell0]
  · rw [h.cell (by omega), stepCell1]
  · rw [h.cell (by omega), stepCell2]

set_option maxHeartbeats 1600000 in
theorem toPStepS_any (B : Nat) (v : Value) (ps : List PS) (w : World) (h : StepsAt B w v ps) (hB : B ≤ w.heap.size) :
    Calls Try.prog 25 #[v] w fun e w' => e = .returned (.slice (some ⟨w.heap.size, 0, none⟩) ps.length ps.length) ∧
      w'.rowIs w.heap.size 39 (ps.length * 3) (stepCell ps) ∧ Below w.heap.size w w' := by
  obtain ⟨hlen, hfit, a, cap, rfl, hcell⟩ := h
  have hmk := run_make_steps ps.length (by omega)
  go_enter Try.func25, Try.ntmps25
  go_wp2_with fail
  clear hmk
  obtain ⟨z, hz⟩ : ∃ z : Nat → Value, ∀ i, i < (madeSteps ps.length).size → (madeSteps ps.length)[i]? = some (z i) := ⟨fun i => ((madeSteps ps.length)[i]?).getD undef, fun i hi => by simp [hi]⟩
  have hr0 := World.rowIs_alloc w _ 39 z hz
  rw [size_madeSteps] at hr0
  have hr1 : (w.alloc (.cells (madeSteps ps.length) 39)).rowIs w.heap.size 39 (ps.length * 3) (fillStep ps z 0) := hr0.congr fun i _ => by simp [fillStep]
  have hb0 : Below w.heap.size w (w.alloc (.cells (madeSteps ps.length) 39)) := (Below.refl _ _).alloc (Nat.le_refl _) _
  clear hz hr0
  go_loopw [4] (fun i wr => ∃ (k : Nat), k ≤ ps.length ∧ i = .int .i64 k ∧ wr.rowIs w.heap.size 39 (ps.length * 3) (fillStep ps z k) ∧ Below w.heap.size w wr) (fun i _ => ps.length - (intOf i).toNat)
  case atStart => exact ⟨0, Nat.zero_le _, rfl, hr1, hb0⟩
  case round =>
    obtain ⟨k, hk, rfl, hrow, hbel⟩ := hrel
    clear hr1 hb0
    by_cases hlt : k < ps.length
    · obtain ⟨b, o, rfl, hbB, hc⟩ := hcell (by omega)
      obtain ⟨hc0, hc1, hc2⟩ := hc k hlt
      have c0 := (below_cell (hbel.mono hB) hbB).trans hc0
      have c1 := (below_cell (hbel.mono hB) hbB).trans hc1
      have c2 := (below_cell (hbel.mono hB) hbB).trans hc2
      have hsize := hbel.size
      have hlt0 := hrow.lt
      clear hc hcell hc0 hc1 hc2 hfit
      go_wp2_with fail
      refine (toPStep_any (stepAt ps k) _).mono ?_
      rintro e w1 ⟨rfl, hb1⟩
      have hrow1 := rowIs_below' hrow hb1 hlt0
      have hcs0 := hrow1.cell (i := k * 3) (by omega)
      have hcs1 := hrow1.cell (i := k * 3 + 1) (by omega)
      have hcs2 := hrow1.cell (i := k * 3 + 2) (by omega)
      have hfs := hrow1.frozen
      have hnew := fillStep_step hrow1
      have hbel1 : Below w.heap.size w w1 := hbel.trans (hb1.mono hsize)
      clear hrow
      go_wp2_with fail
      go_roundw
      case rel =>
        refine ⟨k + 1, by omega, by go_num, hnew, ?_⟩
        refine Below.setCell (Below.setCell (Below.setCell hbel1 ?_ _) ?_ _) ?_ _ <;> simp
      case measure => simp [intOf]; omega
    · obtain rfl : k = ps.length := by omega
      go_wp2_with fail
      go_ret
      exact ⟨rfl, hrow.congr fun i hi => by simp [fillStep, hi], hbel⟩

set_option maxHeartbeats 800000 in
theorem eqPStep_any (x : PS) (w : World) :
    Calls Try.prog 59 #[.agg #[.bool x.named, .string x.key, .int .i64 x.pl], .agg #[.bool x.named, .string x.key, .int .i64 x.pl]] w fun e w' => e = .returned (.bool true) ∧ Below w.heap.size w w' := by
  have hb0 : ∀ (o o' : Obj), Below w.heap.size w ((w.alloc o).alloc o') := fun o o' => ((Below.refl _ _).alloc (Nat.le_refl _) _).alloc (by simp) _
  have f1 : (x.named != x.named) = false := by simp
  have f2 : (x.pl != x.pl) = false := by simp
  have f3 : (x.key.toList == x.key.toList) = true := by simp
  go_enter Try.func59, Try.ntmps59
  go_wp2_with fail
  go_ret
  exact ⟨rfl, hb0 _ _⟩

set_option maxHeartbeats 1600000 in
theorem eqPStepS_any (B : Nat) (v1 v2 : Value) (ps : List PS) (w : World) (h1 : StepsAt B w v1 ps) (h2 : StepsAt B w v2 ps) (hB : B ≤ w.heap.size) :
    Calls Try.prog 27 #[v1, v2] w fun e w' => e = .returned (.bool true) ∧ Below w.heap.size w w' := by
  obtain ⟨hlen, _, a1, cap1, rfl, hcell1⟩ := h1
  obtain ⟨_, _, a2, cap2, rfl, hcell2⟩ := h2
  have hne : ((ps.length : Int) != (ps.length : Int)) = false := by simp
  go_enter Try.func27, Try.ntmps27
  go_wp2_with fail
  go_loopw [5] (fun i wr => ∃ k : Nat, k ≤ ps.length ∧ i = .int .i64 k ∧ Below w.heap.size w wr) (fun i _ => ps.length - (intOf i).toNat)
  case atStart => exact ⟨0, Nat.zero_le _, rfl, Below.refl _ _⟩
  case round =>
    obtain ⟨k, hk, rfl, hbel⟩ := hrel
    by_cases hlt : k < ps.length
    · obtain ⟨b1, o1, rfl, hb1, hc1⟩ := hcell1 (by omega)
      obtain ⟨b2, o2, rfl, hb2, hc2⟩ := hcell2 (by omega)
      obtain ⟨p0, p1, p2⟩ := hc1 k hlt
      obtain ⟨q0, q1, q2⟩ := hc2 k hlt
      have c0 := (below_cell (hbel.mono hB) hb1).trans p0
      have c1 := (below_cell (hbel.mono hB) hb1).trans p1
      have c2 := (below_cell (hbel.mono hB) hb1).trans p2
      have d0 := (below_cell (hbel.mono hB) hb2).trans q0
      have d1 := (below_cell (hbel.mono hB) hb2).trans q1
      have d2 := (below_cell (hbel.mono hB) hb2).trans q2
      have hsize := hbel.size
      clear hc1 hc2 hcell1 hcell2 p0 p1 p2 q0 q1 q2
      go_wp2_with fail
      go_region_with (go_at_call 59; refine (eqPStep_any (stepAt ps k) _).mono ?_; rintro e w1 ⟨rfl, hq⟩)
      all_goals
        have hb2 : Below w.heap.size w w1 := hbel.drew.trans (hq.mono (by simpa using hsize))
        go_wp2_with fail
        go_roundw
        case rel => exact ⟨k + 1, by omega, by go_num, hb2⟩
        case measure => simp [intOf]; omega
    · go_wp2_with fail
      go_ret
      exact ⟨rfl, hbel⟩
end Go.Proofs.Ytpakfgonemiebaa
