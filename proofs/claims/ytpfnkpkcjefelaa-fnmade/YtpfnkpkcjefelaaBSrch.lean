/-
  spec.ListOf.
-/
import Derived.Test.YtpfnkpkcjefelaaValK
import Derived.Test.YtpfnkpkcjefelaaSpc3
import Derived.Test.YtpfnkpkcjefelaaPartOk
import Derived.Test.YtpfnkpkcjefelaaWnM
import Derived.Test.YtpfnkpkcjefelaaWn5
import Derived.Test.YtpfnkpkcjefelaaProg
import Derived.Deep.QuietTactic
import Derived.BigQuiet
import Derived.WalkSmall
namespace Go.Proofs.Ytpfnkpkcjefelaa
open Go.RowKit
set_option linter.unusedSimpArgs false
set_option linter.unusedVariables false

def allB (L : Nat → List VN) (m : Nat) : Bool := (List.range m).all fun i => okB (L i)
theorem allB_yes {L : Nat → List VN} {m : Nat} (h : allB L m = true) : ∀ i, i < m → okB (L i) = true := fun i hi => by
  unfold allB at h; rw [List.all_eq_true] at h; exact h i (List.mem_range.2 hi)
theorem allB_of {L : Nat → List VN} {m : Nat} (h : ∀ i, i < m → okB (L i) = true) : allB L m = true := by
  unfold allB; rw [List.all_eq_true]; exact fun i hi => h i (List.mem_range.1 hi)
theorem allB_no {L : Nat → List VN} {m i : Nat} (hi : i < m) (h : okB (L i) = false) : allB L m = false := by
  cases e : allB L m
  · rfl
  · have := allB_yes e i hi; rw [h] at this; cases this

theorem RowsAt.below {B : Nat} {w w' : World} {v : Value} {m : Nat} {L : Nat → List VN} (h : RowsAt B w v m L) (hb : Below B w w') : RowsAt B w' v m L := by
  obtain ⟨h1, a, c, e, h2⟩ := h
  refine ⟨h1, a, c, e, fun hp => ?_⟩
  obtain ⟨b, ea, hbB, h3⟩ := h2 hp
  refine ⟨b, ea, hbB, fun i hi => ?_⟩
  obtain ⟨r, e2, hn⟩ := h3 i hi
  exact ⟨r, (below_cell hb hbB).trans e2, hn.below hb⟩

set_option maxRecDepth 100000 in
set_option maxHeartbeats 1600000 in
theorem l1All_any (B : Nat) (u : Value) (m : Nat) (L : Nat → List VN) (w : World) (hu : RowsAt B w u m L) (hB : B ≤ w.heap.size) :
    Calls Try.prog 69 #[u] w fun e w' => e = .returned (.bool (allB L m && decide (m ≤ 80))) ∧ Below w.heap.size w w' := by
  obtain ⟨hm, au, cu, rfl, hcu⟩ := hu
  have HCU := hideIt hcu
  clear hcu
  go_enter Try.func69, Try.ntmps69
  go_wp2_with fail
  go_loopw [3] (fun i wr => ∃ k : Nat, k ≤ m ∧ i = .int .i64 k ∧ (∀ j, j < k → okB (L j) = true) ∧ Below w.heap.size w wr) (fun i _ => m - (intOf i).toNat)
  case atStart => exact ⟨0, Nat.zero_le _, rfl, fun j hj => absurd hj (by omega), Below.refl _ _⟩
  case round =>
    obtain ⟨k, hk, rfl, hall, hbl⟩ := hrel
    have HA := hideIt hall
    have zs := hbl.size
    clear hall
    by_cases hlt : k < m
    · obtain ⟨b, rfl, hbB, hcell⟩ := HCU.out (by omega)
      obtain ⟨r, hcr, hnr⟩ := hcell k hlt
      have hcr' := (below_cell hbl (by omega)).trans hcr
      have HN := hideIt (hnr.below (hbl.mono hB))
      obtain ⟨_, ar, cr, rfl, _⟩ := hnr
      clear hcell hcr
      go_wp2_with fail
      refine (specOk_any B _ (L k) _ HN.out (by omega)).mono ?_
      rintro e w1 ⟨rfl, hb1⟩
      have HB1 := hideIt (hbl.trans (hb1.mono zs))
      clear hb1
      cases ok1 : okB (L k)
      · have HNO := hideIt (allB_no hlt ok1)
        go_wp2_with fail
        go_ret
        exact ⟨by rw [HNO.out]; rfl, HB1.out⟩
      · have HA1 : Hid (∀ j, j < k + 1 → okB (L j) = true) := by
          intro j hj
          rcases Nat.lt_or_ge j k with e | e
          · exact HA.out j e
          · obtain rfl : j = k := by omega
            exact ok1
        go_wp2_with fail
        go_roundw
        case rel => exact ⟨k + 1, by omega, by go_num, HA1.out, HB1.out⟩
        case measure => simp [intOf]; omega
    · obtain rfl : k = m := by omega
      have HYES := hideIt (allB_of HA.out)
      by_cases h80 : k ≤ 80
      · go_wp2_with fail
        go_ret
        exact ⟨by rw [HYES.out]; simp [h80]; omega, hbl⟩
      · go_wp2_with fail
        go_ret
        exact ⟨by rw [HYES.out]; simp [h80]; omega, hbl⟩

def listB (L : Nat → List VN) (m : Nat) : Bool := allB L m && decide (m ≤ 80) && okB (makeNs 5 [] L m)
def listNs (L : Nat → List VN) (m : Nat) : List VN := if listB L m = true then makeNs 5 [] L m else []

theorem near_of {L : Nat → List VN} {m : Nat} (hok : ∀ i, i < m → okB (L i) = true) : ∀ i, i < m → 0 < (L i).length ∧ ∀ j, j < (L i).length → Near (nodeAt (L i) j) := by
  intro i hi
  obtain ⟨p1, _, _, _⟩ := okB_parts (hok i hi)
  refine ⟨by omega, fun j hj => ?_⟩
  have kf := keys_few (hok i hi) j hj
  exact ⟨by omega, by omega, fun q hq => by have := kidsIn_get kf.1 hq; omega⟩

set_option maxRecDepth 100000 in
set_option maxHeartbeats 1600000 in
theorem specListOf_any (B : Nat) (u : Value) (m : Nat) (L : Nat → List VN) (w : World) (hu : RowsAt B w u m L) (hB : B ≤ w.heap.size) (hf : ∀ i, i < m → ∀ j, j < (L i).length → Fits (nodeAt (L i) j)) :
    Calls Try.prog 29 #[u] w fun e w' => ∃ r base KV IV, e = .returned (.tuple #[r, .bool (listB L m)]) ∧ w.heap.size ≤ base ∧ Nest base w' r (listNs L m) KV IV ∧ Below w.heap.size w w' := by
  have HU := hideIt hu
  obtain ⟨_, au, cu, rfl, _⟩ := hu
  have HLB : Hid (listB L m = (allB L m && decide (m ≤ 80) && okB (makeNs 5 [] L m))) := rfl
  have HLN : Hid (listNs L m = if listB L m = true then makeNs 5 [] L m else []) := rfl
  go_enter Try.func29, Try.ntmps29
  go_wp2_with fail
  refine (l1All_any B _ m L _ HU.out hB).mono ?_
  rintro e w1 ⟨rfl, hb1⟩
  have z1 := hb1.size
  cases ok1 : (allB L m && decide (m ≤ 80))
  · go_wp2_with fail
    go_ret2
    have hno : listB L m = false := by rw [HLB.out, ok1]; rfl
    exact ⟨.slice none 0 0, w.heap.size, fun _ => undef, fun _ => undef, by rw [hno]; rfl, Nat.le_refl _, by rw [HLN.out, hno]; exact Nest.nil _ _ _ _, hb1⟩
  · have hall : allB L m = true ∧ m ≤ 80 := by simpa using ok1
    have HOK := hideIt (allB_yes hall.1)
    have hm := hall.2
    have HNI := hideIt (make_nice hm HOK.out hf (kind := 5) (by omega) (by omega) (keys := []) (by simp) (fun i hi => absurd hi (by simp)))
    have HLE := hideIt (catNs_le HOK.out m (Nat.le_refl _))
    clear hall
    go_wp2_with fail
    refine (l1Make_any B 5 _ _ [] m L w1 ⟨by simp, fun i hi => absurd hi (by simp), none, 0, rfl, fun h => absurd h (by simp)⟩ (HU.out.below (hb1.mono hB)) (by omega) (by omega) (by simp) (by have := HLE.out; omega) (near_of HOK.out)).mono ?_
    rintro e w2 ⟨r, KV, IV, rfl, hn2, hb2⟩
    have HN2 := hideIt hn2
    obtain ⟨ar, cr, er⟩ := own_slice hn2.row
    obtain ⟨N, hN⟩ : ∃ N, (makeNs 5 [] L m).length = N := ⟨_, rfl⟩
    rw [hN] at er
    subst er
    have z2 := hb2.size
    have HB2 := hideIt (hb1.trans (hb2.mono z1))
    clear hn2 hb2 hN
    go_wp2_with fail
    refine (specOk_any w2.heap.size _ (makeNs 5 [] L m) _ (HN2.out.nodes (by have := HNI.out.1; omega) (fun i hi => (HNI.out.2 i hi).1)) (Nat.le_refl _)).mono ?_
    rintro e w3 ⟨rfl, hb3⟩
    have HN3 := hideIt (HN2.out.below hb3)
    have HB3 := hideIt (HB2.out.trans (hb3.mono (by omega)))
    clear hb3
    cases ok2 : okB (makeNs 5 [] L m)
    · go_wp2_with fail
      go_ret2
      have hno : listB L m = false := by rw [HLB.out, ok2]; simp
      exact ⟨.slice none 0 0, w.heap.size, fun _ => undef, fun _ => undef, by rw [hno]; rfl, Nat.le_refl _, by rw [HLN.out, hno]; exact Nest.nil _ _ _ _, HB3.out⟩
    · go_wp2_with fail
      go_ret2
      have hyes : listB L m = true := by rw [HLB.out, ok1, ok2]; rfl
      exact ⟨.slice ar N cr, w1.heap.size, KV, IV, by rw [hyes]; rfl, z1, by rw [HLN.out, hyes]; exact HN3.out, HB3.out⟩
end Go.Proofs.Ytpfnkpkcjefelaa

/-
  Parts as pointers: how a tree of parts lies in memory, each part between two blocks, its rows its own. No walk.
-/
namespace Go.Proofs.Ytpfnkpkcjefelaa
open Go.RowKit
set_option linter.unusedSimpArgs false
set_option linter.unusedVariables false

/-- The blocks of one part itself. -/
def POwn (p : Nat) (ks it : Value) (x : Nat) : Prop := x = p ∨ ks.ownBlock = some x ∨ it.ownBlock = some x

/-- One part in block p: its value, its keys, its n parts; what those are, K says. -/
structure PNode (w : World) (lo hi : Nat) (sv : Value) (keys : List ByteArray) (n : Nat) (K : Nat → Nat → Nat → Value → Prop) (p : Nat) (ks it : Value) (ps : Nat → Value) (ls hs : Nat → Nat) : Prop where
  node : w.ownsRow lo 148 3 (.slice (some ⟨p, 0, none⟩) 1 1) 1 [sv, ks, it]
  keysR : w.ownsRow lo 9 1 ks keys.length (keys.map .string)
  kidsR : w.ownsRow lo 104 1 it n ((List.range n).map ps)
  top : ∀ x, POwn p ks it x → x < hi
  rng : ∀ j, j < n → lo ≤ ls j ∧ ls j ≤ hs j ∧ hs j ≤ hi
  out : ∀ j, j < n → ∀ x, POwn p ks it x → x < ls j ∨ hs j ≤ x
  ord : ∀ i j, i < j → j < n → hs i ≤ ls j
  kid : ∀ j, j < n → K j (ls j) (hs j) (ps j)

def PT (B : Nat) (w : World) : Nat → VT → Nat → Nat → Value → Prop
  | 0, _, _, _, _ => False
  | f + 1, .mk kind n s keys kids, lo, hi, v =>
    ∃ (sv : Value) (p : Nat) (ks it : Value) (ps : Nat → Value) (ls hs : Nat → Nat), v = .pointer (some ⟨p, 0, none⟩) ∧ TreeAt B w (f + 1) (.mk kind n s keys kids) sv ∧
      PNode w lo hi sv keys kids.length (fun j l h u => PT B w f (kidT kids j) l h u) p ks it ps ls hs

theorem own_same {w w' : World} {base e s n : Nat} {v : Value} {xs : List Value} (h : w.ownsRow base e s v n xs) (hb : ∀ x, v.ownBlock = some x → w'.heap[x]? = w.heap[x]?) : w'.ownsRow base e s v n xs := by
  refine ⟨h.1, ?_⟩
  rcases h.2 with hn | ⟨g, cap, cur, rfl, hg, hgg, rest⟩
  · exact .inl hn
  · exact .inr ⟨g, cap, cur, rfl, hg, (hb g rfl).trans hgg, rest⟩

theorem PNode.lt {w : World} {lo hi : Nat} {sv : Value} {keys : List ByteArray} {n : Nat} {K : Nat → Nat → Nat → Value → Prop} {p : Nat} {ks it : Value} {ps : Nat → Value} {ls hs : Nat → Nat} (h : PNode w lo hi sv keys n K p ks it ps ls hs) {x : Nat} (hx : POwn p ks it x) : lo ≤ x ∧ x < w.heap.size := by
  rcases hx with rfl | hx | hx
  · exact h.node.lt x rfl
  · exact h.keysR.lt x hx
  · exact h.kidsR.lt x hx

/-- The blocks between lo and hi, and those below B, are all that matters. -/
theorem PT.move {B : Nat} {w w' : World} (h1 : ∀ k, k < B → w'.heap[k]? = w.heap[k]?) : ∀ {f : Nat} {t : VT} {lo hi lo' hi' : Nat} {v : Value}, lo' ≤ lo → hi ≤ hi' → (∀ k, lo ≤ k → k < hi → w'.heap[k]? = w.heap[k]?) → PT B w f t lo hi v → PT B w' f t lo' hi' v := by
  intro f
  induction f with
  | zero => intro t lo hi lo' hi' v _ _ _ h; exact h.elim
  | succ f ih =>
    intro t lo hi lo' hi' v hl hh h2 h
    obtain ⟨kind, n, s, keys, kids⟩ := t
    obtain ⟨sv, p, ks, it, ps, ls, hs, e, ht, hp⟩ := h
    have hb : ∀ x, POwn p ks it x → w'.heap[x]? = w.heap[x]? := fun x hx => h2 x (hp.lt hx).1 (hp.top x hx)
    refine ⟨sv, p, ks, it, ps, ls, hs, e, TreeAt.keep h1 (Nat.le_refl _) ht, ⟨?_, ?_, ?_, fun x hx => Nat.lt_of_lt_of_le (hp.top x hx) hh, fun j hj => ?_, hp.out, hp.ord, fun j hj => ?_⟩⟩
    · exact own_mono (own_same hp.node (fun x hx => hb x (Or.inl (by simpa [Value.ownBlock] using hx.symm)))) hl
    · exact own_mono (own_same hp.keysR (fun x hx => hb x (Or.inr (Or.inl hx)))) hl
    · exact own_mono (own_same hp.kidsR (fun x hx => hb x (Or.inr (Or.inr hx)))) hl
    · have := hp.rng j hj; omega
    · have hr := hp.rng j hj
      exact ih (Nat.le_refl _) (Nat.le_refl _) (fun k h3 h4 => h2 k (by omega) (by omega)) (hp.kid j hj)

theorem PT.below {B : Nat} {w w' : World} {f : Nat} {t : VT} {lo hi : Nat} {v : Value} (h : PT B w f t lo hi v) (hb : Below w.heap.size w w') (hB : B ≤ w.heap.size) (hh : hi ≤ w.heap.size) : PT B w' f t lo hi v :=
  h.move (fun k hk => hb.block k (by omega)) (Nat.le_refl _) (Nat.le_refl _) (fun k _ hk => hb.block k (by omega))

theorem PT.more {B : Nat} {w : World} : ∀ {f g : Nat} {t : VT} {lo hi : Nat} {v : Value}, f ≤ g → PT B w f t lo hi v → PT B w g t lo hi v := by
  intro f
  induction f with
  | zero => intro g t lo hi v _ h; exact h.elim
  | succ f ih =>
    intro g t lo hi v hfg h
    match g, hfg with
    | g + 1, hfg =>
      obtain ⟨kind, n, s, keys, kids⟩ := t
      obtain ⟨sv, p, ks, it, ps, ls, hs, e, ht, hp⟩ := h
      exact ⟨sv, p, ks, it, ps, ls, hs, e, TreeAt.more hfg ht, hp.node, hp.keysR, hp.kidsR, hp.top, hp.rng, hp.out, hp.ord, fun j hj => ih (by omega) (hp.kid j hj)⟩

/-- One part more. -/
theorem PNode.snoc {B : Nat} {wr w1 w5 : World} {lo : Nat} {sv : Value} {keys : List ByteArray} {k f : Nat} {T : Nat → VT} {p : Nat} {ks it u : Value} {ps : Nat → Value} {ls hs : Nat → Nat} {o : Obj} {g cap : Nat}
    (h : PNode wr lo wr.heap.size sv keys k (fun j l h u => PT B wr f (T j) l h u) p ks it ps ls hs) (hB : B ≤ lo) (hlo : lo ≤ wr.heap.size) (hb : Below wr.heap.size wr w1) (hk : PT B w1 f (T k) wr.heap.size w1.heap.size u)
    (hown : w5.ownsRow lo 104 1 (.slice (some ⟨g, 0, none⟩) (k + 1) cap) (k + 1) ((List.range k).map ps ++ [u])) (hg : (w1.alloc o).grownBy w5 it.ownBlock) (hor : it.ownBlock = some g ∨ g = w1.heap.size + 1) :
    PNode (w5.setCell ⟨p, 2, none⟩ (.slice (some ⟨g, 0, none⟩) (k + 1) cap)) lo (w5.setCell ⟨p, 2, none⟩ (.slice (some ⟨g, 0, none⟩) (k + 1) cap)).heap.size sv keys (k + 1)
      (fun j l h u => PT B (w5.setCell ⟨p, 2, none⟩ (.slice (some ⟨g, 0, none⟩) (k + 1) cap)) f (T j) l h u) p ks (.slice (some ⟨g, 0, none⟩) (k + 1) cap) (updF ps k u) (updF ls k wr.heap.size) (updF hs k w1.heap.size) := by
  have hs1 := hb.size
  have hgs : w1.heap.size + 1 ≤ w5.heap.size := by simpa using hg.size
  have hpl := (h.lt (Or.inl rfl)).2
  have ane : it.ownBlock ≠ some p := fun e => by
    rcases own_apart h.kidsR h.node (by decide) with e2 | e2
    · rw [e2] at e; cases e
    · exact e2 (by rw [e]; rfl)
  have kp1 : ∀ c, c < w1.heap.size → it.ownBlock ≠ some c → w5.heap[c]? = w1.heap[c]? := fun c h1 h2 =>
    (hg.block c (by simp; omega) (fun e => h2 e.symm)).trans (Below.block ((Below.refl w1.heap.size w1).alloc (Nat.le_refl _) o) c h1)
  have kp : ∀ c, c < wr.heap.size → it.ownBlock ≠ some c → w5.heap[c]? = wr.heap[c]? := fun c h1 h2 => (kp1 c (by omega) h2).trans (hb.block c h1)
  have st : ∀ c, c ≠ p → (w5.setCell ⟨p, 2, none⟩ (.slice (some ⟨g, 0, none⟩) (k + 1) cap)).heap[c]? = w5.heap[c]? := fun c hc => Below.heap_setCell w5 _ _ c hc
  have hn5 : w5.ownsRow lo 148 3 (.slice (some ⟨p, 0, none⟩) 1 1) 1 [sv, ks, it] := own_same h.node (fun x hx => by
    have e : p = x := by simpa [Value.ownBlock] using hx
    subst e; exact kp p hpl ane)
  have hk5 : w5.ownsRow lo 9 1 ks keys.length (keys.map .string) := own_same h.keysR (fun x hx => kp x (h.lt (Or.inr (Or.inl hx))).2 (fun e => by
    rcases own_apart h.keysR h.kidsR (by decide) with e2 | e2
    · rw [e2] at hx; cases hx
    · exact e2 (hx.trans e.symm)))
  have hkl := h.keysR.lt
  have hil := h.kidsR.lt
  have hgl := (hown.lt g rfl).2
  have hgp : g ≠ p := by
    rintro rfl
    rcases own_apart hown hn5 (by decide) with e2 | e2
    · cases e2
    · exact e2 rfl
  have own' : ∀ x, POwn p ks (.slice (some ⟨g, 0, none⟩) (k + 1) cap) x → POwn p ks it x ∨ x = w1.heap.size + 1 := by
    rintro x (rfl | hx | hx)
    · exact Or.inl (Or.inl rfl)
    · exact Or.inl (Or.inr (Or.inl hx))
    · have e : g = x := by simpa [Value.ownBlock] using hx
      subst e
      rcases hor with e | e
      · exact Or.inl (Or.inr (Or.inr e))
      · exact Or.inr e
  refine ⟨?_, ?_, ?_, fun x hx => ?_, fun j hj => ?_, fun j hj x hx => ?_, fun i j hij hj => ?_, fun j hj => ?_⟩
  · have := (hn5.stored 2 (.slice (some ⟨g, 0, none⟩) (k + 1) cap)).1
    simpa using this
  · exact own_set hk5 _ (fun x hx e => by
      subst e
      rcases own_apart hk5 hn5 (by decide) with e2 | e2
      · rw [e2] at hx; cases hx
      · exact e2 (by rw [hx]; rfl))
  · rw [range_map_snoc]
    exact own_set hown _ (fun x hx e => by
      have e3 : g = x := by simpa [Value.ownBlock] using hx
      exact hgp (e3.trans e))
  · rw [World.size_setCell]
    rcases own' x hx with h1 | h1
    · have := h.lt h1; omega
    · rcases hx with rfl | hx | hx
      · omega
      · have := hkl x hx; omega
      · have e : g = x := by simpa [Value.ownBlock] using hx
        omega
  · rw [World.size_setCell]
    by_cases e : j = k
    · subst e; rw [updF_same, updF_same]; omega
    · rw [updF_other _ _ e, updF_other _ _ e]
      have := h.rng j (by omega)
      omega
  · by_cases e : j = k
    · subst e
      rw [updF_same, updF_same]
      rcases own' x hx with h1 | h1
      · have := h.lt h1; omega
      · omega
    · rw [updF_other _ _ e, updF_other _ _ e]
      have := h.rng j (by omega)
      rcases own' x hx with h1 | h1
      · exact h.out j (by omega) x h1
      · omega
  · by_cases e : j = k
    · subst e
      rw [updF_same, updF_other _ _ (by omega)]
      have := h.rng i (by omega)
      omega
    · rw [updF_other _ _ e, updF_other _ _ (by omega)]
      exact h.ord i j hij (by omega)
  · by_cases e : j = k
    · subst e
      rw [updF_same, updF_same, updF_same]
      refine hk.move (fun c hc => ?_) (Nat.le_refl _) (Nat.le_refl _) (fun c h1 h2 => ?_)
      · exact (st c (by have := (h.lt (Or.inl rfl)).1; omega)).trans (kp1 c (by omega) (fun e => by have := hil c e; omega))
      · exact (st c (by omega)).trans (kp1 c h2 (fun e => by have := hil c e; omega))
    · rw [updF_other _ _ e, updF_other _ _ e, updF_other _ _ e]
      have hr := h.rng j (by omega)
      refine (h.kid j (by omega)).move (fun c hc => ?_) (Nat.le_refl _) (Nat.le_refl _) (fun c h1 h2 => ?_)
      · exact (st c (by have := (h.lt (Or.inl rfl)).1; omega)).trans (kp c (by omega) (fun e => by have := hil c e; omega))
      · exact (st c (fun e => by have := h.out j (by omega) p (Or.inl rfl); omega)).trans (kp c (by omega) (fun e => by have := h.out j (by omega) c (Or.inr (Or.inr e)); omega))
end Go.Proofs.Ytpfnkpkcjefelaa

/-
  slices.BinarySearch among keys that rise: how many are ahead, and whether the key is there.
-/
namespace Go.Proofs.Ytpfnkpkcjefelaa
open Go.RowKit
set_option linter.unusedSimpArgs false
set_option linter.unusedVariables false

theorem cmpNaN_any (s : ByteArray) (w : World) : Calls Try.prog 121 #[.string s] w fun e w' => e = .returned (.bool false) ∧ w' = w := by
  have f3 : (s.toList == s.toList) = true := by simp
  go_enter Try.func121, Try.ntmps121
  go_wp2_with fail
  go_ret
  exact ⟨by simp, rfl⟩

theorem slNaN_any (s : ByteArray) (w : World) : Calls Try.prog 124 #[.string s] w fun e w' => e = .returned (.bool false) ∧ w' = w := by
  have f3 : (s.toList == s.toList) = true := by simp
  go_enter Try.func124, Try.ntmps124
  go_wp2_with fail
  go_ret
  exact ⟨by simp, rfl⟩

theorem cmpLess_any (a b : ByteArray) (w : World) : Calls Try.prog 123 #[.string a, .string b] w fun e w' => e = .returned (.bool (lessB a b)) ∧ w' = w := by
  go_enter Try.func123, Try.ntmps123
  go_wp2_with (go_at_call 121; refine (cmpNaN_any _ _).mono ?_; rintro e w' ⟨rfl, rfl⟩)
  go_ret
  exact ⟨rfl, rfl⟩

set_option maxRecDepth 100000 in
set_option maxHeartbeats 1600000 in
theorem search_any (B : Nat) (v : Value) (l : List ByteArray) (key : ByteArray) (w : World) (h : StrsAt B w v l) (hr : Rise l) (hl : l.length ≤ 1048576) :
    Calls Try.prog 119 #[v, .string key] w fun e w' => e = .returned (.tuple #[.int .i64 (posK l key : Nat), .bool (hasK l key)]) ∧ w' = w := by
  obtain ⟨_, _, a, cap, rfl, hc⟩ := h
  have HC := hideIt hc
  have HR := hideIt hr
  clear hc hr
  go_enter Try.func119, Try.ntmps119
  go_wp2_with fail
  go_loop [7, 8, 9] (fun p q _ => ∃ i j : Nat, i ≤ j ∧ j ≤ l.length ∧ p = .int .i64 i ∧ q = .int .i64 j ∧ Hid (∀ t, t < i → lessB (keyAt l t) key = true) ∧ Hid (j < l.length → lessB (keyAt l j) key = false)) (fun p q _ => (intOf q).toNat - (intOf p).toNat)
  case atStart => exact ⟨0, l.length, Nat.zero_le _, Nat.le_refl _, rfl, rfl, fun t ht => by omega, fun h => absurd h (by omega)⟩
  case round =>
    obtain ⟨i, j, hij, hjl, rfl, rfl, HL, HG⟩ := hrel
    by_cases hlt : i < j
    · obtain ⟨b, o, rfl, hbB, hcc⟩ := HC.out (by omega)
      obtain ⟨h, hh⟩ : ∃ h : Nat, h = (i + j) / 2 := ⟨_, rfl⟩
      have h1 : i ≤ h := by omega
      have h2 : h < j := by omega
      have hck := hcc h (by omega)
      have p0 : ((i : Int) + (j : Int)) / 2 = (h : Int) := by omega
      have hhl : h < l.length := by omega
      clear hcc hh
      go_wp2_with fail
      refine (cmpLess_any _ _ _).mono ?_
      rintro e w1 ⟨rfl, rfl⟩
      cases hle : lessB (keyAt l h) key
      · have HG2 : Hid (h < l.length → lessB (keyAt l h) key = false) := fun _ => hle
        go_wp2_with fail
        go_round
        case rel => exact ⟨i, h, h1, by omega, rfl, rfl, HL, HG2⟩
        case measure => simp [intOf]; omega
      · have HL2 : Hid (∀ t, t < h + 1 → lessB (keyAt l t) key = true) := fun t ht => by
          by_cases e : t = h
          · subst e; exact hle
          · exact less_trans (HR.out t h (by omega) hhl) hle
        go_wp2_with fail
        go_round
        case rel => exact ⟨h + 1, j, by omega, hjl, by go_num, rfl, HL2, HG⟩
        case measure => simp [intOf]; omega
    · obtain rfl : i = j := by omega
      have HP := hideIt (posK_eq hjl HL.out HG.out)
      by_cases hil : i < l.length
      · obtain ⟨b, o, rfl, hbB, hcc⟩ := HC.out (by omega)
        have hck := hcc i hil
        by_cases he : (keyAt l i).toList = key.toList
        · have HH : Hid (hasK l key = true) := by unfold Hid hasK; rw [HP.out]; simp [hil, he]
          have hz : ((keyAt l i).toList == key.toList) = true := by simp [he]
          clear hcc
          go_wp2_with fail
          go_ret2
          exact ⟨by rw [HH.out, HP.out]; rfl, rfl⟩
        · have HH : Hid (hasK l key = false) := by unfold Hid hasK; rw [HP.out]; simp [hil, he]
          have hz : ((keyAt l i).toList == key.toList) = false := by simpa using he
          clear hcc
          go_wp2_with (go_at_call 124; refine (slNaN_any _ _).mono ?_; rintro e w' ⟨rfl, rfl⟩)
          go_ret2
          exact ⟨by rw [HH.out, HP.out]; rfl, rfl⟩
      · have HH : Hid (hasK l key = false) := by unfold Hid hasK; rw [HP.out]; simp [hil]
        have hil' : ¬ ((i : Int) < (l.length : Int)) := by omega
        go_wp2_with fail
        go_ret2
        exact ⟨by rw [HH.out, HP.out]; rfl, rfl⟩
end Go.Proofs.Ytpfnkpkcjefelaa
