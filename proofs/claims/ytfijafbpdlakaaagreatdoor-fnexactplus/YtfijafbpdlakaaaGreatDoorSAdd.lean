/-
  The order of texts by their places, and the program's sortedPlaces.
-/
import Derived.Test.YtfijafbpdlakaaaGreatDoorStbA
import Derived.Test.YtfijafbpdlakaaaGreatDoorOrdP
import Derived.Test.YtfijafbpdlakaaaGreatDoorTo
import Derived.Test.YtfijafbpdlakaaaGreatDoorStbS2
import Derived.Test.YtfijafbpdlakaaaGreatDoorStepN
import Derived.Test.YtfijafbpdlakaaaGreatDoorWnM
import Derived.Test.YtfijafbpdlakaaaGreatDoorKp
namespace Go.Proofs.YtfijafbpdlakaaaGreatDoor
open Go.RowKit
set_option linter.unusedSimpArgs false
set_option linter.unusedVariables false

/-- The texts at two places, held against each other. -/
def cfK (l : List ByteArray) (x y : Int) : Int := cmpS (keyAt l x.toNat) (keyAt l y.toNat)
def RK (l : List ByteArray) (x y : Int) : Prop := cfK l x y < 0 ∨ (cfK l x y = 0 ∧ x < y)

theorem rk_tot (l : List ByteArray) : Tot (RK l) := by
  have r3 : ∀ a b, R3 (cfK l a b) := fun a b => cmpS_r3 _ _
  have fl : ∀ a b, cfK l b a = -cfK l a b := fun a b => cmpS_flip _ _
  have tr : ∀ a b c, Tri (cfK l a b) (cfK l b c) (cfK l a c) := fun a b c => cmpS_tri _ _ _
  refine ⟨fun x y z h1 h2 => ?_, fun x y h1 h2 => ?_, fun x y h => ?_⟩
  · have t := tr x y z
    have a1 := r3 x y
    have a2 := r3 y z
    unfold RK at *
    unfold Tri comb at t
    unfold R3 at a1 a2
    rcases h1 with h1 | ⟨h1, h1'⟩ <;> rcases h2 with h2 | ⟨h2, h2'⟩
    · left
      have := t (by omega) (by omega)
      rw [this]; split <;> omega
    · left
      have := t (by omega) (by omega)
      rw [this]; split <;> omega
    · left
      have := t (by omega) (by omega)
      rw [this]; split <;> omega
    · right
      have := t (by omega) (by omega)
      refine ⟨?_, by omega⟩
      rw [this]; split <;> omega
  · have := fl x y
    unfold RK at h1 h2
    omega
  · have := fl x y
    unfold RK
    rcases Int.lt_or_gt_of_ne h with c | c
    · by_cases e : cfK l x y < 0
      · exact Or.inl (Or.inl e)
      · by_cases e2 : cfK l x y = 0
        · exact Or.inl (Or.inr ⟨e2, c⟩)
        · exact Or.inr (Or.inl (by omega))
    · by_cases e : cfK l y x < 0
      · exact Or.inr (Or.inl e)
      · by_cases e2 : cfK l y x = 0
        · exact Or.inr (Or.inr ⟨e2, c⟩)
        · exact Or.inl (Or.inl (by omega))

theorem rk_cross (l : List ByteArray) : ∀ x y : Int, x < y → (cfK l y x < 0 ↔ RK l y x) := fun x y h => by
  unfold RK
  constructor
  · exact Or.inl
  · rintro (h | h)
    · exact h
    · omega
end Go.Proofs.YtfijafbpdlakaaaGreatDoor

/-
  The keys in order have one arrangement alone: what the specification's and the program's sort give is the same. Plain mathematics.
-/
namespace Go.Proofs.YtfijafbpdlakaaaGreatDoor
open Go.RowKit
set_option linter.unusedSimpArgs false
set_option linter.unusedVariables false

theorem sortIn_map {ks : List ByteArray} : ∀ {i : Nat} {ns : List ByteArray} {ps : List Nat}, sortIn ks i = some (ns, ps) → ns = ps.map (keyAt ks) := by
  intro i
  induction i with
  | zero => intro ns ps h; simp [sortIn] at h; obtain ⟨rfl, rfl⟩ := h; rfl
  | succ i ih =>
    intro ns ps h
    rw [sortIn] at h
    split at h
    · cases h
    · rename_i ns0 ps0 h0
      split at h
      · cases h
      · injection h with h
        injection h with e1 e2
        subst e1 e2
        have := ih h0
        rw [List.map_append, List.map_append, List.map_take, List.map_drop, ← this]
        rfl

theorem drop_mem {α : Type} {l : List α} {n : Nat} {x : α} (h : x ∈ l.drop n) : ∃ j, n ≤ j ∧ ∃ hj : j < l.length, l[j] = x := by
  obtain ⟨i, hi, e⟩ := List.getElem_of_mem h
  rw [List.getElem_drop] at e
  exact ⟨n + i, by omega, by simp at hi; omega, e⟩
theorem take_mem {α : Type} {l : List α} {n : Nat} {x : α} (h : x ∈ l.take n) : ∃ j, j < n ∧ ∃ hj : j < l.length, l[j] = x := by
  obtain ⟨i, hi, e⟩ := List.getElem_of_mem h
  rw [List.getElem_take] at e
  exact ⟨i, by simp at hi; omega, by simp at hi; omega, e⟩

theorem sortIn_rise {ks : List ByteArray} : ∀ {i : Nat} {ns : List ByteArray} {ps : List Nat}, sortIn ks i = some (ns, ps) → ns.Pairwise fun a b => lessB a b = true := by
  intro i
  induction i with
  | zero => intro ns ps h; simp [sortIn] at h; obtain ⟨rfl, rfl⟩ := h; exact List.Pairwise.nil
  | succ i ih =>
    intro ns ps h
    rw [sortIn] at h
    split at h
    · cases h
    · rename_i ns0 ps0 h0
      split at h
      · cases h
      · rename_i hh
        injection h with h
        injection h with e1 e2
        subst e1 e2
        have hp := ih h0
        have hr : Rise ns0 := fun a b hab hb => by
          rw [keyAt_get (by omega), keyAt_get hb]
          exact List.pairwise_iff_getElem.1 hp a b (by omega) hb hab
        obtain ⟨p1, p2, p3⟩ := posK_spec (l := ns0) (keyAt ks i)
        have lo : ∀ x ∈ ns0.take (posK ns0 (keyAt ks i)), lessB x (keyAt ks i) = true := fun x hx => by
          obtain ⟨j, h1, h2, rfl⟩ := take_mem hx
          rw [← keyAt_get h2]; exact p2 j h1
        have hi : ∀ x ∈ ns0.drop (posK ns0 (keyAt ks i)), lessB (keyAt ks i) x = true := fun x hx => by
          obtain ⟨j, h1, h2, rfl⟩ := drop_mem hx
          have h3 := p3 (by omega)
          have h4 : (keyAt ns0 (posK ns0 (keyAt ks i))).toList ≠ (keyAt ks i).toList := fun e => hh (by unfold hasK; simp [e]; omega)
          rw [← keyAt_get h2]
          by_cases e : j = posK ns0 (keyAt ks i)
          · rw [e]; exact less_total h3 h4
          · exact less_trans (less_total h3 h4) (hr _ _ (by omega) h2)
        rw [List.append_assoc, List.pairwise_append]
        refine ⟨hp.sublist (List.take_sublist _ _), ?_, fun x hx y hy => ?_⟩
        · rw [List.singleton_append, List.pairwise_cons]
          exact ⟨fun y hy => hi y hy, hp.sublist (List.drop_sublist _ _)⟩
        · rw [List.singleton_append] at hy
          rcases List.mem_cons.1 hy with rfl | hy
          · exact lo x hx
          · exact less_trans (lo x hx) (hi y hy)

theorem cmpS_less (a b : ByteArray) : lessB a b = true ↔ cmpS a b < 0 := by
  unfold lessB cmpS
  rw [cmpL_less, decide_eq_true_eq]
  have := cmpS_r3 a b
  unfold R3 cmpS at this
  omega

theorem cfK_less {l : List ByteArray} {a b : Nat} (h : lessB (keyAt l a) (keyAt l b) = true) : RK l (a : Int) (b : Int) := by
  left
  unfold cfK
  rw [Int.toNat_natCast, Int.toNat_natCast]
  exact (cmpS_less _ _).1 h

/-- As many different numbers below N as N: all of them. -/
theorem all_below {A : List Int} {N : Nat} (hn : A.Nodup) (hl : A.length = N) (hs : ∀ x ∈ A, 0 ≤ x ∧ x < N) : ∀ x : Int, x ∈ A ↔ 0 ≤ x ∧ x < N := by
  intro x
  refine ⟨hs x, fun hx => ?_⟩
  apply Classical.byContradiction
  intro hc
  have h1 : (x :: A).Nodup := List.nodup_cons.2 ⟨hc, hn⟩
  have h2 : (x :: A) ⊆ (List.range N).map fun n : Nat => (n : Int) := fun y hy => by
    have : 0 ≤ y ∧ y < N := by
      rcases List.mem_cons.1 hy with rfl | hy
      · exact hx
      · exact hs y hy
    exact List.mem_map.2 ⟨y.toNat, List.mem_range.2 (by omega), by omega⟩
  have h3 := h1.length_le_of_subset h2
  simp at h3
  omega

/-- Two rows of numbers that rise, each of all numbers below N, are the same. -/
theorem one_order {R : Int → Int → Prop} (hR : Tot R) {A B : List Int} {N : Nat} (ha : A.Pairwise R) (hb : B.Pairwise R) (la : A.length = N) (lb : B.length = N) (sa : ∀ x ∈ A, 0 ≤ x ∧ x < N) (sb : ∀ x ∈ B, 0 ≤ x ∧ x < N) : A = B := by
  have irr : ∀ x y, R x y → x ≠ y := fun x y h e => by subst e; exact hR.asym _ _ h h
  have na : A.Nodup := ha.imp (fun h => irr _ _ h)
  have nb : B.Nodup := hb.imp (fun h => irr _ _ h)
  have hp : A.Perm B := (List.perm_ext_iff_of_nodup na nb).2 fun x => by rw [all_below na la sa, all_below nb lb sb]
  exact List.Perm.eq_of_pairwise (fun a b _ _ h1 h2 => absurd h2 (hR.asym _ _ h1)) ha hb hp

theorem rises_list {R : Int → Int → Prop} {f : Nat → Int} {N : Nat} (h : Rises R f 0 N) : ((List.range N).map f).Pairwise R := by
  rw [List.pairwise_iff_getElem]
  intro i j hi hj hij
  simp at hi hj ⊢
  exact h i j (Nat.zero_le _) hij hj

/-- The program's places are the specification's. -/
theorem places_are {l : List ByteArray} {ns : List ByteArray} {ps : List Nat} {f : Nat → Int} (hs : sortIn l l.length = some (ns, ps)) (hf : Blk (RK l) (fun p => (p : Int)) f 0 l.length) : (List.range l.length).map f = ps.map fun n : Nat => (n : Int) := by
  refine one_order (rk_tot l) (N := l.length) (rises_list hf.2) ?_ (by simp) (by rw [List.length_map]; exact (sortIn_len hs).2) ?_ ?_
  · have hr := sortIn_rise hs
    rw [sortIn_map hs, List.pairwise_map] at hr
    rw [List.pairwise_map]
    exact hr.imp (fun h => cfK_less h)
  · intro x hx
    obtain ⟨j, hj, rfl⟩ := List.mem_map.1 hx
    obtain ⟨q, q1, q2, q3⟩ := hf.1 j (Nat.zero_le _) (List.mem_range.1 hj)
    simp only at q3
    omega
  · intro x hx
    obtain ⟨n, hn, rfl⟩ := List.mem_map.1 hx
    have := sortIn_mem hs n hn
    omega

/-- Where the specification finds no order, two keys are the same; and where all keys beside each other are different, there is one. -/
theorem sortIn_some {ks : List ByteArray} : ∀ i, (∀ a b, a < b → b < i → (keyAt ks a).toList ≠ (keyAt ks b).toList) → ∃ ns ps, sortIn ks i = some (ns, ps) := by
  intro i
  induction i with
  | zero => intro _; exact ⟨[], [], rfl⟩
  | succ i ih =>
    intro h
    obtain ⟨ns, ps, e⟩ := ih (fun a b h1 h2 => h a b h1 (by omega))
    have hn : hasK ns (keyAt ks i) = false := by
      refine hasK_none fun j hj he => ?_
      have hm := sortIn_map e
      have hl := sortIn_len e
      have hj2 : j < ps.length := by omega
      have e2 : keyAt ns j = keyAt ks (ps[j]) := by
        rw [keyAt_get hj]
        subst hm
        simp
      rw [e2] at he
      have := sortIn_mem e (ps[j]) (List.getElem_mem _)
      exact h _ i this (by omega) he
    exact ⟨_, _, sortIn_put e rfl hn⟩

/-- The keys at the program's places rise just where the specification finds an order. -/
theorem places_rise {l : List ByteArray} {f : Nat → Int} (hf : Blk (RK l) (fun p => (p : Int)) f 0 l.length) (hr : ∀ p, p + 1 < l.length → lessB (keyAt l (f p).toNat) (keyAt l (f (p + 1)).toNat) = true) : ∃ ns ps, sortIn l l.length = some (ns, ps) := by
  have hall : ∀ d p, p + d + 1 < l.length → lessB (keyAt l (f p).toNat) (keyAt l (f (p + d + 1)).toNat) = true := by
    intro d
    induction d with
    | zero => intro p hp; exact hr p hp
    | succ d ih => intro p hp; exact less_trans (ih p (by omega)) (hr (p + d + 1) hp)
  have hsub : ∀ x ∈ (List.range l.length).map f, 0 ≤ x ∧ x < (l.length : Int) := fun x hx => by
    obtain ⟨j, hj, rfl⟩ := List.mem_map.1 hx
    obtain ⟨q, q1, q2, q3⟩ := hf.1 j (Nat.zero_le _) (List.mem_range.1 hj)
    simp only at q3
    omega
  have hnd : ((List.range l.length).map f).Nodup := (rises_list hf.2).imp (fun h e => by subst e; exact (rk_tot l).asym _ _ h h)
  have mem := all_below hnd (by simp) hsub
  refine sortIn_some _ fun a b hab hb he => ?_
  obtain ⟨p, hp, e1⟩ := List.mem_map.1 ((mem (a : Int)).2 (by omega))
  obtain ⟨q, hq, e2⟩ := List.mem_map.1 ((mem (b : Int)).2 (by omega))
  have hp' := List.mem_range.1 hp
  have hq' := List.mem_range.1 hq
  have key : ∀ p q, p < q → q < l.length → (keyAt l (f p).toNat).toList ≠ (keyAt l (f q).toNat).toList := fun p q h1 h2 => by
    have := hall (q - p - 1) p (by omega)
    rw [show p + (q - p - 1) + 1 = q by omega] at this
    exact less_ne this
  rcases Nat.lt_trichotomy p q with c | c | c
  · have := key p q c hq'
    rw [e1, e2, Int.toNat_natCast, Int.toNat_natCast] at this
    exact this he
  · rw [c] at e1; rw [e1] at e2; omega
  · have := key q p c hp'
    rw [e1, e2, Int.toNat_natCast, Int.toNat_natCast] at this
    exact this he.symm
end Go.Proofs.YtfijafbpdlakaaaGreatDoor

/-
  spec.l1Add: the nodes of a value behind those that lie there, their kids shifted.
-/
namespace Go.Proofs.YtfijafbpdlakaaaGreatDoor
open Go.RowKit
set_option linter.unusedSimpArgs false
set_option linter.unusedVariables false

theorem take_node {vs : List VN} {k : Nat} (h : k < vs.length) : vs.take (k + 1) = vs.take k ++ [nodeAt vs k] := by
  rw [List.take_add_one, List.getElem?_eq_getElem h]
  simp [nodeAt, h]

/-- The first k kids, shifted. -/
def addKs (l : List Int) (d : Int) (k : Nat) : List Int := (l.take k).map (· + d)
theorem addKs_zero (l : List Int) (d : Int) : addKs l d 0 = [] := by simp [addKs]
theorem addKs_len {l : List Int} {d : Int} {k : Nat} (h : k ≤ l.length) : (addKs l d k).length = k := by unfold addKs; rw [List.length_map, List.length_take]; omega
theorem addKs_succ {l : List Int} {d : Int} {k : Nat} (h : k < l.length) : addKs l d (k + 1) = addKs l d k ++ [intAt l k + d] := by
  unfold addKs
  rw [List.take_add_one, List.getElem?_eq_getElem h, List.map_append, intAt_get h]
  simp
theorem addKs_all (l : List Int) (d : Int) : addKs l d l.length = l.map (· + d) := by simp [addKs]

/-- Kids and keys that are few, and near. -/
def Near (x : VN) : Prop := x.keys.length ≤ 100000 ∧ x.kids.length ≤ 100000 ∧ ∀ j, j < x.kids.length → -1000000 ≤ intAt x.kids j ∧ intAt x.kids j ≤ 1000000

theorem news5_of (w : World) (b : Nat) (c0 c1 c2 c3 c4 : Value) (hb : w.heap.size = b) : ∀ j u, [c0, c1, c2, c3, c4][j]? = some u → (w.alloc (.cells #[c0, c1, c2, c3, c4] 34)).cell? ((⟨b, 0, none⟩ : Addr).add j) = some u := by
  subst hb; exact World.news_of_block (cs := #[c0, c1, c2, c3, c4]) (heap_alloc_new w _)

set_option maxRecDepth 100000 in
set_option maxHeartbeats 6400000 in
theorem l1Add_any (B base : Nat) (v u : Value) (ns vs : List VN) (KV IV : Nat → Value) (w : World) (h : Nest base w v ns KV IV) (hu : NodesAt B w u vs) (hB : B ≤ base) (hb : base ≤ w.heap.size) (hn : ns.length + vs.length ≤ 100000) (hnear : ∀ i, i < vs.length → Near (nodeAt vs i)) :
    Calls Tryz.prog 73 #[v, u] w fun e w' => ∃ v' KV' IV', e = .returned v' ∧ Laid base w w' v v' ns (vs.map (shiftN (ns.length : Int))) KV IV KV' IV' := by
  have H := hideIt h
  have HU := hideIt hu
  have HNR := hideIt hnear
  have HV0 := hideIt (fun y hy => (h.row.lt y hy).1)
  obtain ⟨av, cv, rfl⟩ := own_slice h.row
  obtain ⟨hlen, au, cu, rfl, hcu⟩ := hu
  have HCU := hideIt hcu
  clear h hnear hcu
  obtain ⟨i0, hi0, hz0, hs0, hy0⟩ := info_parts infoNode
  obtain ⟨i1, hi1, hz1, hs1, hy1⟩ := info_parts infoStr
  obtain ⟨i2, hi2, hz2, hs2, hy2⟩ := info_parts infoInt
  obtain ⟨D, hD⟩ : ∃ D, ns.length = D := ⟨_, rfl⟩
  have HD := hideIt hD
  rw [hD] at hn ⊢
  clear hD
  go_enter Tryz.func73, Tryz.ntmps73
  go_wp2_with fail
  go_loopw [0, 6] (fun o i wr => ∃ (c : Nat) (KV' IV' : Nat → Value), c ≤ vs.length ∧ i = .int .i64 c ∧ Laid base w wr (.slice av D cv) o ns ((vs.take c).map (shiftN (D : Int))) KV IV KV' IV') (fun _ i _ => vs.length - (intOf i).toNat)
  case atStart => exact ⟨0, KV, IV, Nat.zero_le _, rfl, by have := Laid.refl H.out; rw [HD.out] at this; simpa using this⟩
  case round =>
    obtain ⟨c, KV', IV', hc, rfl, hlaid⟩ := hrel
    have HLD := hideIt hlaid
    have hbl : Below B w wr := hlaid.below (by have := HV0.out; rw [HD.out] at this; exact this) hB hb
    have zs := hbl.size
    obtain ⟨ao, co, eo⟩ := own_slice hlaid.1.row
    obtain ⟨M, hM⟩ : ∃ M, (ns ++ (vs.take c).map (shiftN (D : Int))).length = M := ⟨_, rfl⟩
    have HMM := hideIt hM
    have HM1 : Hid (M = D + c) := by rw [Hid]; rw [← hM, List.length_append, HD.out, List.length_map, List.length_take]; omega
    rw [hM] at eo
    subst eo
    clear hlaid hM
    by_cases hlt : c < vs.length
    · have hM2 : M + 1 ≤ 100000 := by have := HM1.out; omega
      obtain ⟨b0, o0, rfl, hb0, hcell⟩ := HCU.out (by omega)
      obtain ⟨ka, ki, hn1⟩ := hcell c hlt
      have hn2 := hn1.below hbl hb0
      have c0 := hn2.c0
      have c1 := hn2.c1
      have c2 := hn2.c2
      have c3 := hn2.c3
      have c4 := hn2.c4
      obtain ⟨_, _, aK, cK, eK, hkk⟩ := hn2.inn.keys
      obtain ⟨_, hkb, aI, cI, eI, hki⟩ := hn2.inn.kids
      subst eK eI
      have HKK := hideIt hkk
      have HKI := hideIt hki
      have near := HNR.out c hlt
      have HNE := hideIt near.2.2
      have hk1 := near.1
      have hk2 := near.2.1
      clear hn1 hn2 hkk hki hcell near
      obtain ⟨nK, hnK⟩ : ∃ nK, (nodeAt vs c).keys.length = nK := ⟨_, rfl⟩
      obtain ⟨nI, hnI⟩ : ∃ nI, (nodeAt vs c).kids.length = nI := ⟨_, rfl⟩
      have HNK := hideIt hnK
      have HNI := hideIt hnI
      rw [hnK] at c3 hk1
      rw [hnI] at c4 hk2
      clear hnK hnI
      obtain ⟨W1, hW1⟩ : ∃ W1, wr.alloc (.cells #[.int .i64 (nodeAt vs c).kind, .int .i64 (nodeAt vs c).n, .string (nodeAt vs c).s, .slice aK nK cK, .slice aI nI cI] 34) = W1 := ⟨_, rfl⟩
      have hm0 := Mid.start (c0 := .int .i64 (nodeAt vs c).kind) (c1 := .int .i64 (nodeAt vs c).n) (c2 := .string (nodeAt vs c).s) (c3 := .slice aK nK cK) (c4 := .slice aI nI cI) HLD.out.1 (by omega) (Below.refl _ wr) (Below.refl _ _)
      rw [hW1] at hm0
      have HM0 := hideIt hm0
      have z1 : W1.heap.size = wr.heap.size + 1 := by rw [← hW1]; simp
      have HBW : Hid (Below wr.heap.size wr W1) := by rw [Hid, ← hW1]; exact (Below.refl _ _).alloc (Nat.le_refl _) _
      have HSRC : Hid (0 < nK → ∃ ad, aK = some ad ∧ ∀ j u, ((nodeAt vs c).keys.map Value.string)[j]? = some u → (W1.alloc (.cells #[] 9)).cell? (ad.add j) = some u) := by
        intro hp
        obtain ⟨bk, ok, rfl, hbk, hck⟩ := HKK.out (by rw [HNK.out]; exact hp)
        refine ⟨_, rfl, fun j u hj => ?_⟩
        have hj' : j < (nodeAt vs c).keys.length := by have := (List.getElem?_eq_some_iff.1 hj).1; simpa using this
        rw [show (⟨bk, ok, none⟩ : Addr).add j = ⟨bk, ok + j, none⟩ by simp [Addr.add], below_cell ((Below.refl _ W1).alloc (Nat.le_refl _) _) (by omega), below_cell HBW.out (by omega), hck j hj']
        simp [hj', keyAt] at hj ⊢
        exact hj
      have HOWN : Hid ((W1.alloc (.cells #[] 9)).ownsRow wr.heap.size 9 1 (.slice (some ⟨wr.heap.size + 1, 0, none⟩) 0 0) 0 []) := by
        have := World.ownsRow_lit (base := wr.heap.size) (e := 9) (size := 1) W1 #[] 0 (by omega) (by simp [maxLen]) rfl
        rw [z1] at this
        exact this
      have y3 : W1.cell? ⟨wr.heap.size, 3, none⟩ = some (.slice aK nK cK) := HM0.out.node.cellAt 3 (by omega)
      go_wp2_with (at_builtin; refine wpList_append_src rfl _ _ 31 rfl wr.heap.size 9 i1 (.string ByteArray.empty) 1 16 Tryz.underlying31 hi1 hz1 hs1 hy1 rfl (by decide) _ 0 [] rfl HOWN.out aK nK cK ((nodeAt vs c).keys.map .string) rfl (by simp [HNK.out]) HSRC.out ?c2 ?c3 ?c4 ?c5 ?_)
      case c2 => intro u hu; first | rfl | (obtain ⟨q, _, rfl⟩ := List.mem_map.1 hu; rfl)
      case c3 => unfold maxLen; omega
      case c4 => omega
      case c5 => first | omega | (simp; omega)
      intro vk w5 hk2 hg2 hat2
      (try simp only [Nat.zero_add, List.nil_append] at hk2)
      have hgg : W1.grownBy w5 none := (World.grownBy_alloc W1 _ none).andThen hg2 (fun j hj => Or.inl (by simp [Value.ownBlock] at hj; omega))
      have hm5 := HM0.out.grow hgg
      have HFK : Hid (∀ j, j < (ns ++ (vs.take c).map (shiftN (D : Int))).length + ([] : List VN).length → ∀ y, vk.ownBlock = some y → (KV' j).ownBlock ≠ some y) := by
        intro j hj y hy e
        have h1 := ((HLD.out.1.rk j (by simpa using hj)).lt y e).2
        have h2 := (hk2.lt y hy).1
        omega
      have hkr := hk2.kept (hm5.node.stored 3 vk).2 (own_apart hk2 hm5.node (by decide))
      obtain ⟨ak, ck, hvk⟩ := own_slice hk2
      subst hvk
      have hm7 := (hm5.put 3 (.slice ak nK ck)).kid0
      have hkr7 := hkr.alloc (.cells #[] 2)
      have x3 : w5.cell? ⟨wr.heap.size, 3, none⟩ = some (.slice aK nK cK) := hm5.node.cellAt 3 (by omega)
      have f3 : w5.frozen? ⟨wr.heap.size, 3, none⟩ = false := hm5.node.frozenAt 3
      have e5 : (w5.setCell ⟨wr.heap.size, 3, none⟩ (.slice ak nK ck)).heap.size = w5.heap.size := by simp
      rw [e5] at hm7
      have HM7 := hideIt hm7
      have HKR7 := hideIt hkr7
      clear hm7 hkr7 hkr hm5 hgg hk2 hg2 hat2 y3 e5 c0 c1 c2 c3 c4
      go_wp2_with fail
      generalize ((w5.setCell ⟨wr.heap.size, 3, none⟩ (.slice ak nK ck)).alloc (.cells #[] 2)) = W7 at *
      clear x3 f3 HSRC HOWN HM0 HBW z1 hW1 hm0
      obtain ⟨W0, rfl⟩ : ∃ W0, W0 = wr := ⟨_, rfl⟩
      go_loopw [8, 9] (fun it i wr => ∃ k : Nat, k ≤ nI ∧ i = .int .i64 k ∧ Mid base W0 wr W0.heap.size (.slice ao M co) (.slice ao M co) it (ns ++ (vs.take c).map (shiftN (D : Int))) [] (addKs (nodeAt vs c).kids (D : Int) k) [.int .i64 (nodeAt vs c).kind, .int .i64 (nodeAt vs c).n, .string (nodeAt vs c).s, .slice ak nK ck, .slice aI nI cI] KV' IV' KV' IV' ∧ wr.ownsRow W0.heap.size 9 1 (.slice ak nK ck) nK ((nodeAt vs c).keys.map .string)) (fun _ i _ => nI - (intOf i).toNat)
      case atStart => exact ⟨0, Nat.zero_le _, rfl, by rw [addKs_zero]; exact HM7.out, HKR7.out⟩
      case round =>
        obtain ⟨k, hk, rfl, hm, hkr⟩ := hrel
        have HM := hideIt hm
        have HKR := hideIt hkr
        have hfs := hm.frame.size
        have hlen2 : (addKs (nodeAt vs c).kids (D : Int) k).length = k := addKs_len (by rw [HNI.out]; exact hk)
        obtain ⟨ai, ci, ei⟩ := own_slice hm.kids
        rw [hlen2] at ei
        subst ei
        have HLK := hideIt hlen2
        have y4 : wr.cell? ⟨W0.heap.size, 4, none⟩ = some (.slice aI nI cI) := HM.out.node.cellAt 4 (by omega)
        clear hm hkr hlen2
        by_cases hkk : k < nI
        · obtain ⟨bk, ok, rfl, hbk, hck⟩ := HKI.out (by rw [HNI.out]; omega)
          obtain ⟨Q, hQ⟩ : ∃ Q, intAt (nodeAt vs c).kids k = Q := ⟨_, rfl⟩
          have hcq : wr.cell? ⟨bk, ok + k, none⟩ = some (.int .i64 Q) := by rw [← hQ]; exact (below_cell (HM.out.keepL hB) hbk).trans (hck k (by rw [HNI.out]; exact hkk))
          have hQb := HNE.out k (by rw [HNI.out]; exact hkk)
          rw [hQ] at hQb
          obtain ⟨hQ1, hQ2⟩ := hQb
          have HTK : Hid (addKs (nodeAt vs c).kids (D : Int) (k + 1) = addKs (nodeAt vs c).kids (D : Int) k ++ [Q + (D : Int)]) := by rw [Hid, addKs_succ (by rw [HNI.out]; exact hkk), hQ]
          have HKD := hideIt HM.out.kids
          clear hQ hck
          go_wp2_with (at_builtin; refine wpList_append_own_at _ rfl _ _ 32 rfl W0.heap.size 2 i2 (.int .i64 0) 1 8 Tryz.underlying32 hi2 hz2 hs2 hy2 rfl (by decide) _ _ _ rfl (HKD.out.alloc _) ⟨wr.heap.size, 0, none⟩ 1 1 [.int .i64 (Q + (D : Int))] rfl rfl ?c1 ?c2 ?c3 ?c4 ?c5 ?_)
          case c1 => exact cell_one_new _ _ _
          case c2 => first | rfl | (intro u hu; simp at hu; subst hu; rfl)
          case c3 => first | omega | (rw [HLK.out]; unfold maxLen; omega)
          case c4 => first | omega | (rw [HLK.out]; omega)
          case c5 => first | omega | (simp; omega)
          intro kv' w9 hown hgrow _ hat
          have HM9 := hideIt (HM.out.kid1 hown hgrow (by simpa using hat))
          have HKR9 := hideIt (HKR.out.kept ((World.grownBy_alloc wr _ _).trans hgrow) (own_apart HKR.out HKD.out (by decide)))
          clear hown hgrow hat
          go_wp2_with fail
          go_roundw
          case rel => exact ⟨k + 1, by omega, by go_num, by rw [HTK.out]; exact HM9.out, HKR9.out⟩
          case measure => simp [intOf]; omega
        · obtain rfl : k = nI := by omega
          have HMP := hideIt (HM.out.put 4 (.slice ai k ci))
          have f4 : wr.frozen? ⟨W0.heap.size, 4, none⟩ = false := HM.out.node.frozenAt 4
          have HKRP := hideIt (HKR.out.kept (HM.out.node.stored 4 (.slice ai k ci)).2 (own_apart HKR.out HM.out.node (by decide)))
          have X0 : (wr.setCell ⟨W0.heap.size, 4, none⟩ (.slice ai k ci)).cell? ⟨W0.heap.size, 0, none⟩ = some (.int .i64 (nodeAt vs c).kind) := HMP.out.node.cellAt 0 (by omega)
          have X1 : (wr.setCell ⟨W0.heap.size, 4, none⟩ (.slice ai k ci)).cell? ⟨W0.heap.size, 1, none⟩ = some (.int .i64 (nodeAt vs c).n) := HMP.out.node.cellAt 1 (by omega)
          have X2 : (wr.setCell ⟨W0.heap.size, 4, none⟩ (.slice ai k ci)).cell? ⟨W0.heap.size, 2, none⟩ = some (.string (nodeAt vs c).s) := HMP.out.node.cellAt 2 (by omega)
          have X3 : (wr.setCell ⟨W0.heap.size, 4, none⟩ (.slice ai k ci)).cell? ⟨W0.heap.size, 3, none⟩ = some (.slice ak nK ck) := HMP.out.node.cellAt 3 (by omega)
          have X4 : (wr.setCell ⟨W0.heap.size, 4, none⟩ (.slice ai k ci)).cell? ⟨W0.heap.size, 4, none⟩ = some (.slice ai k ci) := HMP.out.node.cellAt 4 (by omega)
          have HN := hideIt (HMP.out.nest.row.alloc (.cells #[.int .i64 (nodeAt vs c).kind, .int .i64 (nodeAt vs c).n, .string (nodeAt vs c).s, .slice ak nK ck, .slice ai k ci] 34))
          rw [List.append_nil, HMM.out] at HN
          go_wp2_with (at_builtin; refine wpList_append_own_at _ rfl _ _ 24 rfl base 34 i0 zeroNode 5 80 Tryz.underlying24 hi0 hz0 hs0 hy0 rfl (by decide) _ _ _ rfl HN.out ⟨wr.heap.size, 0, none⟩ 1 1 [.int .i64 (nodeAt vs c).kind, .int .i64 (nodeAt vs c).n, .string (nodeAt vs c).s, .slice ak nK ck, .slice ai k ci] rfl rfl ?c1 ?c2 ?c3 ?c4 ?c5 ?_)
          case c1 => exact news5_of _ _ _ _ _ _ _ (by simp)
          case c2 => intro u hu; simp at hu; rcases hu with rfl | rfl | rfl | rfl | rfl <;> rfl
          case c3 => unfold maxLen; omega
          case c4 => omega
          case c5 => simp; omega
          intro v' w6 hown hgrow _ hat
          have hfin := Mid.fin (x := shiftN (D : Int) (nodeAt vs c)) HMP.out (by show (nodeAt vs c).kids.map (· + (D : Int)) = _; rw [← HNI.out, addKs_all]) (by show World.ownsRow _ _ _ _ _ (nodeAt vs c).keys.length _; rw [HNK.out]; exact HKRP.out) HFK.out (by rw [List.append_nil, HMM.out, List.map_take]; exact hown) hgrow (by simpa using hat)
          have HL := hideIt (HLD.out.trans hfin)
          have HTN : Hid ((vs.take (c + 1)).map (shiftN (D : Int)) = (vs.take c).map (shiftN (D : Int)) ++ [shiftN (D : Int) (nodeAt vs c)]) := by rw [Hid, take_node hlt, List.map_append]; rfl
          clear hown hgrow hat hfin
          go_wp2_with fail
          go_roundw
          case rel => exact ⟨c + 1, _, _, by omega, by go_num, by rw [HTN.out]; exact HL.out⟩
          case measure => simp [intOf]; omega
    · obtain rfl : c = vs.length := by omega
      go_wp2_with fail
      go_ret
      exact ⟨_, _, _, rfl, by have := HLD.out; rwa [List.take_length] at this⟩
end Go.Proofs.YtfijafbpdlakaaaGreatDoor
