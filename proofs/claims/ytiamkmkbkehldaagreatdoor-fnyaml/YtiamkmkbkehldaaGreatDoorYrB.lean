/-
  Plain: bytes that lie at a place of a text, and the numbers and texts that are read there.
-/
import Derived.Test.YtiamkmkbkehldaaGreatDoorRdN
import Derived.Test.YtiamkmkbkehldaaGreatDoorCbP
import Derived.Test.YtiamkmkbkehldaaGreatDoorYrP
import Derived.Test.YtiamkmkbkehldaaGreatDoorPure
import Derived.Test.YtiamkmkbkehldaaGreatDoorYmP
import Derived.Lib.ItoaNum
import Derived.Test.YtiamkmkbkehldaaGreatDoorRowB
import Derived.Test.YtiamkmkbkehldaaGreatDoorKpK
namespace Go.Proofs.YtiamkmkbkehldaaGreatDoor
open Go.RowKit
set_option linter.unusedSimpArgs false
set_option linter.unusedVariables false

def Sit (L : List UInt8) (p : Nat) (B : List UInt8) : Prop := p ≤ L.length ∧ ∃ post, L.drop p = B ++ post
theorem Sit.left {L : List UInt8} {p : Nat} {A B : List UInt8} (h : Sit L p (A ++ B)) : Sit L p A := by
  obtain ⟨h0, post, h⟩ := h
  exact ⟨h0, B ++ post, by rw [h, List.append_assoc]⟩
theorem Sit.len {L : List UInt8} {p : Nat} {B : List UInt8} (h : Sit L p B) : p + B.length ≤ L.length := by
  obtain ⟨h0, post, h⟩ := h
  have := congrArg List.length h
  rw [List.length_drop, List.length_append] at this
  omega
theorem Sit.right {L : List UInt8} {p : Nat} {A B : List UInt8} (h : Sit L p (A ++ B)) : Sit L (p + A.length) B := by
  have hl := h.left.len
  obtain ⟨h0, post, h⟩ := h
  refine ⟨hl, post, ?_⟩
  rw [← List.drop_drop, h, List.append_assoc, List.drop_left]
theorem Sit.byte {L : List UInt8} {p : Nat} {B : List UInt8} (h : Sit L p B) {j : Nat} {x : UInt8} (hj : B[j]? = some x) : byAt L (p + j) = x.toNat := by
  obtain ⟨h0, post, h⟩ := h
  have hlt : j < B.length := by
    rcases Nat.lt_or_ge j B.length with h' | h'
    · exact h'
    · rw [List.getElem?_eq_none h'] at hj; cases hj
  have : L[p + j]? = some x := by
    rw [← List.getElem?_drop, h, List.getElem?_append_left hlt, hj]
  unfold byAt
  rw [List.getD_eq_getElem?_getD, this]
  rfl
end Go.Proofs.YtiamkmkbkehldaaGreatDoor

/-
  Plain: numbers, texts and words that JSON has written are read again.
-/
namespace Go.Proofs.YtiamkmkbkehldaaGreatDoor
open Go.RowKit
set_option linter.unusedSimpArgs false
set_option linter.unusedVariables false

theorem digB_is {d : Nat} (h : d < 10) : (UInt8.ofNat (48 + d)).toNat = 48 + d := by rw [UInt8.toNat_ofNat']; omega
theorem Sit.one {L : List UInt8} {q : Nat} {x : UInt8} {B : List UInt8} (h : Sit L q (x :: B)) : q < L.length ∧ byAt L q = x.toNat := by
  have := h.len
  rw [List.length_cons] at this
  exact ⟨by omega, h.byte (j := 0) rfl⟩
theorem Sit.next {L : List UInt8} {q : Nat} {x : UInt8} {B : List UInt8} (h : Sit L q (x :: B)) : Sit L (q + 1) B := Sit.right (A := [x]) h
theorem hexC_hexB0 : ∀ d : Fin 16, hexC (hexB d.val).toNat = some d.val := by decide +kernel
theorem hexC_hexB {d : Nat} (h : d < 16) : hexC (hexB d).toNat = some d := hexC_hexB0 ⟨d, h⟩
theorem quoB_says (c : UInt8) (hc : c.toNat ≤ 127) : (∃ x : UInt8, quoB c = [92, x] ∧ escC x.toNat = some c.toNat) ∨ (∃ a b : UInt8, quoB c = [92, 117, 48, 48, a, b] ∧ ∃ u v, hexC a.toNat = some u ∧ hexC b.toNat = some v ∧ 16 * u + v = c.toNat) ∨ (quoB c = [c] ∧ c ≠ 34 ∧ c ≠ 92 ∧ 32 ≤ c.toNat) := by
  unfold quoB
  split
  · rename_i e; subst e; exact .inl ⟨34, rfl, rfl⟩
  split
  · rename_i e; subst e; exact .inl ⟨92, rfl, rfl⟩
  split
  · rename_i e; subst e; exact .inl ⟨98, rfl, rfl⟩
  split
  · rename_i e; subst e; exact .inl ⟨116, rfl, rfl⟩
  split
  · rename_i e; subst e; exact .inl ⟨110, rfl, rfl⟩
  split
  · rename_i e; subst e; exact .inl ⟨102, rfl, rfl⟩
  split
  · rename_i e; subst e; exact .inl ⟨114, rfl, rfl⟩
  split
  · exact .inr (.inl ⟨_, _, rfl, c.toNat / 16, c.toNat % 16, hexC_hexB (by omega), hexC_hexB (by omega), by omega⟩)
  · rename_i h34 h92 _ _ _ _ _ h
    refine .inr (.inr ⟨rfl, h34, h92, ?_⟩)
    have : ¬ c < 32 := fun e => h (.inl e)
    rw [UInt8.lt_iff_toNat_lt] at this
    have e32 : (32 : UInt8).toNat = 32 := rfl
    omega
theorem esc_at {L : List UInt8} {p : Nat} {x : UInt8} {b : Nat} (h : p < L.length) (hx : byAt L p = x.toNat) (hb : escC x.toNat = some b) : escJ L p = some (b, p + 1) := by
  unfold escJ; rw [if_neg (by omega), hx]; simp only [hb]
theorem code_at {L : List UInt8} {p : Nat} {a b : UInt8} {u v : Nat} (h : Sit L p [117, 48, 48, a, b]) (ha : hexC a.toNat = some u) (hb : hexC b.toNat = some v) (hv : 16 * u + v ≤ 127) : escJ L p = some (16 * u + v, p + 5) := by
  have hl := h.len
  simp only [List.length_cons, List.length_nil] at hl
  have b0 := h.byte (j := 0) rfl
  have b1 := h.byte (j := 1) rfl
  have b2 := h.byte (j := 2) rfl
  have b3 := h.byte (j := 3) rfl
  have b4 := h.byte (j := 4) rfl
  rw [Nat.add_zero] at b0
  have e0 : escC (byAt L p) = none := by rw [b0]; rfl
  unfold escJ
  rw [if_neg (by omega)]
  simp only [e0]
  rw [if_pos (show byAt L p = 117 from b0)]
  have h1 : hexF L (p + 1) 1 = some 0 := by rw [hexF, hexF]; simp only [Nat.add_zero, b1]; rfl
  have h2 : hexF L (p + 1) 2 = some 0 := by rw [hexF, h1, show p + 1 + 1 = p + 2 by omega, b2]; rfl
  have h3 : hexF L (p + 1) 3 = some u := by rw [hexF, h2, show p + 1 + 2 = p + 3 by omega, b3]; simp only [ha]; simp
  have h4 : hexF L (p + 1) 4 = some (16 * u + v) := by rw [hexF, h3, show p + 1 + 3 = p + 4 by omega, b4]; simp only [hb]
  rw [codeJ_yes (by omega) h4 hv]
theorem tx_sit {L : List UInt8} : ∀ (l : List UInt8) (q : Nat), (∀ c ∈ l, c.toNat ≤ 127) → Sit L q (quo l ++ [34]) → txJ L q = some (l, q + (quo l).length + 1) := by
  intro l
  induction l with
  | nil =>
    intro q _ h
    obtain ⟨h1, h2⟩ := Sit.one (B := []) h
    rw [txJ_eq h1, if_pos (by rw [h2]; rfl)]
    rfl
  | cons c l ih =>
    intro q hc h
    have hc0 := hc c (by simp)
    have hcl : ∀ d ∈ l, d.toNat ≤ 127 := fun d hd => hc d (by simp [hd])
    have hof : UInt8.ofNat c.toNat = c := by simp
    rw [quo, List.append_assoc] at h
    have hr := ih _ hcl h.right
    rw [quo, List.length_append]
    rcases quoB_says c hc0 with ⟨x, e, ex⟩ | ⟨a, b, e, u, v, eu, ev, euv⟩ | ⟨e, n34, n92, n32⟩
    · rw [e] at h hr ⊢
      have hl := h.left
      obtain ⟨h1, h2⟩ := hl.one
      obtain ⟨h3, h4⟩ := hl.next.one
      have hesc := esc_at h3 h4 ex
      rw [txJ_eq h1, if_neg (by rw [h2]; decide), if_pos (by rw [h2]; rfl), hesc]
      simp only [List.length_cons, List.length_nil] at hr ⊢
      rw [show q + 1 + 1 = q + (0 + 1 + 1) by omega, hr, hof]
      refine congrArg some (Prod.ext rfl ?_)
      show q + (0 + 1 + 1) + (quo l).length + 1 = q + (0 + 1 + 1 + (quo l).length) + 1; omega
    · rw [e] at h hr ⊢
      have hl := h.left
      obtain ⟨h1, h2⟩ := hl.one
      have hesc := code_at hl.next eu ev (by omega)
      rw [txJ_eq h1, if_neg (by rw [h2]; decide), if_pos (by rw [h2]; rfl), hesc]
      simp only [List.length_cons, List.length_nil] at hr ⊢
      rw [show q + 1 + 5 = q + (0 + 1 + 1 + 1 + 1 + 1 + 1) by omega, hr, euv, hof]
      refine congrArg some (Prod.ext rfl ?_)
      show q + (0 + 1 + 1 + 1 + 1 + 1 + 1) + (quo l).length + 1 = q + (0 + 1 + 1 + 1 + 1 + 1 + 1 + (quo l).length) + 1; omega
    · rw [e] at h hr ⊢
      obtain ⟨h1, h2⟩ := h.left.one
      have m34 : ¬ byAt L q = 34 := fun e2 => n34 (UInt8.toNat_inj.1 (by rw [← h2, e2]; rfl))
      have m92 : ¬ byAt L q = 92 := fun e2 => n92 (UInt8.toNat_inj.1 (by rw [← h2, e2]; rfl))
      rw [txJ_eq h1, if_neg m34, if_neg m92, if_neg (by omega)]
      simp only [List.length_cons, List.length_nil] at hr ⊢
      rw [show q + 1 = q + (0 + 1) by omega, hr, h2, hof]
      refine congrArg some (Prod.ext rfl ?_)
      show q + (0 + 1) + (quo l).length + 1 = q + (0 + 1 + (quo l).length) + 1; omega
theorem textB_all {s : ByteArray} (h : textB s = true) : ∀ c ∈ s.data.toList, c.toNat ≤ 127 := by
  unfold textB at h
  simp only [Bool.and_eq_true, List.all_eq_true, decide_eq_true_eq] at h
  exact h.2
theorem quoT_sit {L : List UInt8} {p : Nat} {s : ByteArray} (hs : textB s = true) (h : Sit L p (quoT s)) : isAt L p 34 = true ∧ txJ L (p + 1) = some (s.data.toList, p + (quoT s).length) := by
  unfold quoT at h ⊢
  obtain ⟨h1, h2⟩ := h.one
  refine ⟨isAt_yes.2 ⟨h1, h2⟩, ?_⟩
  rw [tx_sit _ _ (textB_all hs) h.next]
  refine congrArg some (Prod.ext rfl ?_)
  simp only [List.length_cons, List.length_append, List.length_nil]
  omega
end Go.Proofs.YtiamkmkbkehldaaGreatDoor

/-
  Plain: MessagePack as the program reads it and as the specification does; that both say the same.
-/
namespace Go.Proofs.YtiamkmkbkehldaaGreatDoor
open Go.RowKit
set_option linter.unusedSimpArgs false
set_option linter.unusedVariables false

end Go.Proofs.YtiamkmkbkehldaaGreatDoor

/-
  Plain: CBOR as the program reads it and as the specification does; that both say the same.
-/
namespace Go.Proofs.YtiamkmkbkehldaaGreatDoor
open Go.RowKit
set_option linter.unusedSimpArgs false
set_option linter.unusedVariables false

end Go.Proofs.YtiamkmkbkehldaaGreatDoor

/-
  Plain: keys by their lengths, and CBOR's bytes of a tree.
-/
namespace Go.Proofs.YtiamkmkbkehldaaGreatDoor
open Go.RowKit
set_option linter.unusedSimpArgs false
set_option linter.unusedVariables false

end Go.Proofs.YtiamkmkbkehldaaGreatDoor

/-
  Plain: what is written as CBOR is read again.
-/
namespace Go.Proofs.YtiamkmkbkehldaaGreatDoor
open Go.RowKit
set_option linter.unusedSimpArgs false
set_option linter.unusedVariables false

end Go.Proofs.YtiamkmkbkehldaaGreatDoor

/-
  Plain: a tree that is written as CBOR is read again.
-/
namespace Go.Proofs.YtiamkmkbkehldaaGreatDoor
open Go.RowKit
set_option linter.unusedSimpArgs false
set_option linter.unusedVariables false

theorem keyAt_map {keys : List ByteArray} {ps : List Nat} {j : Nat} (hj : j < ps.length) : keyAt (ps.map (keyAt keys)) j = keyAt keys (ps.getD j 0) := by
  conv => lhs; unfold keyAt
  rw [List.getD_eq_getElem?_getD, List.getElem?_map, List.getD_eq_getElem?_getD, List.getElem?_eq_getElem hj]
  rfl
theorem kidAt_map {kids : List VT} {ps : List Nat} {j : Nat} (hj : j < ps.length) : kidT (ps.map (kidT kids)) j = kidT kids (ps.getD j 0) := by
  conv => lhs; unfold kidT
  rw [List.getD_eq_getElem?_getD, List.getElem?_map, List.getD_eq_getElem?_getD, List.getElem?_eq_getElem hj]
  rfl
theorem range_getD (ps : List Nat) : (List.range ps.length).map (fun j => ps.getD j 0) = ps := by
  apply List.ext_getElem?
  intro i
  rw [List.getElem?_map]
  by_cases h : i < ps.length
  · rw [List.getElem?_range h, Option.map_some, List.getD_eq_getElem?_getD, List.getElem?_eq_getElem h]; rfl
  · rw [List.getElem?_eq_none (by simp; omega), List.getElem?_eq_none (by omega)]; rfl
/-- A map whose entries came in another order. -/
theorem map_back {keys : List ByteArray} {kids : List VT} (hl : keys.length = kids.length) (hr : riseB keys = true) {ps : List Nat} (hp : ps.Perm (List.range keys.length)) : mapT (ps.map (keyAt keys)) (ps.map (kidT kids)) = .mk 6 0 ByteArray.empty keys kids := by
  have hpl : ps.length = keys.length := by rw [hp.length_eq]; simp
  have hnd : ps.Nodup := hp.nodup_iff.2 List.nodup_range
  obtain ⟨ks, hks⟩ : ∃ ks, ps.map (keyAt keys) = ks := ⟨_, rfl⟩
  have hkl : ks.length = keys.length := by rw [← hks, List.length_map, hpl]
  have hka : ∀ j, j < keys.length → keyAt ks j = keyAt keys (ps.getD j 0) := fun j hj => by rw [← hks]; exact keyAt_map (by omega)
  have hin : ∀ j, j < keys.length → ps.getD j 0 < keys.length := fun j hj => by
    have : ps.getD j 0 ∈ ps := by rw [List.getD_eq_getElem?_getD, List.getElem?_eq_getElem (show j < ps.length by omega)]; exact List.getElem_mem _
    exact List.mem_range.1 (hp.mem_iff.1 this)
  have hsm : ∀ x ∈ srt ks, x < keys.length := fun x hx => by rw [← hkl]; exact srt_mem.1 hx
  have hA1 : ((srt ks).map fun j => ps.getD j 0).Perm (List.range keys.length) := by
    have h1 := (srt_perm ks).map (fun j => ps.getD j 0)
    rw [hkl, ← hpl, range_getD] at h1
    exact h1.trans hp
  have hA2 : ((srt ks).map fun j => ps.getD j 0).Pairwise (· < ·) := by
    rw [List.pairwise_map]
    refine List.Pairwise.imp_of_mem (fun {a b} ha hb hab => ?_) (srt_rises ks)
    have ha' := hsm a ha
    have hb' := hsm b hb
    rcases Nat.lt_trichotomy (ps.getD a 0) (ps.getD b 0) with h | h | h
    · exact h
    · exfalso
      have e : a = b := by
        rw [List.getD_eq_getElem?_getD, List.getD_eq_getElem?_getD, List.getElem?_eq_getElem (show a < ps.length by omega), List.getElem?_eq_getElem (show b < ps.length by omega)] at h
        rcases Nat.lt_trichotomy a b with l | l | l
        · exact absurd h (List.pairwise_iff_getElem.1 hnd a b _ _ l)
        · exact l
        · exact absurd h.symm (List.pairwise_iff_getElem.1 hnd b a _ _ l)
      subst e
      exact (rk_tot ks).asym _ _ hab hab
    · exfalso
      have h2 := keys_less hr (ps.getD a 0 - ps.getD b 0 - 1) (ps.getD b 0) (by have := hin a ha'; omega)
      rw [show ps.getD b 0 + (ps.getD a 0 - ps.getD b 0 - 1) + 1 = ps.getD a 0 by omega, ← hka a ha', ← hka b hb'] at h2
      exact (rk_tot ks).asym _ _ hab (cfK_less h2)
  have hA : ((srt ks).map fun j => ps.getD j 0) = List.range keys.length :=
    List.Perm.eq_of_pairwise (fun a b _ _ h1 h2 => by omega) hA2 List.pairwise_lt_range hA1
  have e1 : (srt ks).map (keyAt ks) = keys := by
    rw [← range_keys keys, ← hA, List.map_map]
    refine List.map_congr_left fun j hj => ?_
    exact hka j (hsm j hj)
  have e2 : (srt ks).map (kidT (ps.map (kidT kids))) = kids := by
    have : ∀ j ∈ srt ks, kidT (ps.map (kidT kids)) j = kidT kids (ps.getD j 0) := fun j hj => kidAt_map (by have := hsm j hj; omega)
    rw [List.map_congr_left this]
    have h3 : (srt ks).map (fun j => kidT kids (ps.getD j 0)) = ((srt ks).map fun j => ps.getD j 0).map (kidT kids) := by rw [List.map_map]; rfl
    rw [h3, hA, hl, range_kids]
  rw [mapT, hks, e1, e2]
end Go.Proofs.YtiamkmkbkehldaaGreatDoor

/-
  Plain: what stands in a line of YAML is read again: single values, keys, numbers.
-/
namespace Go.Proofs.YtiamkmkbkehldaaGreatDoor
open Go.RowKit
set_option linter.unusedSimpArgs false
set_option linter.unusedVariables false

theorem pu_snoc : ∀ (l : List UInt8) (acc a : Nat) (d : UInt8), Lib.parseUint10 acc l = .ok a → 48 ≤ d.toNat → d.toNat ≤ 57 → a < 1000000000000000 → Lib.parseUint10 acc (l ++ [d]) = .ok (a * 10 + (d.toNat - 48)) := by
  intro l
  induction l with
  | nil =>
    intro acc a d h h1 h2 h3
    simp only [Lib.parseUint10, Lib.NumEnd.ok.injEq] at h
    subst h
    rw [List.nil_append, Lib.parseUint10, if_pos ⟨h1, h2⟩, if_neg (by omega), if_neg (by omega), Lib.parseUint10]
  | cons c l ih =>
    intro acc a d h h1 h2 h3
    rw [List.cons_append, Lib.parseUint10]
    rw [Lib.parseUint10] at h
    split at h
    · rename_i hc
      rw [if_pos hc]
      split at h
      · cases h
      · rename_i h4
        rw [if_neg h4]
        split at h
        · cases h
        · rename_i h5
          rw [if_neg h5]
          exact ih _ _ _ h h1 h2 h3
    · cases h
theorem dec_parse : ∀ m u, u ≤ m → u ≤ 1000000000000000 → Lib.parseUint10 0 (Lib.decDigits u) = .ok u := by
  intro m
  induction m with
  | zero =>
    intro u h _
    obtain rfl : u = 0 := by omega
    rw [Lib.decDigits, dif_pos (by omega)]; rfl
  | succ m ih =>
    intro u h h15
    by_cases h10 : u < 10
    · rw [Lib.decDigits, dif_pos h10]
      have := digB_is h10
      have h2 := pu_snoc [] 0 0 (UInt8.ofNat (48 + u)) rfl (by omega) (by omega) (by omega)
      rw [List.nil_append, this] at h2
      rw [h2]
      congr 1
      omega
    · rw [Lib.decDigits, dif_neg h10]
      have h1 := ih (u / 10) (by omega) (by omega)
      have := digB_is (show u % 10 < 10 by omega)
      rw [pu_snoc _ _ _ _ h1 (by omega) (by omega) (by omega), this]
      congr 1
      omega
theorem dec_all : ∀ m u, u ≤ m → ∀ c ∈ Lib.decDigits u, 48 ≤ c.toNat ∧ c.toNat ≤ 57 := by
  intro m
  induction m with
  | zero =>
    intro u h c hc
    obtain rfl : u = 0 := by omega
    rw [Lib.decDigits, dif_pos (by omega)] at hc
    have : c = UInt8.ofNat (48 + 0) := by simpa using hc
    subst this; decide
  | succ m ih =>
    intro u h c hc
    by_cases h10 : u < 10
    · rw [Lib.decDigits, dif_pos h10, List.mem_singleton] at hc
      have := digB_is h10
      rw [hc, this]; omega
    · rw [Lib.decDigits, dif_neg h10, List.mem_append, List.mem_singleton] at hc
      rcases hc with hc | hc
      · exact ih _ (by omega) c hc
      · have := digB_is (show u % 10 < 10 by omega)
        rw [hc, this]; omega
theorem dec_ne (u : Nat) : Lib.decDigits u ≠ [] := by
  rw [Lib.decDigits]; split <;> simp
theorem itoa_all (n : Int) : ∀ c ∈ Lib.itoa n, c = 45 ∨ (48 ≤ c.toNat ∧ c.toNat ≤ 57) := by
  intro c hc
  unfold Lib.itoa at hc
  split at hc
  · rcases List.mem_cons.1 hc with h | h
    · exact .inl h
    · exact .inr (dec_all _ _ (Nat.le_refl _) c h)
  · exact .inr (dec_all _ _ (Nat.le_refl _) c hc)
theorem itoa_ne (n : Int) : Lib.itoa n ≠ [] := by
  unfold Lib.itoa
  split
  · simp
  · exact dec_ne _
theorem itoa_back {n : Int} (h1 : -1000000000000000 ≤ n) (h2 : n ≤ 1000000000000000) : Lib.parseIntB 64 (Lib.itoa n) = .ok n := by
  rw [Lib.parseIntB_64]
  unfold Lib.itoa
  have hm : ∀ u : Nat, u ≤ 1000000000000000 → Lib.parseMag (Lib.decDigits u) = .ok u := fun u hu => by
    unfold Lib.parseMag
    rw [if_neg (dec_ne u), dec_parse u u (Nat.le_refl _) hu]
  split
  · rw [Lib.atoiAll_minus, hm _ (by omega)]
    simp only [Lib.signed]
    rw [if_neg (by omega)]
    congr 1; omega
  · have hm2 := hm n.toNat (by omega)
    have hall := dec_all _ n.toNat (Nat.le_refl _)
    cases e : Lib.decDigits n.toNat with
    | nil => exact absurd e (dec_ne _)
    | cons c r =>
      rw [e] at hm2 hall
      have := hall c (by simp)
      rw [Lib.atoiAll_plain c r (by omega) (by omega), hm2]
      simp only [Lib.signless]
      rw [if_neg (by omega)]
      congr 1; omega
/-- No minus stands behind the first sign of a number. -/
theorem itoa_line (n : Int) : Lib.itoa n ≠ [45] ∧ Lib.hasPrefix (Lib.itoa n) [45, 32] = false := by
  unfold Lib.itoa
  split
  · have h1 := dec_ne n.natAbs
    have h2 := dec_all _ n.natAbs (Nat.le_refl _)
    cases e : Lib.decDigits n.natAbs with
    | nil => exact absurd e h1
    | cons c r =>
      rw [e] at h2
      have := h2 c (by simp)
      refine ⟨by simp, ?_⟩
      rw [Bool.eq_false_iff]
      intro hp
      simp [Lib.hasPrefix, List.isPrefixOf] at hp
      rw [← hp] at this
      revert this; decide
  · have h1 := dec_ne n.toNat
    have h2 := dec_all _ n.toNat (Nat.le_refl _)
    cases e : Lib.decDigits n.toNat with
    | nil => exact absurd e h1
    | cons c r =>
      rw [e] at h2
      have := h2 c (by simp)
      refine ⟨fun h => ?_, ?_⟩
      · simp at h; rw [h.1] at this; revert this; decide
      · rw [Bool.eq_false_iff]
        intro hp
        simp [Lib.hasPrefix, List.isPrefixOf] at hp
        rw [← hp.1] at this
        revert this; decide

theorem plain_says {l : List UInt8} (h : plainL l = true) : (∃ c r, l = c :: r ∧ letterI (c.toNat : Int) = true) ∧ (∀ c ∈ l, innerI (c.toNat : Int) = true) ∧ l ≠ nullW ∧ l ≠ trueW ∧ l ≠ falseW := by
  have h0 := h
  unfold plainL at h
  simp only [Bool.and_eq_true, Bool.not_eq_true', List.all_eq_true] at h
  obtain ⟨⟨⟨⟨⟨h1, h2⟩, h3⟩, h4⟩, h5⟩, h6⟩ := h
  refine ⟨?_, h5, ?_, ?_, ?_⟩
  · cases l with
    | nil => simp at h1
    | cons c r => exact ⟨c, r, rfl, h3⟩
  · rintro rfl; revert h0; decide +kernel
  · rintro rfl; revert h0; decide +kernel
  · rintro rfl; revert h0; decide +kernel
theorem inner_ne {c : UInt8} (h : innerI (c.toNat : Int) = true) : c ≠ 10 ∧ c ≠ 58 ∧ c ≠ 34 := by
  refine ⟨?_, ?_, ?_⟩ <;> (rintro rfl; revert h; decide)
theorem letter_ne {c : UInt8} (h : letterI (c.toNat : Int) = true) : c ≠ 45 ∧ c ≠ 34 ∧ c ≠ 32 ∧ c ≠ 35 ∧ c ≠ 126 ∧ c ≠ 91 ∧ c ≠ 123 := by
  refine ⟨?_, ?_, ?_, ?_, ?_, ?_, ?_⟩ <;> (rintro rfl; revert h; decide)
theorem plain_not {c : UInt8} {r : List UInt8} (h : letterI (c.toNat : Int) = false) : plainL (c :: r) = false := by
  rw [Bool.eq_false_iff]
  intro e
  obtain ⟨⟨c', r', e1, e2⟩, _⟩ := plain_says e
  simp only [List.cons.injEq] at e1
  rw [← e1.1, h] at e2
  cases e2
theorem byAt_cons (c : UInt8) (r : List UInt8) : byAt (c :: r) 0 = c.toNat := rfl
theorem quoB_clean {c : UInt8} (hc : c.toNat ≤ 127) : ∀ d ∈ quoB c, d ≠ 10 := by
  intro d hd
  have hx : ∀ x : UInt8, ∀ b, escC x.toNat = some b → x ≠ 10 := by
    rintro x b h rfl; exact absurd h (by simp [escC])
  have hh : ∀ x : UInt8, ∀ b, hexC x.toNat = some b → x ≠ 10 := by
    rintro x b h rfl; exact absurd h (by simp [hexC])
  rcases quoB_says c hc with ⟨x, e, ex⟩ | ⟨a, b, e, u, v, eu, ev, euv⟩ | ⟨e, n34, n92, n32⟩
  · rw [e] at hd
    simp only [List.mem_cons, List.not_mem_nil, or_false] at hd
    rcases hd with rfl | rfl
    · decide
    · exact hx _ _ ex
  · rw [e] at hd
    simp only [List.mem_cons, List.not_mem_nil, or_false] at hd
    rcases hd with rfl | rfl | rfl | rfl | rfl | rfl
    · decide
    · decide
    · decide
    · decide
    · exact hh _ _ eu
    · exact hh _ _ ev
  · rw [e] at hd
    simp only [List.mem_cons, List.not_mem_nil, or_false] at hd
    rintro rfl
    rw [← hd] at n32
    revert n32; decide
theorem quo_clean : ∀ l : List UInt8, (∀ c ∈ l, c.toNat ≤ 127) → ∀ d ∈ quo l, d ≠ 10 := by
  intro l
  induction l with
  | nil => intro _ d hd; cases hd
  | cons c l ih =>
    intro h d hd
    rw [quo, List.mem_append] at hd
    rcases hd with hd | hd
    · exact quoB_clean (h c (by simp)) d hd
    · exact ih (fun x hx => h x (by simp [hx])) d hd
theorem quoT_clean {s : ByteArray} (h : textB s = true) : ∀ d ∈ quoT s, d ≠ 10 := by
  intro d hd
  unfold quoT at hd
  simp only [List.mem_cons, List.mem_append, List.not_mem_nil, or_false] at hd
  rcases hd with rfl | hd | rfl
  · decide
  · exact quo_clean _ (textB_all h) d hd
  · decide
theorem sit_zero (A B : List UInt8) : Sit (A ++ B) 0 A := ⟨Nat.zero_le _, B, by rw [List.drop_zero]⟩

/-- What stands in one line is read, and says nothing else. -/
structure FlatOk (S : List UInt8) (t : VT) : Prop where
  clean : ∀ c ∈ S, c ≠ 10
  first : ∃ c r, S = c :: r ∧ c ≠ 32 ∧ c ≠ 35
  short : shortY S = some t
  line : lineY S = some (0, [], S)
theorem flat_num {n : Int} (h1 : -1000000000000000 ≤ n) (h2 : n ≤ 1000000000000000) : FlatOk (Lib.itoa n) (numT n) := by
  have hall := itoa_all n
  have hne := itoa_ne n
  have hback := itoa_back h1 h2
  obtain ⟨hl1, hl2⟩ := itoa_line n
  obtain ⟨S, hS⟩ : ∃ S, Lib.itoa n = S := ⟨_, rfl⟩
  rw [hS] at hall hne hback hl1 hl2 ⊢
  cases S with
  | nil => exact absurd rfl hne
  | cons c r =>
    have hc := hall c (by simp)
    have hcn : c ≠ 110 ∧ c ≠ 126 ∧ c ≠ 102 ∧ c ≠ 116 ∧ c ≠ 91 ∧ c ≠ 123 ∧ c ≠ 34 ∧ c ≠ 32 ∧ c ≠ 35 := by
      refine ⟨?_, ?_, ?_, ?_, ?_, ?_, ?_, ?_, ?_⟩ <;> (rintro rfl; revert hc; decide)
    obtain ⟨k1, k2, k3, k4, k5, k6, k7, k8, k9⟩ := hcn
    have hlet : letterI (c.toNat : Int) = false := by
      rcases hc with rfl | hc
      · decide
      · unfold letterI; simp; omega
    have hclean : ∀ d ∈ c :: r, d ≠ 10 ∧ d ≠ 58 := by
      intro d hd
      have := hall d hd
      refine ⟨?_, ?_⟩ <;> (rintro rfl; revert this; decide)
    refine ⟨fun d hd => (hclean d hd).1, ⟨c, r, rfl, k8, k9⟩, ?_, ?_⟩
    · have e0 : ∀ d w, c ≠ d → ¬ (c :: r = d :: w) := fun d w h e => h (by simp at e; exact e.1)
      unfold shortY
      rw [if_neg (by rintro (h | h); exact e0 _ _ k1 h; exact e0 _ _ k2 h), if_neg (show ¬ (c :: r = falseW) from e0 _ _ k3), if_neg (show ¬ (c :: r = trueW) from e0 _ _ k4), if_neg (show ¬ (c :: r = [91, 93]) from e0 _ _ k5), if_neg (show ¬ (c :: r = [123, 125]) from e0 _ _ k6), plain_not hlet, if_neg (by decide), if_neg (by simp [Lib.hasPrefix, List.isPrefixOf]; exact fun h => k7 h.symm), hback]
      simp only
      rw [if_pos hS]
    · unfold lineY
      rw [if_neg (by rintro (h | h); exact hl1 h; rw [hl2] at h; cases h), if_neg (by rw [byAt_cons]; intro h; exact k7 (UInt8.toNat_inj.1 h)), if_pos (fun h => (hclean _ h).2 rfl)]
theorem flat_plain {s : ByteArray} (h : plainL s.data.toList = true) : FlatOk s.data.toList (wordT s) := by
  obtain ⟨⟨c, r, e, hc⟩, hin, n1, n2, n3⟩ := plain_says h
  obtain ⟨k1, k2, k3, k4, k5, k6, k7⟩ := letter_ne hc
  refine ⟨fun d hd => (inner_ne (hin d hd)).1, ⟨c, r, e, k3, k4⟩, ?_, ?_⟩
  · have e0 : ∀ d w, c ≠ d → ¬ (s.data.toList = d :: w) := fun d w h e2 => h (by rw [e] at e2; simp at e2; exact e2.1)
    unfold shortY
    rw [if_neg (by rintro (h | h); exact n1 h; exact e0 _ _ k5 h), if_neg n3, if_neg n2, if_neg (e0 _ _ k6), if_neg (e0 _ _ k7), if_pos h, txt_bytes]
  · have e0 : ∀ d w, c ≠ d → ¬ (s.data.toList = d :: w) := fun d w h e2 => h (by rw [e] at e2; simp at e2; exact e2.1)
    unfold lineY
    rw [if_neg, if_neg, if_pos (fun h => (inner_ne (hin _ h)).2.1 rfl)]
    · rw [e, byAt_cons]; intro h; exact k2 (UInt8.toNat_inj.1 h)
    · rintro (h | h)
      · exact e0 _ _ k1 h
      · rw [e] at h
        simp [Lib.hasPrefix, List.isPrefixOf] at h
        exact k1 h.1.symm
theorem quoT_cons (s : ByteArray) : quoT s = 34 :: (quo s.data.toList ++ [34]) := rfl
theorem flat_quoted {s : ByteArray} (h : textB s = true) : FlatOk (quoT s) (wordT s) := by
  have hs : Sit (quoT s) 0 (quoT s) := by have := sit_zero (quoT s) []; rwa [List.append_nil] at this
  obtain ⟨h1, h2⟩ := quoT_sit h hs
  rw [Nat.zero_add] at h2
  rw [Nat.zero_add] at h2
  have e0 : ∀ d w, 34 ≠ d → ¬ (quoT s = d :: w) := fun d w h e2 => h (by rw [quoT_cons] at e2; simp at e2; exact e2.1)
  refine ⟨quoT_clean h, ⟨34, _, rfl, by decide, by decide⟩, ?_, ?_⟩
  · unfold shortY
    rw [if_neg (by rintro (h | h); exact e0 _ _ (by decide) h; exact e0 _ _ (by decide) h), if_neg (show ¬ (quoT s = falseW) from e0 _ _ (by decide)), if_neg (show ¬ (quoT s = trueW) from e0 _ _ (by decide)), if_neg (show ¬ (quoT s = [91, 93]) from e0 _ _ (by decide)), if_neg (show ¬ (quoT s = [123, 125]) from e0 _ _ (by decide)), if_neg, if_pos, h2]
    · simp only
      rw [if_neg (by omega), txt_bytes]
    · rw [quoT_cons]; simp [Lib.hasPrefix, List.isPrefixOf]
    · rw [quoT_cons, plain_not (by decide)]; decide
  · unfold lineY
    rw [if_neg, if_pos, h2]
    · simp only
      rw [if_neg]
      intro e
      have := (isAt_yes.1 e).1
      omega
    · rw [quoT_cons]; rfl
    · rintro (h | h)
      · exact e0 _ _ (by decide) h
      · rw [quoT_cons] at h
        simp [Lib.hasPrefix, List.isPrefixOf] at h
theorem text_of {kind n : Int} {s : ByteArray} {keys : List ByteArray} {m : Nat} (h : nodeT kind n s keys m = true) (hk : kind = 4) : textB s = true := by
  subst hk
  unfold nodeT nodeB unnamedB namedB at h
  simp only [Bool.and_eq_true, List.length_replicate] at h
  obtain ⟨_, v⟩ := h
  simpa using v
/-- A right value without parts. -/
theorem flat_ok {f : Nat} {t : VT} (hg : goodT f t) (h0 : (kidsY t).length = 0) : FlatOk (flatY t) t := by
  cases f with
  | zero => exact hg.elim
  | succ f =>
    obtain ⟨kind, n, s, keys, kids⟩ := t
    have hk : kids = [] := List.eq_nil_of_length_eq_zero h0
    subst hk
    obtain ⟨h1, _⟩ := hg
    have e : ∀ F named d, wholeJ F false named d keys [] = [] := fun F named d => by unfold wholeJ; simp
    have hl := jsonT_leaf false 0 0 (kind := kind) (n := n) (s := s) (keys := keys) (kids := [])
    show FlatOk (if kind = 4 then wordY s else jsonT false 1 0 (.mk kind n s keys [])) _
    have h4 := text_of h1
    rcases nodeT_says h1 with ⟨rfl, rfl, rfl, rfl, _⟩ | ⟨rfl, h, rfl, rfl, _⟩ | ⟨rfl, h, rfl, rfl, _⟩ | ⟨rfl, rfl, h, rfl, _⟩ | ⟨rfl, rfl, rfl, rfl⟩ | ⟨rfl, rfl, rfl, hm, _⟩
    · rw [if_neg (by decide), hl.1 rfl]
      exact ⟨by decide, ⟨110, _, rfl, by decide, by decide⟩, by unfold shortY; rw [if_pos (.inl rfl)]; rfl, by unfold lineY; rw [if_neg (by decide), if_neg (by decide), if_pos (by decide)]⟩
    · rw [if_neg (by decide), hl.2.1 rfl]
      rcases h with rfl | rfl
      · rw [if_neg (by decide)]
        exact ⟨by decide, ⟨102, _, rfl, by decide, by decide⟩, by unfold shortY; rw [if_neg (by decide), if_pos (by decide)]; rfl, by unfold lineY; rw [if_neg (by decide), if_neg (by decide), if_pos (by decide)]⟩
      · rw [if_pos rfl]
        exact ⟨by decide, ⟨116, _, rfl, by decide, by decide⟩, by unfold shortY; rw [if_neg (by decide), if_neg (by decide), if_pos (by decide)]; rfl, by unfold lineY; rw [if_neg (by decide), if_neg (by decide), if_pos (by decide)]⟩
    · rw [if_neg (by decide), hl.2.2.1 rfl]
      exact flat_num h.1 h.2
    · rw [if_pos rfl]
      unfold wordY
      split
      · rename_i hp; exact flat_plain hp
      · exact flat_quoted (h4 rfl)
    · rw [if_neg (by decide), hl.2.2.2.2.1 rfl, e]
      exact ⟨by decide, ⟨91, _, rfl, by decide, by decide⟩, by unfold shortY; rw [if_neg (by decide), if_neg (by decide), if_neg (by decide), if_pos (by decide)]; rfl, by unfold lineY; rw [if_neg (by decide), if_neg (by decide), if_pos (by decide)]⟩
    · obtain rfl : keys = [] := List.eq_nil_of_length_eq_zero hm
      rw [if_neg (by decide), hl.2.2.2.2.2 rfl, e]
      have es : srt [] = [] := List.eq_nil_of_length_eq_zero (by rw [srt_len]; rfl)
      exact ⟨by decide, ⟨123, _, rfl, by decide, by decide⟩, by unfold shortY; rw [if_neg (by decide), if_neg (by decide), if_neg (by decide), if_neg (by decide), if_pos (by decide), mapT, es]; rfl, by unfold lineY; rw [if_neg (by decide), if_neg (by decide), if_pos (by decide)]⟩
/-- A key with its colon. -/
theorem key_line {key : ByteArray} (h : textB key = true) (R : List UInt8) : lineY (wordY key ++ 58 :: R) = some (6, key.data.toList, R) ∧ (∀ c ∈ wordY key, c ≠ 10) ∧ ∃ c r, wordY key = c :: r ∧ c ≠ 32 ∧ c ≠ 35 := by
  unfold wordY
  split
  · rename_i hp
    have hf := flat_plain hp
    obtain ⟨⟨c, r, e, hc⟩, hin, n1, n2, n3⟩ := plain_says hp
    obtain ⟨k1, k2, k3, k4, k5, k6, k7⟩ := letter_ne hc
    refine ⟨?_, hf.clean, hf.first⟩
    have hw : ∀ d ∈ key.data.toList, (d != 58) = true := fun d hd => by simpa using (inner_ne (hin d hd)).2.1
    have e1 : (key.data.toList ++ 58 :: R).takeWhile (· != 58) = key.data.toList := by
      rw [List.takeWhile_append_of_pos hw]
      simp
    have e2 : (key.data.toList ++ 58 :: R).dropWhile (· != 58) = 58 :: R := by
      rw [List.dropWhile_append_of_pos hw]
      simp
    unfold lineY
    rw [if_neg, if_neg, if_neg (by simp), e1, e2, if_pos hp]
    · rfl
    · rw [e, List.cons_append, byAt_cons]; intro h; exact k2 (UInt8.toNat_inj.1 h)
    · rw [e, List.cons_append]
      rintro (h | h)
      · simp at h
      · simp [Lib.hasPrefix, List.isPrefixOf] at h
        exact k1 h.1.symm
  · have hf := flat_quoted h
    refine ⟨?_, hf.clean, hf.first⟩
    obtain ⟨h1, h2⟩ := quoT_sit h (sit_zero (quoT key) (58 :: R))
    rw [Nat.zero_add, Nat.zero_add] at h2
    unfold lineY
    rw [if_neg, if_pos, h2]
    · simp only
      have e3 : isAt (quoT key ++ 58 :: R) (quoT key).length 58 = true := isAt_yes.2 ⟨by simp, by
        unfold byAt
        rw [List.getD_eq_getElem?_getD, List.getElem?_append_right (Nat.le_refl _), Nat.sub_self]; rfl⟩
      rw [if_pos e3]
      have e4 : (quoT key ++ 58 :: R).drop ((quoT key).length + 1) = R := by
        rw [show (quoT key ++ 58 :: R) = (quoT key ++ [58]) ++ R by simp, List.drop_left' (by simp)]
      rw [e4]
    · rw [quoT_cons]; rfl
    · rw [quoT_cons, List.cons_append]
      rintro (h | h)
      · simp at h
      · simp [Lib.hasPrefix, List.isPrefixOf] at h
end Go.Proofs.YtiamkmkbkehldaaGreatDoor
