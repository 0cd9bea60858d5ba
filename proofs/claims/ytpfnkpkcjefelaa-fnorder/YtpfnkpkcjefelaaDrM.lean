/-
  A value is drawn that is not right now and then: one field of one node may be another one.
-/
import Derived.Test.YtpfnkpkcjefelaaDrV
import Derived.Laws.OwnMore
namespace Go.Proofs.Ytpfnkpkcjefelaa
open Go.RowKit
set_option linter.unusedSimpArgs false
set_option linter.unusedVariables false

theorem nodeAt_set {vs : List VN} {i : Nat} {x : VN} (hi : i < vs.length) (j : Nat) : nodeAt (vs.set i x) j = if j = i then x else nodeAt vs j := by
  unfold nodeAt
  rw [List.getD_eq_getElem?_getD, List.getD_eq_getElem?_getD, List.getElem?_set]
  by_cases e : i = j
  · subst e; simp [hi]
  · have e' : ¬ j = i := fun h => e h.symm
    simp [e, e']

theorem nestCells_put {vs : List VN} {KV IV : Nat → Value} {i f : Nat} {x : VN} {u : Value} (hi : i < vs.length) (hf : f < 3) (h0 : Value.int .i64 x.kind = if f = 0 then u else .int .i64 (nodeAt vs i).kind) (h1 : Value.int .i64 x.n = if f = 1 then u else .int .i64 (nodeAt vs i).n) (h2 : Value.string x.s = if f = 2 then u else .string (nodeAt vs i).s) :
    nestCells (vs.set i x) KV IV = (nestCells vs KV IV).set (i * 5 + f) u := by
  apply List.ext_getElem
  · simp [nestCells]
  · intro j hj1 hj2
    rw [List.getElem_set]
    simp only [nestCells, List.getElem_map, List.getElem_range]
    unfold nestCell
    rw [nodeAt_set hi]
    by_cases e : j / 5 = i
    · rw [if_pos e, e]
      have ej : j = i * 5 + j % 5 := by omega
      have hr : j % 5 < 5 := by omega
      generalize j % 5 = r at ej hr
      subst ej
      match r, hr with
      | 0, _ => simp only [if_true]; rw [h0]; by_cases e2 : f = 0 <;> simp [e2]
      | 1, _ => simp; exact h1
      | 2, _ => simp; exact h2
      | 3, _ => simp; omega
      | 4, _ => simp; omega
    · have hne : ¬ i * 5 + f = j := by omega
      simp only [if_neg e, if_neg hne]

theorem Nest.put {base g n c : Nat} {w : World} {vs : List VN} {KV IV : Nat → Value} {i f : Nat} {x : VN} {u : Value} (h : Nest base w (.slice (some ⟨g, 0, none⟩) n c) vs KV IV) (hl : vs.length = n) (hi : i < vs.length) (hf : f < 3) (hu : u.oneCell' = true) (h0 : Value.int .i64 x.kind = if f = 0 then u else .int .i64 (nodeAt vs i).kind) (h1 : Value.int .i64 x.n = if f = 1 then u else .int .i64 (nodeAt vs i).n) (h2 : Value.string x.s = if f = 2 then u else .string (nodeAt vs i).s) (hk : x.keys = (nodeAt vs i).keys) (hd : x.kids = (nodeAt vs i).kids) :
    Nest base (w.setCell ⟨g, i * 5 + f, none⟩ u) (.slice (some ⟨g, 0, none⟩) n c) (vs.set i x) KV IV := by
  have hr := h.row
  rw [hl] at hr
  have hs := hr.stored (i * 5 + f) u
  have hlen : (vs.set i x).length = vs.length := List.length_set ..
  have hks : ∀ j, (nodeAt (vs.set i x) j).keys = (nodeAt vs j).keys := fun j => by rw [nodeAt_set hi]; split <;> simp_all
  have hds : ∀ j, (nodeAt (vs.set i x) j).kids = (nodeAt vs j).kids := fun j => by rw [nodeAt_set hi]; split <;> simp_all
  refine ⟨?_, fun j hj => ?_, fun j hj => ?_, fun a b ha hb => h.dkk a b (by omega) (by omega), fun a b ha hb => h.dii a b (by omega) (by omega)⟩
  · rw [hlen, hl, nestCells_put hi hf h0 h1 h2]; exact hs.1
  · rw [hks]; exact (h.rk j (by omega)).kept hs.2 (own_apart (h.rk j (by omega)) hr (by decide))
  · rw [hds]; exact (h.ri j (by omega)).kept hs.2 (own_apart (h.ri j (by omega)) hr (by decide))

theorem Fine.put {c i : Nat} {vs : List VN} {x : VN} (h : Fine c vs) (hi : i < vs.length) (hk : x.keys = (nodeAt vs i).keys) (hd : x.kids = (nodeAt vs i).kids) (h1 : -9223372036854775808 ≤ x.kind ∧ x.kind ≤ 9223372036854775807) (h2 : -9223372036854775808 ≤ x.n ∧ x.n ≤ 9223372036854775807) (h3 : x.s.size ≤ 60) : Fine c (vs.set i x) := by
  have hl : (vs.set i x).length = vs.length := List.length_set ..
  refine ⟨by rw [hl]; exact h.1, by rw [hl]; exact h.2.1, fun j hj => ?_⟩
  rw [hl] at hj ⊢
  rw [nodeAt_set hi]
  by_cases e : j = i
  · rw [if_pos e]
    have hx := h.2.2 i hi
    exact ⟨by rw [hk]; exact hx.keysN, by rw [hk]; exact hx.keysS, by rw [hd]; exact hx.kidsN, by rw [hd]; exact hx.kids, h3, h1, h2⟩
  · rw [if_neg e]; exact h.2.2 j hj

set_option maxRecDepth 100000 in
set_option maxHeartbeats 3200000 in
theorem rdMaybe_any (rb n : Nat) (w : World) (h : ∃ p, RdAt w rb n p) :
    Calls Try.prog 48 #[.pointer (some ⟨rb, 0, none⟩)] w fun e w' => (∃ r vs KV IV, e = .returned r ∧ Fine 40 vs ∧ Nest w.heap.size w' r vs KV IV) ∧ Drawn rb n w w' := by
  have H := hideIt h
  have hrb : rb < w.heap.size := by obtain ⟨p, hp⟩ := h; exact hp.lt
  clear h
  go_enter Try.func48, Try.ntmps48
  go_wp2_with fail
  refine (rdValue_any rb n 3 (by omega) w H.out).mono ?_
  rintro e w1 ⟨⟨r, vs, KV, IV, rfl, hf, hn⟩, hd⟩
  have HF : Hid (Fine 40 vs) := hf
  have HD := hideIt hd
  have z1 := hd.only.1
  obtain ⟨M, hM⟩ : ∃ M, vs.length = M := ⟨_, rfl⟩
  have HM := hideIt hM
  have hM1 : 1 ≤ M := by have := hf.1; omega
  have hM2 : M ≤ 40 := by have h2 : vs.length ≤ 40 := hf.2.1; omega
  obtain ⟨g, c, e, hgl, _⟩ := hn.row.form hf.1
  rw [hM] at e
  subst e
  have HN := hideIt hn
  clear hf hn hd hM
  go_wp2_with fail
  refine (rdOnce_any rb n 12 w1 HD.out.rd (by omega) (by omega)).mono ?_
  rintro e w2 ⟨⟨b, rfl⟩, hd2⟩
  have HD2 := hideIt (HD.out.trans hd2)
  have HN2 := hideIt (HN.out.from (hd2.from hrb))
  have z2 := hd2.only.1
  clear hd2 HN
  cases b
  · go_wp2_with fail
    go_ret
    exact ⟨⟨_, vs, KV, IV, rfl, HF.out, HN2.out⟩, HD2.out⟩
  go_wp2_with fail
  refine (rdBelow_any rb n M w2 HD2.out.rd hM1 (by omega)).mono ?_
  rintro e w3 ⟨⟨i, hi, rfl⟩, hd3⟩
  have HD3 := hideIt (HD2.out.trans hd3)
  have HN3 := hideIt (HN2.out.from (hd3.from hrb))
  have z3 := hd3.only.1
  clear hd3 HN2
  go_wp2_with fail
  refine (rdBelow_any rb n 3 w3 HD3.out.rd (by omega) (by omega)).mono ?_
  rintro e w4 ⟨⟨t, ht, rfl⟩, hd4⟩
  have HD4 := hideIt (HD3.out.trans hd4)
  have HN4 := hideIt (HN3.out.from (hd4.from hrb))
  have z4 := hd4.only.1
  have hiM : (i : Int) < (M : Int) := by omega
  clear hd4 HN3
  by_cases t0 : t = 0
  · subst t0
    go_wp2_with fail
    refine (rdOff_any rb n 1 6 w4 HD4.out.rd (by omega) (by omega) (by omega)).mono ?_
    rintro e w5 ⟨⟨x, hx1, hx2, rfl⟩, hd5⟩
    have HD5 := hideIt (HD4.out.trans hd5)
    have HN5 := hideIt (HN4.out.from (hd5.from hrb))
    clear hd5 HN4
    have hrow := HN5.out.row
    rw [HM.out] at hrow
    obtain ⟨⟨v0, hcell⟩, hfz⟩ := own_wrow hrow (i * 5) (by omega)
    have HN6 := hideIt (HN5.out.put (i := i) (f := 0) (x := { nodeAt vs i with kind := x }) (u := .int .i64 x) HM.out (by rw [HM.out]; exact hi) (by omega) rfl rfl rfl rfl rfl rfl)
    have HF6 := hideIt (HF.out.put (i := i) (x := { nodeAt vs i with kind := x }) (by rw [HM.out]; exact hi) rfl rfl ⟨hx1, hx2⟩ (HF.out.2.2 i (by rw [HM.out]; exact hi)).num (HF.out.2.2 i (by rw [HM.out]; exact hi)).size)
    have hbs : Below w.heap.size w5 (w5.setCell ⟨g, i * 5, none⟩ (.int .i64 x)) := (Below.refl w.heap.size w5).setCell hgl _
    have HD6 := hideIt (HD5.out.far hbs hrb (Nat.le_refl _))
    clear hbs
    clear hrow HN5 HD5
    go_wp2_with fail
    go_ret
    exact ⟨⟨_, _, KV, IV, rfl, HF6.out, HN6.out⟩, HD6.out⟩
  have f0 : ((t : Int) == 0) = false := by simp; omega
  by_cases t1 : t = 1
  · subst t1
    clear t0
    go_wp2_with fail
    refine (rdOff_any rb n 0 1 w4 HD4.out.rd (by omega) (by omega) (by omega)).mono ?_
    rintro e w5 ⟨⟨x, hx1, hx2, rfl⟩, hd5⟩
    have HD5 := hideIt (HD4.out.trans hd5)
    have HN5 := hideIt (HN4.out.from (hd5.from hrb))
    clear hd5 HN4
    have hrow := HN5.out.row
    rw [HM.out] at hrow
    obtain ⟨⟨v0, hcell⟩, hfz⟩ := own_wrow hrow (i * 5 + 1) (by omega)
    have HN6 := hideIt (HN5.out.put (i := i) (f := 1) (x := { nodeAt vs i with n := x }) (u := .int .i64 x) HM.out (by rw [HM.out]; exact hi) (by omega) rfl rfl rfl rfl rfl rfl)
    have HF6 := hideIt (HF.out.put (i := i) (x := { nodeAt vs i with n := x }) (by rw [HM.out]; exact hi) rfl rfl (HF.out.2.2 i (by rw [HM.out]; exact hi)).kind ⟨hx1, hx2⟩ (HF.out.2.2 i (by rw [HM.out]; exact hi)).size)
    have hbs : Below w.heap.size w5 (w5.setCell ⟨g, i * 5 + 1, none⟩ (.int .i64 x)) := (Below.refl w.heap.size w5).setCell hgl _
    have HD6 := hideIt (HD5.out.far hbs hrb (Nat.le_refl _))
    clear hbs
    clear hrow HN5 HD5
    go_wp2_with fail
    go_ret
    exact ⟨⟨_, _, KV, IV, rfl, HF6.out, HN6.out⟩, HD6.out⟩
  obtain rfl : t = 2 := by omega
  have HD5 := hideIt HD4.out
  have HN5 := hideIt HN4.out
  obtain ⟨w5, hw5⟩ : ∃ w5, w5 = w4 := ⟨_, rfl⟩
  subst hw5
  clear t0 t1 HN4
  have hrow := HN5.out.row
  rw [HM.out] at hrow
  obtain ⟨⟨v0, hcell⟩, hfz⟩ := own_wrow hrow (i * 5 + 2) (by omega)
  have HN6 := hideIt (HN5.out.put (i := i) (f := 2) (x := { nodeAt vs i with s := ⟨#[255]⟩ }) (u := .string ⟨#[255]⟩) HM.out (by rw [HM.out]; exact hi) (by omega) rfl rfl rfl rfl rfl rfl)
  have HF6 := hideIt (HF.out.put (i := i) (x := { nodeAt vs i with s := ⟨#[255]⟩ }) (by rw [HM.out]; exact hi) rfl rfl (HF.out.2.2 i (by rw [HM.out]; exact hi)).kind (HF.out.2.2 i (by rw [HM.out]; exact hi)).num (by show (⟨#[255]⟩ : ByteArray).size ≤ 60; decide))
  have hbs : Below w.heap.size w5 (w5.setCell ⟨g, i * 5 + 2, none⟩ (.string ⟨#[255]⟩)) := (Below.refl w.heap.size w5).setCell hgl _
  have HD6 := hideIt (HD5.out.far hbs hrb (Nat.le_refl _))
  clear hbs
  clear hrow HN5 HD5
  go_wp2_with fail
  go_ret
  exact ⟨⟨_, _, KV, IV, rfl, HF6.out, HN6.out⟩, HD6.out⟩
end Go.Proofs.Ytpfnkpkcjefelaa
