/-
  Plain: what is written as CBOR comes back, whatever stands behind; cut short it says nothing.
-/
import Derived.Test.YtokhindolimchaaGreatISh
import Derived.Test.YtokhindolimchaaGreatCbI2
import Derived.Test.YtokhindolimchaaGreatProg
import Derived.Test.YtokhindolimchaaGreatEscP
import Derived.Laws.IdiomStrings
import Derived.Below
import Derived.WideShapes
import Derived.WalkKit
import Derived.Deep.QuietTactic
import Derived.BigQuiet
import Derived.Deep.RegionWith
import Derived.Test.YtokhindolimchaaGreatIHigh
import Derived.Test.YtokhindolimchaaGreatOrdS
namespace Go.Proofs.YtokhindolimchaaGreat
open Go.RowKit
set_option linter.unusedSimpArgs false
set_option linter.unusedVariables false

theorem cbor_front {ns : List VN} (hok : okB ns = true) {s : ByteArray} {tl : List UInt8} (hs : s.size ≤ 4000) (he : s.data.toList = cborV ns ++ tl) : cborF s = some (ns, (cborV ns).length) ∧ ∃ g t, rdC s.data.toList g 0 = some (t, (cborV ns).length) := by
  have hl := len_is s
  have hv : cborV ns = cborT ns.length (treeOf ns ns.length (ns.length - 1)) := by unfold cborV; rw [if_pos hok]
  obtain ⟨p1, _⟩ := okB_parts hok
  have hg := good_tree hok ns.length (ns.length - 1) (by omega) (by omega)
  have hsit : Sit s.data.toList 0 (cborT ns.length (treeOf ns ns.length (ns.length - 1))) := ⟨Nat.zero_le _, tl, by rw [List.drop_zero, he, hv]⟩
  have hb : s.data.toList.length ≤ 1000000000000000 := by omega
  have h1 := read_cbor hb ns.length ns.length _ 0 (Nat.le_refl _) hg hsit
  have h2 := rdC_ok s.data.toList (by omega) ns.length 0 _ _ h1
  have h4 := h2.2.2.1
  rw [whole_len hok] at h4
  have h5 := h2.2.1
  have h3 := read_cbor hb ns.length (s.size + 1) _ 0 (by omega) hg hsit
  rw [← hv, Nat.zero_add] at h3
  refine ⟨?_, _, _, h3⟩
  have h6 : layT (s.size + 1) (treeOf ns ns.length (ns.length - 1)) 0 = ns := by rw [layT_more hg.full (by omega), whole_lay hok]
  unfold cborF frontV
  rw [if_neg (by omega), h3, hl]
  unfold okOf
  dsimp only
  rw [h6, if_pos hok]
theorem cbor_cut {ns : List VN} (hok : okB ns = true) {s u : ByteArray} (hs : s.size ≤ 4000) (he : s.data.toList = cborV ns) {m : Nat} (hm : m < s.size) (hu : u.data.toList = s.data.toList.take m) : cborF u = none := by
  have hl := len_is s
  have hlu := len_is u
  obtain ⟨_, g, t, h⟩ := cbor_front hok hs (tl := []) (by rw [he, List.append_nil])
  rw [← he] at h
  have h2 := cut_none (f := u.size + 1) h (m := m) (by omega) (by omega)
  unfold cborF frontV
  rw [hu, h2]
  split <;> rfl
theorem cbor_short {ns : List VN} (hok : okB ns = true) {s : ByteArray} (hs : s.size ≤ 4000) (he : s.data.toList = cborV ns) : shortB s = true := by
  have h := (cbor_front hok hs (tl := []) (by rw [he, List.append_nil])).1
  unfold shortB
  rw [h]
  dsimp only
  rw [← he, txt_bytes]
  simp
end Go.Proofs.YtokhindolimchaaGreat

/-
  Plain: the tree of the nodes that are laid for a tree; what ReadCbor reads, written again.
-/
namespace Go.Proofs.YtokhindolimchaaGreat
open Go.RowKit
set_option linter.unusedSimpArgs false
set_option linter.unusedVariables false

theorem cborT_more : ∀ {f g : Nat} {t : VT}, FullT f t → f ≤ g → cborT g t = cborT f t := by
  intro f
  induction f with
  | zero => intro g t h; exact h.elim
  | succ f ih =>
    intro g t h hg
    obtain ⟨g, rfl⟩ : ∃ k, g = k + 1 := ⟨g - 1, by omega⟩
    obtain ⟨kind, n, s, keys, kids⟩ := t
    have hL : ∀ k, k ≤ kids.length → cborL (cborT g) kids k = cborL (cborT f) kids k := by
      intro k
      induction k with
      | zero => intro _; rfl
      | succ k ihk => intro hk; rw [cborL, cborL, ihk (by omega), ih (h k (by omega)) (by omega)]
    have hE : ∀ ps : List Nat, (∀ p ∈ ps, p < kids.length) → entC (cborT g) keys kids ps = entC (cborT f) keys kids ps := by
      intro ps
      induction ps with
      | nil => intro _; rfl
      | cons x ps ihp =>
        intro hp
        rw [show x :: ps = [x] ++ ps from rfl, entC_app, entC_app, entC_one, entC_one, ih (h x (hp x (by simp))) (by omega), ihp (fun p h => hp p (by simp [h]))]
    obtain ⟨ps, hps⟩ : ∃ ps, byLen keys kids.length 61 = ps := ⟨_, rfl⟩
    have hE2 := hE ps (fun p hp => by rw [← hps] at hp; exact (byLen_mem.1 hp).1)
    rw [cborT, cborT, hL _ (Nat.le_refl _), hps, hE2]
/-- What was read, written again: no longer; and read of what was used alone: the same. -/
theorem cborF_used {s : ByteArray} {ns : List VN} {q : Nat} (h : cborF s = some (ns, q)) : q ≤ s.size ∧ (cborV ns).length ≤ q ∧ ∀ u : ByteArray, u.data.toList = s.data.toList.take q → cborF u = some (ns, q) := by
  have hl := len_is s
  have hs := (cborF_ok h).2.1
  unfold cborF frontV at h
  rw [if_neg (by omega)] at h
  cases e : rdC s.data.toList (s.size + 1) 0 with
  | none => rw [e] at h; cases h
  | some x =>
    obtain ⟨t, r⟩ := x
    rw [e] at h
    unfold okOf at h
    dsimp only at h
    split at h
    rotate_left
    · cases h
    rename_i hok
    simp only [Option.some.injEq, Prod.mk.injEq] at h
    obtain ⟨h1, rfl⟩ := h
    rw [hl] at h1 hok
    have hfull := rdC_full s.data.toList (s.size + 1) 0 t r e
    have hgood := ((ok_lay hfull).1 hok).2.1
    have hrk := rdC_ok s.data.toList (by omega) (s.size + 1) 0 t r e
    have hlen : (layT (s.size + 1) t 0).length = ns.length := by rw [h1]
    have hfn : FullT ns.length t := by rw [← hlen]; exact full_len hfull 0
    have hr := hrk.2.1
    have hnr : ns.length ≤ r := by have := hrk.2.2.1; omega
    have hln : layT ns.length t 0 = ns := by rw [← layT_more hfn (show ns.length ≤ s.size + 1 by omega), h1]
    have htb := tree_back hfn ns 0 ns.length (Nat.le_refl _) (fun j hj => by rw [Nat.zero_add, hln])
    rw [hln, Nat.zero_add] at htb
    have hcv : cborV ns = cborT (s.size + 1) t := by
      unfold cborV
      rw [if_pos (by rw [← h1]; exact hok), htb]
      exact (cborT_more hfn (by omega)).symm
    refine ⟨by omega, ?_, fun u hu => ?_⟩
    · rw [hcv]
      have := rdC_short (L := s.data.toList) (by omega) (s.size + 1) 0 t r e hgood
      omega
    · have hlu := len_is u
      have hul : u.size = r := by rw [← hlu, hu, List.length_take]; omega
      have e2 := rdC_fit (L := s.data.toList) (m := r) (by omega) (by omega) (s.size + 1) (u.size + 1) 0 t r e (Nat.le_refl _) (by omega)
      rw [← hu] at e2
      unfold cborF frontV
      rw [if_neg (by omega), e2]
      unfold okOf
      dsimp only
      have h6 : layT (u.data.toList.length + 1) t 0 = ns := by rw [layT_more hfn (by omega), hln]
      rw [h6, if_pos (by rw [← h1]; exact hok)]
end Go.Proofs.YtokhindolimchaaGreat

/-
  The specification's l2Hex: one sign.
-/
namespace Go.Proofs.YtokhindolimchaaGreat
open Go.RowKit Go.WideShapes
set_option linter.unusedSimpArgs false
set_option linter.unusedVariables false
theorem one_byte (x : UInt8) (w : World) : (convert 22 9 (.slice (some ⟨w.heap.size, 0, none⟩) 1 1)).run Tryz.prog (w.alloc (.cells #[.int .u8 (x.toNat : Int)] 5)) = .ok (.string ⟨#[x]⟩) (w.alloc (.cells #[.int .u8 (x.toNat : Int)] 5)) := by
  have := run_convert_bytes_back (P := Tryz.prog) (w.alloc (.cells #[.int .u8 (x.toNat : Int)] 5)) 22 9 5 ⟨w.heap.size, 0, none⟩ 1 [x] Tryz.underlying22 Tryz.underlying5 Tryz.underlying9 (fun j hj => by
    obtain rfl : j = 0 := by simpa using hj
    rw [add_plain, Nat.zero_add]
    simp)
  exact this

theorem txt_one (x : UInt8) : (txt [x]).size = 1 := txt_size [x]
end Go.Proofs.YtokhindolimchaaGreat

/-
  The specification's Escaped.
-/
namespace Go.Proofs.YtokhindolimchaaGreat
open Go.RowKit Go.WideShapes
set_option linter.unusedSimpArgs false
set_option linter.unusedVariables false
theorem two_below {w wr w1 w2 : World} (h : Below w.heap.size w wr) (h1 : Below wr.drew.heap.size wr.drew w1) (h2 : Below w1.heap.size w1 w2) : Below w.heap.size w w2 :=
  (h.drew.trans (h1.mono (h.drew.size))).trans (h2.mono (h.drew.trans (h1.mono (h.drew.size))).size)
theorem esc_tail (o : List UInt8) (c : UInt8) : txt o ++ ⟨#[92, 120]⟩ ++ txt [hexB ((c.toNat : Int) / 16).toNat] ++ txt [hexB ((c.toNat : Int) % 16).toNat] = txt (o ++ [92, 120, hexB (c.toNat / 16), hexB (c.toNat % 16)]) := by
  have e1 : ((c.toNat : Int) / 16).toNat = c.toNat / 16 := by omega
  have e2 : ((c.toNat : Int) % 16).toNat = c.toNat % 16 := by omega
  rw [e1, e2, app_txt, txt_app, txt_app]
  simp

end Go.Proofs.YtokhindolimchaaGreat

/-
  Draws of bytes; what is drawn for Escaped and for Unescaped.
-/
namespace Go.Proofs.YtokhindolimchaaGreat
open Go.RowKit
set_option linter.unusedSimpArgs false
set_option linter.unusedVariables false

theorem RowB.only {base rb : Nat} {w w' : World} {v : Value} {l : List UInt8} (h : RowB base w v l) (ho : Only (fun c => c = rb) w w') (hr : rb < base) : RowB base w' v l := by
  refine ⟨h.1, ?_⟩
  rcases h.2 with ⟨hv, h0⟩ | ⟨g, cap, cur, hv, h1, h2, h3⟩
  · exact .inl ⟨hv, h0⟩
  · refine .inr ⟨g, cap, cur, hv, h1, ?_, h3⟩
    rw [ho.2 g ?_ (by omega)]
    · exact h2
    · rcases Nat.lt_or_ge g w.heap.size with h' | h'
      · exact h'
      · rw [Array.getElem?_eq_none h'] at h2; cases h2
theorem RdAt.low {w w' : World} {rb n p N : Nat} (h : RdAt w rb n p) (hb : Below N w w') (hr : rb < N) : RdAt w' rb n p := by
  have hl := h.lt
  refine ⟨by have := hb.size; omega, ?_, (below_cell hb hr).trans h.place, h.le, h.few, (frozen_same (hb.block rb hr)).trans h.free⟩
  obtain ⟨a, cap, h1, h2⟩ := h.src
  refine ⟨a, cap, (below_cell hb hr).trans h1, fun hp => ?_⟩
  obtain ⟨b, o, e, hlt, hx⟩ := h2 hp
  exact ⟨b, o, e, hlt, fun i hi => by obtain ⟨x, h3, h4⟩ := hx i hi; exact ⟨x, h3, (below_cell hb (by omega)).trans h4⟩⟩
theorem Drawn.grow {rb n : Nat} {a b c : World} (h : Drawn rb n a b) (k : Below a.heap.size b c) (hr : rb < a.heap.size) : Drawn rb n a c := by
  obtain ⟨p, hp⟩ := h.rd
  exact ⟨⟨p, hp.low k hr⟩, ⟨Nat.le_trans h.only.1 k.size, fun i h1 h2 => (k.block i h1).trans (h.only.2 i h1 h2)⟩, h.below.trans (k.mono (Nat.le_of_lt hr))⟩

set_option maxRecDepth 100000 in
set_option maxHeartbeats 1600000 in
theorem rdBytes_any (rb n m : Nat) (w : World) (h : ∃ p, RdAt w rb n p) (hM : m ≤ 1000) :
    Calls Tryz.prog 52 #[.pointer (some ⟨rb, 0, none⟩), .int .i64 m] w fun e w' => (∃ s : ByteArray, s.size ≤ m ∧ e = .returned (.string s)) ∧ Drawn rb n w w' := by
  obtain ⟨p0, h0⟩ := h
  have hlr := h0.lt
  have HD0 := hideIt ((Drawn.refl h0).next ((Below.refl _ _).alloc (Nat.le_refl _) (.cells #[] 5)))
  have HR0 := hideIt (rowB_new w)
  clear h0
  go_enter Tryz.func52, Tryz.ntmps52
  go_wp2_with fail
  refine (rdBelow_any rb n (m + 1) _ HD0.out.rd (by omega) (by omega)).mono ?_
  rintro e w1 ⟨⟨x, hx, rfl⟩, hd⟩
  have HD1 := hideIt (HD0.out.trans hd)
  have HR1 := hideIt (HR0.out.only hd.only hlr)
  clear hd
  go_wp2_with fail
  go_loopw [5, 6] (fun v i wr => ∃ (j : Nat) (o : List UInt8), i = .int .i64 j ∧ o.length + j ≤ m ∧ RowB w.heap.size wr v o ∧ Drawn rb n w wr) (fun _ i _ => (intOf i).toNat)
  case atStart => exact ⟨x, [], rfl, by simp; omega, HR1.out, HD1.out⟩
  case round =>
    obtain ⟨j, o, rfl, hj, hrow, hd⟩ := hrel
    obtain ⟨ao, co, eo⟩ := hrow.slice
    obtain ⟨q, hq⟩ : ∃ q, o.length = q := ⟨_, rfl⟩
    have HR := hideIt hrow
    have HD := hideIt hd
    have hz : w.heap.size ≤ wr.heap.size := hd.only.1
    rw [hq] at eo hj
    have HQ := hideIt hq
    subst eo
    clear hrow hd hq
    by_cases hlt : 0 < j
    · have hlt' : (0 : Int) < (j : Int) := by omega
      go_wp2_with fail
      refine (rdBelow_any rb n 256 _ HD.out.rd (by omega) (by omega)).mono ?_
      rintro e w2 ⟨⟨y, hy, rfl⟩, hd⟩
      have HD2 := hideIt (HD.out.trans hd)
      have HR2 := hideIt (HR.out.only hd.only hlr)
      have hz2 : w.heap.size ≤ w2.heap.size := (HD.out.trans hd).only.1
      clear hd
      have e1 : IntKind.u8.wrap (y : Int) = ((UInt8.ofNat y).toNat : Int) := by
        rw [u8_wrap (by omega) (by omega), UInt8.toNat_ofNat_of_lt' (show y < 256 from hy)]
      go_wp2_with (at_builtin; refine wpList_push rfl _ _ rfl w.heap.size o _ rfl HR2.out (UInt8.ofNat y) rfl (by rw [HQ.out]; omega) hz2 ?_)
      intro v' w3 hr3 hb3
      have HD3 := hideIt (HD2.out.grow hb3 hlr)
      clear hb3
      go_wp2_with fail
      refine ⟨⟨j - 1, _, by go_num, ?_, hr3, HD3.out⟩, by simp [intOf]; omega⟩
      rw [List.length_append, HQ.out]; simp; omega
    · obtain rfl : j = 0 := by omega
      have hc0 := HR.out.text HQ.out
      go_wp2_with fail
      go_ret
      exact ⟨⟨txt o, by rw [txt_size, HQ.out]; omega, rfl⟩, HD.out⟩

end Go.Proofs.YtokhindolimchaaGreat

/-
  Texts drawn and hurt.
-/
namespace Go.Proofs.YtokhindolimchaaGreat
open Go.RowKit
set_option linter.unusedSimpArgs false
set_option linter.unusedVariables false

theorem call_below (u v : Value) : ∀ w, (callFunc 25 #[u, v]).run Tryz.prog w = .ok (.enter 25 #[u, v]) w := fun w => by kernel_rfl

set_option maxRecDepth 100000 in
set_option maxHeartbeats 3200000 in
theorem rdHurt_any (rb n : Nat) (s : ByteArray) (hs : s.size ≤ 100000) (w : World) (h : ∃ p, RdAt w rb n p) :
    Calls Tryz.prog 26 #[.pointer (some ⟨rb, 0, none⟩), .string s] w fun e w' => (∃ t : ByteArray, t.size ≤ s.size + 60 ∧ e = .returned (.string t)) ∧ Drawn rb n w w' := by
  have H := hideIt h
  clear h
  go_enter Tryz.func26, Tryz.ntmps26
  go_wp2_with fail
  refine (rdBelow_any rb n 6 w H.out (by omega) (by omega)).mono ?_
  rintro e w1 ⟨⟨x, hx, rfl⟩, hd⟩
  have HD := hideIt hd
  clear hd
  by_cases hx1 : x = 1
  · subst hx1
    have HC := hideIt (rdBelow_any rb n (s.size + 1) w1 HD.out.rd (by omega) (by omega))
    have e1 : ((s.size + 1 : Nat) : Int) = (s.size : Int) + 1 := by omega
    rw [e1] at HC
    go_wp2_with fail
    refine HC.out.mono ?_
    rintro e w2 ⟨⟨y, hy, rfl⟩, hd⟩
    have HD2 := hideIt (HD.out.trans hd)
    have hy' : (y : Int) ≤ (s.size : Int) := by omega
    clear hd
    go_wp2_with fail
    go_ret
    exact ⟨⟨_, by simp only [ByteArray.size_extract]; omega, rfl⟩, HD2.out⟩
  have e1 : ((x : Int) == 1) = false := by simp; omega
  by_cases hx2 : x = 2
  · subst hx2
    by_cases hz : s.size = 0
    · have hz' : ¬ (0 : Int) < (s.size : Int) := by omega
      go_wp2_with fail
      go_ret
      exact ⟨⟨_, by omega, rfl⟩, HD.out⟩
    have hz' : (0 : Int) < (s.size : Int) := by omega
    go_wp2_with fail
    refine (rdBelow_any rb n s.size w1 HD.out.rd (by omega) (by omega)).mono ?_
    rintro e w2 ⟨⟨y, hy, rfl⟩, hd⟩
    have HD2 := hideIt (HD.out.trans hd)
    have hy' : (y : Int) < (s.size : Int) := by omega
    have hy1 : (y : Int) + 1 ≤ (s.size : Int) := by omega
    clear hd
    go_wp2_with fail
    rename_i Q1 K1 hK1 hpos K2 hK2
    have HDD : Hid (Drawn rb n w w2.drew) := HD2.out.next ((Below.refl _ _).drew)
    have hi1 : ((y + 1 : Nat) : Int) = (y : Int) + 1 := by omega
    refine wp_region_any (by kernel_rfl) ?_
    change wpAny _ _ _ _ _ _ _ (World.drew _)
    refine wpAny_take (i := 0) (v := .string s) rfl (by kernel_rfl) (by kernel_rfl) (by kernel_rfl) (fun _ _ _ h => h) (Or.inl ⟨by kernel_rfl, fun w => ?_⟩) ?_
    · go_simp
    refine wpAny_take (i := 1) (v := .int .i64 (y : Int)) rfl (by kernel_rfl) (by kernel_rfl) (by kernel_rfl) (fun _ _ _ h => h) (Or.inl ⟨by kernel_rfl, fun w => ?_⟩) ?_
    · go_simp
    refine wpAny_take (i := 2) (v := .string (s.extract 0 y)) rfl (by kernel_rfl) (by kernel_rfl) (by kernel_rfl) (fun _ _ _ h => h) (Or.inl ⟨by kernel_rfl, fun w => ?_⟩) ?_
    · go_simp <;> (intro hh; omega)
    refine wpAny_take (i := 4) (v := .pointer (some ⟨rb, 0, none⟩)) rfl (by kernel_rfl) (by kernel_rfl) (by kernel_rfl) (fun _ _ _ h => h) (Or.inl ⟨by kernel_rfl, fun w => ?_⟩) ?_
    · go_simp
    refine wpAny_take (i := 9) (v := .string s) rfl (by kernel_rfl) (by kernel_rfl) (by kernel_rfl) (fun _ _ _ h => h) (Or.inl ⟨by kernel_rfl, fun w => ?_⟩) ?_
    · go_simp
    refine wpAny_take (i := 10) (v := .int .i64 (y : Int)) rfl (by kernel_rfl) (by kernel_rfl) (by kernel_rfl) (fun _ _ _ h => h) (Or.inl ⟨by kernel_rfl, fun w => ?_⟩) ?_
    · go_simp
    refine wpAny_take (i := 11) (v := .int .i64 ((y : Int) + 1)) rfl (by kernel_rfl) (by kernel_rfl) (by kernel_rfl) (fun _ _ _ h => h) (Or.inl ⟨by kernel_rfl, fun w => ?_⟩) ?_
    · go_simp
      exact i64_wrap (by omega) (by omega)
    refine wpAny_take (i := 12) (v := .string (s.extract (y + 1) s.size)) rfl (by kernel_rfl) (by kernel_rfl) (by kernel_rfl) (fun _ _ _ h => h) (Or.inl ⟨by kernel_rfl, fun w => ?_⟩) ?_
    · go_simp <;> (intro hh; omega)
    have HFIN : Hid (∀ c : ByteArray, c.size ≤ 60 → (s.extract 0 y ++ c ++ s.extract (y + 1) s.size).size ≤ s.size + 60) := fun c hc => by simp only [ByteArray.size_append, ByteArray.size_extract]; omega
    have HTB : Hid (tabStr #[.string ⟨#[48]⟩, .string ⟨#[32]⟩, .string ⟨#[44]⟩, .string ⟨#[10]⟩, .string ⟨#[129]⟩, .string ⟨#[34]⟩, .string ⟨#[93]⟩, .string ⟨#[45]⟩] 8 = true) := by rfl
    refine wpAny_ready (rs := [3, 5]) (by kernel_rfl) (by simp) ?_
    refine AllReady.cons rfl (fun K hK => ?_) (AllReady.cons rfl (fun K hK => ?_) AllReady.nil)
    · go_simp
      refine hK _ _ ?_
      clear hK K
      refine wpAny_ready (rs := [5]) (by kernel_rfl) (by simp) ?_
      refine AllReady.cons rfl (fun K hK => ?_) AllReady.nil
      refine step_call2p (by kernel_rfl) 25 (.tmp 30) (.const (.int .i64 8)) 33 3 (by kernel_rfl) (.pointer (some ⟨rb, 0, none⟩)) (.int .i64 8) (by kernel_rfl) (by kernel_rfl) (call_below _ _) (rdTabS rb n 8 _ _ w2.drew HDD.out.rd (by omega) (by omega) HTB.out) ?_
      rintro e w3 ⟨⟨z, c, hz, rfl, hcs, hc⟩, hd3⟩
      have HD3 := hideIt (HDD.out.trans hd3)
      refine .inl ⟨_, rfl, ?_⟩
      refine hK _ _ ?_
      clear hK K hd3
      have hz' : (z : Int) < 8 := by omega
      obtain ⟨g, hg⟩ : ∃ g, w2.drew.heap.size = g := ⟨_, rfl⟩
      have hg2 : w2.heap.size = g := hg
      simp only [hg, hg2] at hc ⊢
      refine wpAny_take (i := 6) (v := .pointer (some ⟨g, z, none⟩)) rfl (by kernel_rfl) (by kernel_rfl) (by kernel_rfl) (fun _ _ _ h => h) (Or.inl ⟨by kernel_rfl, fun w => ?_⟩) ?_
      · go_simp <;> omega
      refine wpAny_ready (rs := [7]) (by kernel_rfl) (by simp) ?_
      refine AllReady.cons rfl (fun K hK => ?_) AllReady.nil
      go_simp
      refine hK _ _ ?_
      clear hK K
      refine wpAny_take (i := 8) (v := .string (s.extract 0 y ++ c)) rfl (by kernel_rfl) (by kernel_rfl) (by kernel_rfl) (fun _ _ _ h => h) (Or.inl ⟨by kernel_rfl, fun w => ?_⟩) ?_
      · go_simp <;> omega
      refine wpAny_take (i := 13) (v := .string (s.extract 0 y ++ c ++ s.extract (y + 1) s.size)) rfl (by kernel_rfl) (by kernel_rfl) (by kernel_rfl) (fun _ _ _ h => h) (Or.inl ⟨by kernel_rfl, fun w => ?_⟩) ?_
      · go_simp <;> omega
      refine wpAny_take (i := 14) (v := .string (s.extract 0 y ++ c ++ s.extract (y + 1) s.size)) rfl (by kernel_rfl) (by kernel_rfl) (by kernel_rfl) (fun _ _ _ h => h) (Or.inl ⟨by kernel_rfl, fun w => ?_⟩) ?_
      · go_simp
      refine wpAny_done (by kernel_rfl) ?_ _
      change K2 _ _
      refine hK2 _ _ ?_
      refine wp_ret ?_
      show Q1 .ret _ _
      refine bodyPost_ret (v := .string (s.extract 0 y ++ c ++ s.extract (y + 1) s.size)) (by kernel_rfl) (by kernel_rfl) ?_
      exact ⟨⟨_, HFIN.out c hcs, rfl⟩, HD3.out⟩
    · refine step_call2p (by kernel_rfl) 25 (.tmp 30) (.const (.int .i64 8)) 33 3 (by kernel_rfl) (.pointer (some ⟨rb, 0, none⟩)) (.int .i64 8) (by kernel_rfl) (by kernel_rfl) (call_below _ _) (rdBelow_any rb n 8 _ HDD.out.rd (by omega) (by omega)) ?_
      rintro e w4 ⟨⟨z, hz, rfl⟩, hd4⟩
      have HD4 := hideIt (HDD.out.trans hd4)
      refine .inl ⟨_, rfl, ?_⟩
      refine hK _ _ ?_
      clear hK K hd4
      have hz' : (z : Int) < 8 := by omega
      refine wpAny_ready (rs := [3]) (by kernel_rfl) (by simp) ?_
      refine AllReady.cons rfl (fun K hK => ?_) AllReady.nil
      go_simp
      refine hK _ _ ?_
      clear hK K
      obtain ⟨c, hc1, hcs⟩ := tabStr_at HTB.out hz
      have hc := cell_tab (w := w4) (T := 9) hc1
      obtain ⟨g, hg⟩ : ∃ g, w4.heap.size = g := ⟨_, rfl⟩
      have HD3 := hideIt (HD4.out.next ((Below.refl _ _).alloc (Nat.le_refl _) (.cells #[.string ⟨#[48]⟩, .string ⟨#[32]⟩, .string ⟨#[44]⟩, .string ⟨#[10]⟩, .string ⟨#[129]⟩, .string ⟨#[34]⟩, .string ⟨#[93]⟩, .string ⟨#[45]⟩] 9)))
      obtain ⟨w3, hw3⟩ : ∃ w3, w4.alloc (.cells #[.string ⟨#[48]⟩, .string ⟨#[32]⟩, .string ⟨#[44]⟩, .string ⟨#[10]⟩, .string ⟨#[129]⟩, .string ⟨#[34]⟩, .string ⟨#[93]⟩, .string ⟨#[45]⟩] 9) = w3 := ⟨_, rfl⟩
      simp only [hg, hw3] at hc HD3 ⊢
      clear hc1
      refine wpAny_take (i := 6) (v := .pointer (some ⟨g, z, none⟩)) rfl (by kernel_rfl) (by kernel_rfl) (by kernel_rfl) (fun _ _ _ h => h) (Or.inl ⟨by kernel_rfl, fun w => ?_⟩) ?_
      · go_simp <;> omega
      refine wpAny_ready (rs := [7]) (by kernel_rfl) (by simp) ?_
      refine AllReady.cons rfl (fun K hK => ?_) AllReady.nil
      go_simp
      refine hK _ _ ?_
      clear hK K
      refine wpAny_take (i := 8) (v := .string (s.extract 0 y ++ c)) rfl (by kernel_rfl) (by kernel_rfl) (by kernel_rfl) (fun _ _ _ h => h) (Or.inl ⟨by kernel_rfl, fun w => ?_⟩) ?_
      · go_simp <;> omega
      refine wpAny_take (i := 13) (v := .string (s.extract 0 y ++ c ++ s.extract (y + 1) s.size)) rfl (by kernel_rfl) (by kernel_rfl) (by kernel_rfl) (fun _ _ _ h => h) (Or.inl ⟨by kernel_rfl, fun w => ?_⟩) ?_
      · go_simp <;> omega
      refine wpAny_take (i := 14) (v := .string (s.extract 0 y ++ c ++ s.extract (y + 1) s.size)) rfl (by kernel_rfl) (by kernel_rfl) (by kernel_rfl) (fun _ _ _ h => h) (Or.inl ⟨by kernel_rfl, fun w => ?_⟩) ?_
      · go_simp
      refine wpAny_done (by kernel_rfl) ?_ _
      change K2 _ _
      refine hK2 _ _ ?_
      refine wp_ret ?_
      show Q1 .ret _ _
      refine bodyPost_ret (v := .string (s.extract 0 y ++ c ++ s.extract (y + 1) s.size)) (by kernel_rfl) (by kernel_rfl) ?_
      exact ⟨⟨_, HFIN.out c hcs, rfl⟩, HD3.out⟩
  have e2 : ((x : Int) == 2) = false := by simp; omega
  by_cases hx3 : x = 3
  · subst hx3
    go_wp2_with fail
    refine (rdBytes_any rb n 2 w1 HD.out.rd (by omega)).mono ?_
    rintro e w2 ⟨⟨t, ht, rfl⟩, hd⟩
    have HD2 := hideIt (HD.out.trans hd)
    clear hd
    go_wp2_with fail
    go_ret
    exact ⟨⟨s ++ t, by simp [ByteArray.size_append]; omega, rfl⟩, HD2.out⟩
  have e3 : ((x : Int) == 3) = false := by simp; omega
  go_wp2_with fail
  go_ret
  exact ⟨⟨_, by omega, rfl⟩, HD.out⟩
end Go.Proofs.YtokhindolimchaaGreat

/-
  What DrawReadCbor draws.
-/
namespace Go.Proofs.YtokhindolimchaaGreat
open Go.RowKit
set_option linter.unusedSimpArgs false
set_option linter.unusedVariables false

theorem cborV_size (vs : List VN) : (txt (cborV vs)).size ≤ 16000 := by
  rw [txt_size]
  unfold cborV
  split
  · rename_i hok
    obtain ⟨p1, _⟩ := okB_parts hok
    exact cborT_16k hok (by omega) (by omega)
  · exact Nat.zero_le _
set_option maxRecDepth 100000 in
set_option maxHeartbeats 3200000 in
theorem drawReadCbor_any (B : Nat) (v : Value) (n : Nat) (w : World) (h : CodeAt B w v n) (hB : B ≤ w.heap.size) :
    Calls Tryz.prog 7 #[v] w fun e w' => ∃ s : ByteArray, s.size ≤ 20000 ∧ e = .returned (.string s) ∧ Below w.heap.size w w' := by
  have H := hideIt h
  obtain ⟨_, a, cap, rfl, _⟩ := h
  go_enter Tryz.func7, Tryz.ntmps7
  go_wp2_with fail
  refine (l1Open_any B _ n w H.out hB).mono ?_
  rintro e w1 ⟨rfl, hr, hb⟩
  have HR := hideIt hr
  have HB := hideIt hb
  have z1 := hb.size
  clear hr hb
  go_wp2_with fail
  refine (rdValue_any w.heap.size n 3 (by omega) w1 ⟨0, HR.out⟩).mono ?_
  rintro e w2 ⟨⟨r, vs, KV, IV, rfl, hf, hn⟩, hd⟩
  have HD := hideIt hd
  have HND := hideIt (hn.nodes (by have := hf.2.1; have : capD 3 ≤ 80 := (by decide); omega) (hf.few (by decide)).2)
  have HSZ := hideIt (cborV_size vs)
  have HCT := hideIt (specCbor_any w2.heap.size _ vs w2 HND.out (Nat.le_refl _))
  obtain ⟨T, hT⟩ : ∃ T, txt (cborV vs) = T := ⟨_, rfl⟩
  rw [hT] at HSZ HCT
  obtain ⟨ar, cr, er⟩ := own_slice hn.row
  obtain ⟨M, hM⟩ : ∃ M, vs.length = M := ⟨_, rfl⟩
  rw [hM] at er
  subst er
  clear hf hn hd hM hT HND
  go_wp2_with fail
  refine HCT.out.mono ?_
  rintro e w3 ⟨rfl, hb3⟩
  have HD3 := hideIt (HD.out.next hb3)
  clear hb3
  have hsz := HSZ.out
  go_wp2_with fail
  refine (rdOnce_any w.heap.size n 8 w3 HD3.out.rd (by omega) (by omega)).mono ?_
  rintro e w4 ⟨⟨b, rfl⟩, hd⟩
  have HD4 := hideIt (HD3.out.trans hd)
  clear hd
  cases b
  · go_wp2_with fail
    refine (rdHurt_any w.heap.size n T (by omega) w4 HD4.out.rd).mono ?_
    rintro e w5 ⟨⟨t, ht, rfl⟩, hd⟩
    have HD5 := hideIt (HD4.out.trans hd)
    clear hd
    go_wp2_with fail
    go_ret
    exact ⟨t, by omega, rfl, HB.out.trans HD5.out.below⟩
  · go_wp2_with fail
    refine (rdTabS w.heap.size n 14 _ _ w4 HD4.out.rd (by omega) (by omega) (by rfl)).mono ?_
    rintro e w5 ⟨⟨y, s, hy, rfl, hs, hc⟩, hd⟩
    have hy' : (y : Int) < 14 := by omega
    have HD5 := hideIt (HD4.out.trans hd)
    clear hd
    go_wp2_with fail
    go_ret
    exact ⟨s, by omega, rfl, HB.out.trans HD5.out.below⟩
end Go.Proofs.YtokhindolimchaaGreat
