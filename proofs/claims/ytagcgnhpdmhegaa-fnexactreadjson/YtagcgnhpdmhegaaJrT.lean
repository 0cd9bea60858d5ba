/-
  The program's signReader: its place in memory, the next sign, blanks.
-/
import Derived.Test.YtagcgnhpdmhegaaBrM
import Derived.Test.YtagcgnhpdmhegaaJrP
import Derived.Test.YtagcgnhpdmhegaaRd4
namespace Go.Proofs.Ytagcgnhpdmhegaa
open Go.RowKit
set_option linter.unusedSimpArgs false
set_option linter.unusedVariables false

/-- A reader of signs with the blanks of JSON. -/
structure SrAt (w : World) (rb : Nat) (s : ByteArray) (p : Nat) : Prop where
  br : BrAt w rb s p
  bl : w.cell? ⟨rb, 2, none⟩ = some (.string ⟨#[9, 10, 13, 32]⟩)
theorem SrAt.keep {w w' : World} {rb p : Nat} {s : ByteArray} (h : SrAt w rb s p) (hb : w'.heap[rb]? = w.heap[rb]?) (hz : w.heap.size ≤ w'.heap.size) : SrAt w' rb s p := ⟨h.br.keep hb hz, (cellOf hb).trans h.bl⟩
theorem SrAt.below {w w' : World} {rb p : Nat} {s : ByteArray} (h : SrAt w rb s p) (hb : Below w.heap.size w w') : SrAt w' rb s p := h.keep (hb.block rb h.br.lt) hb.size
theorem SrAt.to {w : World} {rb p q : Nat} {s : ByteArray} (h : SrAt w rb s p) (hq : q ≤ s.size) : SrAt (w.setCell ⟨rb, 1, none⟩ (.int .i64 (q : Int))) rb s q :=
  ⟨⟨by simpa using h.br.lt, by rw [World.cell?_setCell_other (h := by simp)]; exact h.br.src, World.cell?_setCell_same _ _ _ h.br.place, by rw [World.frozen?_setCell]; exact h.br.free, hq⟩, by rw [World.cell?_setCell_other (h := by simp)]; exact h.bl⟩
/-- Another reading of the reader's own memory. -/
theorem SrAt.of {w w' : World} {rb p q : Nat} {s : ByteArray} (h : SrAt w rb s p) (hb : BrAt w' rb s q) (hc : w'.cell? ⟨rb, 2, none⟩ = w.cell? ⟨rb, 2, none⟩) : SrAt w' rb s q := ⟨hb, hc.trans h.bl⟩
def placeOf (w : World) (rb : Nat) : Nat := match w.cell? ⟨rb, 1, none⟩ with
  | some v => (intOf v).toNat
  | none => 0
theorem SrAt.placeOf {w : World} {rb p : Nat} {s : ByteArray} (h : SrAt w rb s p) : placeOf w rb = p := by unfold Go.Proofs.Ytagcgnhpdmhegaa.placeOf; rw [h.br.place]; simp [intOf]
theorem ix_blank0 : ∀ n : Fin 256, (blankC n.val = true ∧ ∃ i : Fin 4, Go.Lib.indexByte [9, 10, 13, 32] (UInt8.ofNat n.val) = (i.val : Int)) ∨ (blankC n.val = false ∧ Go.Lib.indexByte [9, 10, 13, 32] (UInt8.ofNat n.val) = -1) := by decide +kernel
theorem ix_blank (c : UInt8) : (blankC c.toNat = true ∧ ∃ i : Nat, Go.Lib.indexByte [9, 10, 13, 32] c = (i : Int)) ∨ (blankC c.toNat = false ∧ Go.Lib.indexByte [9, 10, 13, 32] c = -1) := by
  have h := ix_blank0 ⟨c.toNat, c.toNat_lt⟩
  have e : UInt8.ofNat c.toNat = c := by simp
  simp only [e] at h
  rcases h with ⟨h1, i, h2⟩ | h
  · exact .inl ⟨h1, i.val, h2⟩
  · exact .inr h
theorem byS {s : ByteArray} {p : Nat} (h : p < s.size) : s[p].toNat = byAt s.data.toList p := (getB h).symm

set_option maxRecDepth 100000 in
set_option maxHeartbeats 1600000 in
theorem peek_any {rb p : Nat} {s : ByteArray} {w : World} (h : BrAt w rb s p) (hs : s.size ≤ 1048576) :
    Calls Try.prog 53 #[.pointer (some ⟨rb, 0, none⟩)] w fun e w' => e = .returned (.int .u8 (byAt s.data.toList p : Int)) ∧ Below w.heap.size w w' := by
  have H := hideB h
  have h1 := h.src
  have h2 := h.place
  have h4 := h.lt
  have h5 := h.le
  clear h
  by_cases hp : p < s.size
  · have hne : ((p : Int) == (s.size : Int)) = false := by simp; omega
    have HB := hideB (byS hp)
    go_enter Try.func53, Try.ntmps53
    go_wp2_with fail
    go_quiet (fail)
    have HD1 := hideB (below_drewB (w := w) nq)
    have HR1 := hideB (H.out.below HD1.out)
    have k1 := HR1.out.src
    have k2 := HR1.out.place
    generalize w.drewN nq = W1 at HR1 HD1 k1 k2 ⊢
    clear nq h1 h2
    go_wp2_with fail
    go_quiet (fail)
    have HD2 := hideB (below_drewB (w := W1) nq)
    go_wp2_with fail
    go_ret
    exact ⟨by rw [HB.out]; rfl, HD1.out.trans (HD2.out.mono HD1.out.size)⟩
  · obtain rfl : p = s.size := by omega
    have HB : Hid (byAt s.data.toList s.size = 0) := byAt_past (by rw [len_is]; omega)
    go_enter Try.func53, Try.ntmps53
    go_wp2_with fail
    go_quiet (fail)
    go_wp2_with fail
    go_ret
    exact ⟨by rw [HB.out]; rfl, below_drewB nq⟩

set_option maxRecDepth 100000 in
set_option maxHeartbeats 3200000 in
theorem skip_any {rb p : Nat} {s : ByteArray} {w : World} (h : SrAt w rb s p) (hs : s.size ≤ 1048576) :
    Calls Try.prog 45 #[.pointer (some ⟨rb, 0, none⟩)] w fun e w' => e = .returned (.tuple #[]) ∧ SrAt w' rb s (skipJ s.data.toList p) ∧ But rb w w' := by
  have H := hideB h
  clear h
  go_enter Try.func45, Try.ntmps45
  go_wp2_with fail
  go_loopw [] (fun wr => ∃ q, SrAt wr rb s q ∧ skipJ s.data.toList q = skipJ s.data.toList p ∧ But rb w wr) (fun wr => s.size - placeOf wr rb)
  case atStart => exact ⟨p, H.out, rfl, But.refl _ _⟩
  case round =>
    obtain ⟨q, hsr, hsk, hbt⟩ := hrel
    have HS := hideB hsr
    have HK := hideB hsk
    have HBT := hideB hbt
    have h1 := hsr.br.src
    have h2 := hsr.br.place
    have h3 := hsr.br.free
    have h4 := hsr.br.lt
    have h5 := hsr.br.le
    have h6 := hsr.bl
    clear hsr hsk hbt
    by_cases hq : q < s.size
    · have hq' : (q : Int) < (s.size : Int) := by omega
      have HB := hideB (byS hq)
      rcases ix_blank s[q] with ⟨hb, i, hi⟩ | ⟨hb, hi⟩
      · have HIX : Hid (∀ w, Calls Try.prog 52 #[.string ⟨#[9, 10, 13, 32]⟩, .int .u8 (s[q].toNat : Int)] w fun e w' => e = .returned (.int .i64 (i : Int)) ∧ w' = w) := fun w => by
          have := indexByte_any ⟨#[9, 10, 13, 32]⟩ s[q] w
          rw [show (⟨#[9, 10, 13, 32]⟩ : ByteArray).data.toList = [9, 10, 13, 32] from rfl, hi] at this
          exact this
        have HNX : Hid (skipJ s.data.toList q = skipJ s.data.toList (q + 1)) := runJ_yes (by rw [len_is]; exact hq) (by rw [← HB.out]; exact hb)
        clear hi hb
        go_wp2_with fail
        go_quiet ((go_at_call 52; exact Calls.quiet_of_same (HIX.out _)))
        have HD := hideB (below_drewB (w := wr) nq)
        have HR := hideB (HS.out.below HD.out)
        have k1 := HR.out.br.src
        have k2 := HR.out.br.place
        have k3 := HR.out.br.free
        generalize wr.drewN nq = W1 at HR HD k1 k2 k3 ⊢
        clear nq h1 h2 h3 h6
        go_wp2_with fail
        go_roundw
        case rel =>
          have e : ((q : Int) + 1) = ((q + 1 : Nat) : Int) := by omega
          refine ⟨q + 1, ?_, by rw [← HNX.out]; exact HK.out, (HBT.out.trans (But.of_below HD.out)).trans (But.of_set _ _)⟩
          rw [e]
          exact HR.out.to hq
        case measure =>
          have e : ((q : Int) + 1) = ((q + 1 : Nat) : Int) := by omega
          rw [HS.out.placeOf, e, (HR.out.to hq).placeOf]
          omega
      · have HIX : Hid (∀ w, Calls Try.prog 52 #[.string ⟨#[9, 10, 13, 32]⟩, .int .u8 (s[q].toNat : Int)] w fun e w' => e = .returned (.int .i64 (-1)) ∧ w' = w) := fun w => by
          have := indexByte_any ⟨#[9, 10, 13, 32]⟩ s[q] w
          rw [show (⟨#[9, 10, 13, 32]⟩ : ByteArray).data.toList = [9, 10, 13, 32] from rfl, hi] at this
          exact this
        have HNX : Hid (skipJ s.data.toList q = q) := runJ_no (fun e => by rw [← HB.out, hb] at e; cases e.2)
        clear hi hb
        go_wp2_with fail
        go_quiet ((go_at_call 52; exact Calls.quiet_of_same (HIX.out _)))
        have HD := hideB (below_drewB (w := wr) nq)
        go_wp2_with fail
        go_end0
        exact ⟨rfl, by rw [← HK.out, HNX.out]; exact HS.out.below HD.out, HBT.out.trans (But.of_below HD.out)⟩
    · obtain rfl : q = s.size := by omega
      have HNX : Hid (skipJ s.data.toList s.size = s.size) := runJ_past (by rw [len_is]; omega)
      go_wp2_with fail
      go_quiet (fail)
      have HD := hideB (below_drewB (w := wr) nq)
      go_wp2_with fail
      go_end0
      exact ⟨rfl, by rw [← HK.out, HNX.out]; exact HS.out.below HD.out, HBT.out.trans (But.of_below HD.out)⟩
set_option maxRecDepth 100000 in
set_option maxHeartbeats 1600000 in
theorem nextS_yes {rb p : Nat} {s : ByteArray} {w : World} (h : SrAt w rb s p) (hp : p < s.size) (hs : s.size ≤ 1048576) :
    Calls Try.prog 64 #[.pointer (some ⟨rb, 0, none⟩)] w fun e w' => e = .returned (.int .u8 (s[p].toNat : Int)) ∧ SrAt w' rb s (p + 1) ∧ But rb w w' := by
  have H := hideB h
  have h1 := h.br.src
  have h2 := h.br.place
  have h3 := h.br.free
  have h4 := h.br.lt
  clear h
  have hne : ((p : Int) == (s.size : Int)) = false := by simp; omega
  go_enter Try.func64, Try.ntmps64
  go_wp2_with fail
  go_quiet (fail)
  have HD1 := hideB (below_drewB (w := w) nq)
  have HR1 := hideB (H.out.below HD1.out)
  have k1 := HR1.out.br.src
  have k2 := HR1.out.br.place
  have k3 := HR1.out.br.free
  generalize w.drewN nq = W1 at HR1 HD1 k1 k2 k3 ⊢
  clear nq h1 h2 h3
  go_wp2_with fail
  go_quiet (fail)
  have HD2 := hideB (below_drewB (w := W1) nq)
  have HR2 := hideB (HR1.out.below HD2.out)
  have l1 := HR2.out.br.src
  have l2 := HR2.out.br.place
  have l3 := HR2.out.br.free
  generalize W1.drewN nq = W2 at HR2 HD2 l1 l2 l3 ⊢
  clear nq k1 k2 k3
  go_wp2_with fail
  go_ret
  refine ⟨rfl, HR2.out.to hp, ?_⟩
  exact ((But.of_below HD1.out).trans (But.of_below HD2.out)).trans (But.of_set _ _)

end Go.Proofs.Ytagcgnhpdmhegaa

/-
  The program's signReader: signs that must stand, escapes.
-/
namespace Go.Proofs.Ytagcgnhpdmhegaa
open Go.RowKit
set_option linter.unusedSimpArgs false
set_option linter.unusedVariables false

theorem But.cell2 {rb b : Nat} {w w' : World} (h : But rb w w') (hb : b < w.heap.size) (hne : b ≠ rb) : w'.heap[b]? = w.heap[b]? := h.block b hb hne

set_option maxRecDepth 100000 in
set_option maxHeartbeats 1600000 in
theorem took_yes {rb p c : Nat} {s : ByteArray} {w : World} (h : SrAt w rb s p) (hs : s.size ≤ 1048576) (hc : isAt s.data.toList p c = true) :
    Calls Try.prog 69 #[.pointer (some ⟨rb, 0, none⟩), .int .u8 (c : Int)] w fun e w' => e = .returned (.bool true) ∧ SrAt w' rb s (skipJ s.data.toList (p + 1)) ∧ But rb w w' := by
  have H := hideB h
  obtain ⟨hp, hb⟩ := isAt_yes.1 hc
  rw [len_is] at hp
  have HP := hideB (peek_any h.br hs)
  rw [hb] at HP
  have hne : ((c : Int) != (c : Int)) = false := by simp
  clear h hc hb
  go_enter Try.func69, Try.ntmps69
  go_wp2_with fail
  refine HP.out.mono ?_
  rintro e w1 ⟨rfl, hb1⟩
  have HB1 := hideB hb1
  have HR := hideB (H.out.below hb1)
  have k2 := HR.out.br.place
  have k3 := HR.out.br.free
  have k4 := HR.out.br.lt
  have e1 : ((p : Int) + 1) = ((p + 1 : Nat) : Int) := by omega
  obtain ⟨W2, hW2⟩ : ∃ W2, w1.setCell ⟨rb, 1, none⟩ (.int .i64 ((p : Int) + 1)) = W2 := ⟨_, rfl⟩
  have HR2 : Hid (SrAt W2 rb s (p + 1)) := by rw [Hid, ← hW2, e1]; exact HR.out.to (by omega)
  have HB2 : Hid (But rb w W2) := (But.of_below HB1.out).trans (by rw [← hW2]; exact But.of_set _ _)
  have HSK := hideB (skip_any HR2.out hs)
  clear hb1 e1
  go_wp2_with fail
  refine HSK.out.mono ?_
  rintro e w3 ⟨rfl, hr3, hb3⟩
  have HR3 := hideB hr3
  have HB3 := hideB (HB2.out.trans hb3)
  clear hr3 hb3
  go_wp2_with fail
  go_ret
  exact ⟨rfl, HR3.out, HB3.out⟩

set_option maxRecDepth 100000 in
set_option maxHeartbeats 1600000 in
theorem took_no {rb p c : Nat} {s : ByteArray} {w : World} (h : SrAt w rb s p) (hs : s.size ≤ 1048576) (hc0 : 0 < c) (hc : isAt s.data.toList p c = false) :
    Calls Try.prog 69 #[.pointer (some ⟨rb, 0, none⟩), .int .u8 (c : Int)] w fun e w' => e = .returned (.bool false) ∧ SrAt w' rb s p ∧ But rb w w' := by
  have H := hideB h
  have hb : byAt s.data.toList p ≠ c := fun e => by
    by_cases hp : p < s.data.toList.length
    · exact isAt_no.1 hc ⟨hp, e⟩
    · rw [byAt_past (by omega)] at e; omega
  have HP := hideB (peek_any h.br hs)
  obtain ⟨b, hbb⟩ : ∃ b, byAt s.data.toList p = b := ⟨_, rfl⟩
  rw [hbb] at hb HP
  have hne : ((b : Int) != (c : Int)) = true := by simp; omega
  have hne2 : ¬ (b : Int) = (c : Int) := by omega
  clear h hc hbb
  go_enter Try.func69, Try.ntmps69
  go_wp2_with fail
  refine HP.out.mono ?_
  rintro e w1 ⟨rfl, hb1⟩
  have HB1 := hideB hb1
  clear hb1
  go_wp2_with fail
  go_ret
  exact ⟨rfl, H.out.below HB1.out, But.of_below HB1.out⟩

set_option maxRecDepth 100000 in
set_option maxHeartbeats 1600000 in
theorem must_yes {rb p c : Nat} {s : ByteArray} {w : World} (h : SrAt w rb s p) (hs : s.size ≤ 1048576) (hc : isAt s.data.toList p c = true) :
    Calls Try.prog 68 #[.pointer (some ⟨rb, 0, none⟩), .int .u8 (c : Int)] w fun e w' => e = .returned (.tuple #[]) ∧ SrAt w' rb s (skipJ s.data.toList (p + 1)) ∧ But rb w w' := by
  have HT := hideB (took_yes h hs hc)
  clear h hc
  go_enter Try.func68, Try.ntmps68
  go_wp2_with fail
  refine HT.out.mono ?_
  rintro e w1 ⟨rfl, h1, h2⟩
  have H1 := hideB h1
  have H2 := hideB h2
  clear h1 h2
  go_wp2_with fail
  go_end0
  exact ⟨rfl, H1.out, H2.out⟩

set_option maxRecDepth 100000 in
set_option maxHeartbeats 1600000 in
theorem must_no {rb p c : Nat} {s : ByteArray} {w : World} (h : SrAt w rb s p) (hs : s.size ≤ 1048576) (hc0 : 0 < c) (hc : isAt s.data.toList p c = false) :
    Calls Try.prog 68 #[.pointer (some ⟨rb, 0, none⟩), .int .u8 (c : Int)] w fun e w' => e = gup ∧ But rb w w' := by
  have HT := hideB (took_no h hs hc0 hc)
  clear h hc
  go_enter Try.func68, Try.ntmps68
  go_wp2_with fail
  refine HT.out.mono ?_
  rintro e w1 ⟨rfl, h1, h2⟩
  have H2 := hideB h2
  clear h1 h2
  go_wp2_with fail
  exact ⟨rfl, rfl, H2.out⟩

theorem hex_ix0 : ∀ n : Fin 256, Go.Lib.indexByte [48, 49, 50, 51, 52, 53, 54, 55, 56, 57, 97, 98, 99, 100, 101, 102] (UInt8.ofNat (if 65 ≤ n.val ∧ n.val ≤ 70 then n.val + 32 else n.val)) = (match hexC n.val with | some d => (d : Int) | none => -1) := by decide +kernel
def hexSj : ByteArray := ⟨#[48, 49, 50, 51, 52, 53, 54, 55, 56, 57, 97, 98, 99, 100, 101, 102]⟩

set_option maxRecDepth 100000 in
set_option maxHeartbeats 1600000 in
theorem hexValue_any (c : Nat) (hc : c < 256) (w : World) :
    Calls Try.prog 78 #[.int .u8 (c : Int)] w fun e w' => w' = w ∧ ((∃ d : Nat, hexC c = some d ∧ e = .returned (.int .i64 (d : Int))) ∨ (hexC c = none ∧ e = gup)) := by
  have HX := hideB (hex_ix0 ⟨c, hc⟩)
  obtain ⟨b, hb⟩ : ∃ b, (if 65 ≤ c ∧ c ≤ 70 then c + 32 else c) = b := ⟨_, rfl⟩
  have hb256 : b < 256 := by rw [← hb]; split <;> omega
  have HBI : Hid (∀ w, Calls Try.prog 52 #[.string ⟨#[48, 49, 50, 51, 52, 53, 54, 55, 56, 57, 97, 98, 99, 100, 101, 102]⟩, .int .u8 (b : Int)] w fun e w' => e = .returned (.int .i64 (Go.Lib.indexByte [48, 49, 50, 51, 52, 53, 54, 55, 56, 57, 97, 98, 99, 100, 101, 102] (UInt8.ofNat b))) ∧ w' = w) := fun w => by
    have := indexByte_any ⟨#[48, 49, 50, 51, 52, 53, 54, 55, 56, 57, 97, 98, 99, 100, 101, 102]⟩ (UInt8.ofNat b) w
    rw [UInt8.toNat_ofNat', Nat.mod_eq_of_lt (by omega)] at this
    exact this
  cases hh : hexC c with
  | some d =>
    have h1 := HX.out
    simp only [hh] at h1
    rw [hb] at h1
    rw [h1] at HBI
    have hd : ¬ (d : Int) < 0 := by have := Int.natCast_nonneg d; omega
    clear h1 HX
    by_cases hu : 65 ≤ c ∧ c ≤ 70
    · obtain ⟨u1, u2⟩ := hu
      rw [if_pos ⟨u1, u2⟩] at hb
      have q1 : (65 : Int) ≤ (c : Int) := by omega
      have q2 : (c : Int) ≤ 70 := by omega
      have q3 : IntKind.u8.wrap ((c : Int) + 32) = (b : Int) := by rw [u8_wrap (by omega) (by omega)]; omega
      clear hb
      go_enter Try.func78, Try.ntmps78
      go_wp2_with (go_at_call 52; refine (HBI.out _).mono ?_; rintro e w1 ⟨rfl, rfl⟩)
      go_ret
      exact ⟨rfl, .inl ⟨d, rfl, rfl⟩⟩
    · rw [if_neg hu] at hb
      subst hb
      by_cases q1 : (65 : Int) ≤ (c : Int)
      · have q2 : ¬ (c : Int) ≤ 70 := by omega
        go_enter Try.func78, Try.ntmps78
        go_wp2_with (go_at_call 52; refine (HBI.out _).mono ?_; rintro e w1 ⟨rfl, rfl⟩)
        go_ret
        exact ⟨rfl, .inl ⟨d, rfl, rfl⟩⟩
      · go_enter Try.func78, Try.ntmps78
        go_wp2_with (go_at_call 52; refine (HBI.out _).mono ?_; rintro e w1 ⟨rfl, rfl⟩)
        go_ret
        exact ⟨rfl, .inl ⟨d, rfl, rfl⟩⟩
  | none =>
    have h1 := HX.out
    simp only [hh] at h1
    rw [hb] at h1
    rw [h1] at HBI
    have hu : ¬ (65 ≤ c ∧ c ≤ 70) := fun hu => by unfold hexC at hh; rw [if_neg (by omega), if_neg (by omega), if_pos hu] at hh; cases hh
    clear h1 HX
    rw [if_neg hu] at hb
    subst hb
    by_cases q1 : (65 : Int) ≤ (c : Int)
    · have q2 : ¬ (c : Int) ≤ 70 := by omega
      go_enter Try.func78, Try.ntmps78
      go_wp2_with (go_at_call 52; refine (HBI.out _).mono ?_; rintro e w1 ⟨rfl, rfl⟩)
      exact ⟨rfl, rfl, .inr ⟨by first | rfl | trivial, rfl⟩⟩
    · go_enter Try.func78, Try.ntmps78
      go_wp2_with (go_at_call 52; refine (HBI.out _).mono ?_; rintro e w1 ⟨rfl, rfl⟩)
      exact ⟨rfl, rfl, .inr ⟨by first | rfl | trivial, rfl⟩⟩

set_option maxRecDepth 100000 in
set_option maxHeartbeats 3200000 in
theorem readCode_any {rb p : Nat} {s : ByteArray} {w : World} (h : SrAt w rb s p) (hs : s.size ≤ 1048576) :
    Calls Try.prog 74 #[.pointer (some ⟨rb, 0, none⟩)] w fun e w' => ((∃ b q, codeJ s.data.toList p = some (b, q) ∧ e = .returned (.int .u8 (b : Int)) ∧ SrAt w' rb s q) ∨ (codeJ s.data.toList p = none ∧ e = gup)) ∧ But rb w w' := by
  have H := hideB h
  have hps := h.br.le
  have hln := len_is s
  have HLN := hideB hln
  clear hln
  clear h
  go_enter Try.func74, Try.ntmps74
  go_wp2_with fail
  go_loopw [3, 4] (fun n i wr => ∃ (k v : Nat), k ≤ 4 ∧ i = .int .i64 (k : Int) ∧ n = .int .i64 (v : Int) ∧ Hid (hexF s.data.toList p k = some v) ∧ p + k ≤ s.size ∧ SrAt wr rb s (p + k) ∧ But rb w wr) (fun _ i _ => 4 - (intOf i).toNat)
  case atStart => exact ⟨0, 0, by omega, rfl, rfl, rfl, by omega, H.out, But.refl _ _⟩
  case round =>
    obtain ⟨k, v, hk, rfl, rfl, HV, hpk, hsr, hbt⟩ := hrel
    have HS := hideB hsr
    have HBT := hideB hbt
    have hv : v < 65536 := by
      have h1 := hexF_lt _ _ HV.out
      have h2 : 16 ^ k ≤ 16 ^ 4 := Nat.pow_le_pow_right (by omega) hk
      omega
    clear hsr hbt
    by_cases hlt : k < 4
    · have hlt' : (k : Int) < 4 := by omega
      by_cases hq : p + k < s.size
      · have HNX := hideB (nextS_yes HS.out hq hs)
        have hb : s[p + k].toNat = byAt s.data.toList (p + k) := byS hq
        rw [hb] at HNX
        have hb256 := byAt_lt s.data.toList (p + k)
        obtain ⟨c, hc⟩ : ∃ c, byAt s.data.toList (p + k) = c := ⟨_, rfl⟩
        have HC := hideB hc
        rw [hc] at HNX hb256
        clear hb hc
        go_wp2_with fail
        refine HNX.out.mono ?_
        rintro e w1 ⟨rfl, hr1, hb1⟩
        have HR1 := hideB hr1
        have HB1 := hideB hb1
        clear hr1 hb1
        go_wp2_with fail
        refine (hexValue_any c hb256 w1).mono ?_
        rintro e w2 ⟨rfl, ⟨d, hd, rfl⟩ | ⟨hd, rfl⟩⟩
        · have hd16 := hexC_lt hd
          have HD := hideB hd
          clear hd
          go_wp2_with fail
          go_roundw
          case rel => exact ⟨k + 1, 16 * v + d, by omega, by go_num, by go_num, hexF_step HV.out (by rw [HC.out]; exact HD.out), by omega, HR1.out, HBT.out.trans HB1.out⟩
          case measure => simp [intOf]; omega
        · have HD := hideB hd
          clear hd
          unfold gup
          go_wp2_with fail
          exact ⟨rfl, .inr ⟨codeJ_no (hexF_stop HV.out (by rw [HC.out]; exact HD.out) hlt), rfl⟩, HBT.out.trans HB1.out⟩
      · have hqe : p + k = s.size := by omega
        have HNX := hideB (next_no (w := wr) (by have := HS.out.br; rw [hqe] at this; exact this) hs)
        clear hqe
        go_wp2_with fail
        refine HNX.out.mono ?_
        rintro e w1 ⟨rfl, _, hb1⟩
        have HB1 := hideB hb1
        clear hb1
        unfold gup
        go_wp2_with fail
        exact ⟨rfl, .inr ⟨codeJ_short (by rw [HLN.out]; omega), rfl⟩, HBT.out.trans HB1.out⟩
    · obtain rfl : k = 4 := by omega
      by_cases hbig : 127 < v
      · have hbig' : (127 : Int) < (v : Int) := by omega
        go_wp2_with fail
        exact ⟨rfl, .inr ⟨codeJ_big HV.out hbig, rfl⟩, HBT.out⟩
      · have hbig' : ¬ (127 : Int) < (v : Int) := by omega
        have hw : IntKind.u8.wrap (v : Int) = (v : Int) := u8_wrap (by omega) (by omega)
        go_wp2_with fail
        go_ret
        exact ⟨.inl ⟨v, p + 4, codeJ_yes (by rw [HLN.out]; exact hpk) HV.out (by omega), rfl, HS.out⟩, HBT.out⟩
end Go.Proofs.Ytagcgnhpdmhegaa
