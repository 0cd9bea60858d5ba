/-
  The program's signReader: its place in memory, the next sign, blanks.
-/
import Derived.Test.YtiamkmkbkehldaaGreatDoorRdM
import Derived.Test.YtiamkmkbkehldaaGreatDoorIQuo
import Derived.Test.YtiamkmkbkehldaaGreatDoorYrP
import Derived.Test.YtiamkmkbkehldaaGreatDoorIJs
namespace Go.Proofs.YtiamkmkbkehldaaGreatDoor
open Go.RowKit
set_option linter.unusedSimpArgs false
set_option linter.unusedVariables false

/-- A reader of signs with the blanks of JSON. -/
structure SrAt (w : World) (rb : Nat) (s : ByteArray) (p : Nat) : Prop where
  br : BrAt w rb s p
  bl : w.cell? ⟨rb, 2, none⟩ = some (.string ⟨#[9, 10, 13, 32]⟩)
theorem SrAt.keep {w w' : World} {rb p : Nat} {s : ByteArray} (h : SrAt w rb s p) (hb : w'.heap[rb]? = w.heap[rb]?) (hz : w.heap.size ≤ w'.heap.size) : SrAt w' rb s p := ⟨h.br.keep hb hz, (cellOf hb).trans h.bl⟩
theorem SrAt.below {w w' : World} {rb p : Nat} {s : ByteArray} (h : SrAt w rb s p) (hb : Below w.heap.size w w') : SrAt w' rb s p := h.keep (hb.block rb h.br.lt) hb.size
theorem SrAt.to {w : World} {rb p q : Nat} {s : ByteArray} (h : SrAt w rb s p) (hq : q ≤ s.size) : SrAt (w.setCell ⟨rb, 1, none⟩ (.int .i64 (q : Int))) rb s q :=
  ⟨⟨by simpa using h.br.lt, by rw [World.cell?_setCell_other (h := by simp)]; exact h.br.src, World.cell?_setCell_same _ _ _ h.br.place, by rw [World.frozen?_setCell]; exact h.br.free, hq⟩, by rw [World.cell?_setCell_other (h := by simp)]; exact h.bl⟩
/-- Another reading of the reader's own memory. -/
theorem SrAt.of {w w' : World} {rb p q : Nat} {s : ByteArray} (h : SrAt w rb s p) (hb : BrAt w' rb s q) (hc : w'.cell? ⟨rb, 2, none⟩ = w.cell? ⟨rb, 2, none⟩) : SrAt w' rb s q := ⟨hb, hc.trans h.bl⟩
def placeOf (w : World) (rb : Nat) : Nat := match w.cell? ⟨rb, 1, none⟩ with
  | some v => (intOf v).toNat
  | none => 0
theorem SrAt.placeOf {w : World} {rb p : Nat} {s : ByteArray} (h : SrAt w rb s p) : placeOf w rb = p := by unfold Go.Proofs.YtiamkmkbkehldaaGreatDoor.placeOf; rw [h.br.place]; simp [intOf]
theorem byS {s : ByteArray} {p : Nat} (h : p < s.size) : s[p].toNat = byAt s.data.toList p := (getB h).symm

set_option maxRecDepth 100000 in
set_option maxHeartbeats 1600000 in
theorem peek_any {rb p : Nat} {s : ByteArray} {w : World} (h : BrAt w rb s p) (hs : s.size ≤ 1048576) :
    Calls Tryz.prog 192 #[.pointer (some ⟨rb, 0, none⟩)] w fun e w' => e = .returned (.int .u8 (byAt s.data.toList p : Int)) ∧ Below w.heap.size w w' := by
  have H := hideB h
  have h1 := h.src
  have h2 := h.place
  have h4 := h.lt
  have h5 := h.le
  clear h
  by_cases hp : p < s.size
  · have hne : ((p : Int) == (s.size : Int)) = false := by simp; omega
    have HB := hideB (byS hp)
    go_enter Tryz.func192, Tryz.ntmps192
    go_wp2_with fail
    go_quiet (fail)
    have HD1 := hideB (below_drewB (w := w) nq)
    have HR1 := hideB (H.out.below HD1.out)
    have k1 := HR1.out.src
    have k2 := HR1.out.place
    generalize w.drewN nq = W1 at HR1 HD1 k1 k2 ⊢
    clear nq h1 h2
    go_wp2_with fail
    go_quiet (fail)
    have HD2 := hideB (below_drewB (w := W1) nq)
    go_wp2_with fail
    go_ret
    exact ⟨by rw [HB.out]; rfl, HD1.out.trans (HD2.out.mono HD1.out.size)⟩
  · obtain rfl : p = s.size := by omega
    have HB : Hid (byAt s.data.toList s.size = 0) := byAt_past (by rw [len_is]; omega)
    go_enter Tryz.func192, Tryz.ntmps192
    go_wp2_with fail
    go_quiet (fail)
    go_wp2_with fail
    go_ret
    exact ⟨by rw [HB.out]; rfl, below_drewB nq⟩

end Go.Proofs.YtiamkmkbkehldaaGreatDoor

/-
  The program's hexValue.
-/
namespace Go.Proofs.YtiamkmkbkehldaaGreatDoor
open Go.RowKit
set_option linter.unusedSimpArgs false
set_option linter.unusedVariables false
theorem hex_ix0 : ∀ n : Fin 256, Go.Lib.indexByte [48, 49, 50, 51, 52, 53, 54, 55, 56, 57, 97, 98, 99, 100, 101, 102] (UInt8.ofNat (if 65 ≤ n.val ∧ n.val ≤ 70 then n.val + 32 else n.val)) = (match hexC n.val with | some d => (d : Int) | none => -1) := by decide +kernel
set_option maxRecDepth 100000 in
set_option maxHeartbeats 1600000 in
theorem hexValue_any (c : Nat) (hc : c < 256) (w : World) :
    Calls Tryz.prog 242 #[.int .u8 (c : Int)] w fun e w' => w' = w ∧ ((∃ d : Nat, hexC c = some d ∧ e = .returned (.int .i64 (d : Int))) ∨ (hexC c = none ∧ e = gup)) := by
  have HX := hideB (hex_ix0 ⟨c, hc⟩)
  obtain ⟨b, hb⟩ : ∃ b, (if 65 ≤ c ∧ c ≤ 70 then c + 32 else c) = b := ⟨_, rfl⟩
  have hb256 : b < 256 := by rw [← hb]; split <;> omega
  have HBI : Hid (∀ w, Calls Tryz.prog 168 #[.string ⟨#[48, 49, 50, 51, 52, 53, 54, 55, 56, 57, 97, 98, 99, 100, 101, 102]⟩, .int .u8 (b : Int)] w fun e w' => e = .returned (.int .i64 (Go.Lib.indexByte [48, 49, 50, 51, 52, 53, 54, 55, 56, 57, 97, 98, 99, 100, 101, 102] (UInt8.ofNat b))) ∧ w' = w) := fun w => by
    have := indexByte_any ⟨#[48, 49, 50, 51, 52, 53, 54, 55, 56, 57, 97, 98, 99, 100, 101, 102]⟩ (UInt8.ofNat b) w
    rw [UInt8.toNat_ofNat', Nat.mod_eq_of_lt (by omega)] at this
    exact this
  cases hh : hexC c with
  | some d =>
    have h1 := HX.out
    simp only [hh] at h1
    rw [hb] at h1
    rw [h1] at HBI
    have hd : ¬ (d : Int) < 0 := by have := Int.natCast_nonneg d; omega
    clear h1 HX
    by_cases hu : 65 ≤ c ∧ c ≤ 70
    · obtain ⟨u1, u2⟩ := hu
      rw [if_pos ⟨u1, u2⟩] at hb
      have q1 : (65 : Int) ≤ (c : Int) := by omega
      have q2 : (c : Int) ≤ 70 := by omega
      have q3 : IntKind.u8.wrap ((c : Int) + 32) = (b : Int) := by rw [u8_wrap (by omega) (by omega)]; omega
      clear hb
      go_enter Tryz.func242, Tryz.ntmps242
      go_wp2_with (go_at_call 168; refine (HBI.out _).mono ?_; rintro e w1 ⟨rfl, rfl⟩)
      go_ret
      exact ⟨rfl, .inl ⟨d, rfl, rfl⟩⟩
    · rw [if_neg hu] at hb
      subst hb
      by_cases q1 : (65 : Int) ≤ (c : Int)
      · have q2 : ¬ (c : Int) ≤ 70 := by omega
        go_enter Tryz.func242, Tryz.ntmps242
        go_wp2_with (go_at_call 168; refine (HBI.out _).mono ?_; rintro e w1 ⟨rfl, rfl⟩)
        go_ret
        exact ⟨rfl, .inl ⟨d, rfl, rfl⟩⟩
      · go_enter Tryz.func242, Tryz.ntmps242
        go_wp2_with (go_at_call 168; refine (HBI.out _).mono ?_; rintro e w1 ⟨rfl, rfl⟩)
        go_ret
        exact ⟨rfl, .inl ⟨d, rfl, rfl⟩⟩
  | none =>
    have h1 := HX.out
    simp only [hh] at h1
    rw [hb] at h1
    rw [h1] at HBI
    have hu : ¬ (65 ≤ c ∧ c ≤ 70) := fun hu => by unfold hexC at hh; rw [if_neg (by omega), if_neg (by omega), if_pos hu] at hh; cases hh
    clear h1 HX
    rw [if_neg hu] at hb
    subst hb
    by_cases q1 : (65 : Int) ≤ (c : Int)
    · have q2 : ¬ (c : Int) ≤ 70 := by omega
      go_enter Tryz.func242, Tryz.ntmps242
      go_wp2_with (go_at_call 168; refine (HBI.out _).mono ?_; rintro e w1 ⟨rfl, rfl⟩)
      exact ⟨rfl, rfl, .inr ⟨by first | rfl | trivial, rfl⟩⟩
    · go_enter Tryz.func242, Tryz.ntmps242
      go_wp2_with (go_at_call 168; refine (HBI.out _).mono ?_; rintro e w1 ⟨rfl, rfl⟩)
      exact ⟨rfl, rfl, .inr ⟨by first | rfl | trivial, rfl⟩⟩

end Go.Proofs.YtiamkmkbkehldaaGreatDoor

/-
  Plain: what stands behind a stroke.
-/
namespace Go.Proofs.YtiamkmkbkehldaaGreatDoor
open Go.RowKit
set_option linter.unusedSimpArgs false
set_option linter.unusedVariables false

theorem esc_ix0 : ∀ n : Fin 256, n.val ≠ 47 → (escC n.val = none ∧ Go.Lib.indexByte [34, 92, 98, 116, 110, 102, 114] (UInt8.ofNat n.val) = -1) ∨ ∃ i : Fin 7, Go.Lib.indexByte [34, 92, 98, 116, 110, 102, 114] (UInt8.ofNat n.val) = (i.val : Int) ∧ escC n.val = some (([34, 92, 8, 9, 10, 12, 13] : List Nat).getD i.val 0) := by decide +kernel
theorem escJ_past {L : List UInt8} {p : Nat} (h : L.length ≤ p) : escJ L p = none := by unfold escJ; rw [if_pos h]
theorem escJ_one {L : List UInt8} {p b : Nat} (h : p < L.length) (hb : escC (byAt L p) = some b) : escJ L p = some (b, p + 1) := by unfold escJ; rw [if_neg (by omega)]; simp only [hb]
theorem escJ_code {L : List UInt8} {p : Nat} (h : p < L.length) (hb : byAt L p = 117) : escJ L p = codeJ L (p + 1) := by
  unfold escJ
  rw [if_neg (by omega)]
  have : escC (byAt L p) = none := by rw [hb]; rfl
  simp only [this, if_pos hb]
theorem escJ_none {L : List UInt8} {p : Nat} (h : p < L.length) (hb : escC (byAt L p) = none) (hc : byAt L p ≠ 117) : escJ L p = none := by
  unfold escJ
  rw [if_neg (by omega)]
  simp only [hb, if_neg hc]
theorem escS_at : ∀ i : Nat, i < 7 → ∀ h : i < (ByteArray.mk #[34, 92, 8, 9, 10, 12, 13]).size, ((ByteArray.mk #[34, 92, 8, 9, 10, 12, 13])[i]'h).toNat = ([34, 92, 8, 9, 10, 12, 13] : List Nat).getD i 0 := by
  intro i hi h
  rcases i with _ | _ | _ | _ | _ | _ | _ | i
  · rfl
  · rfl
  · rfl
  · rfl
  · rfl
  · rfl
  · rfl
  · omega

end Go.Proofs.YtiamkmkbkehldaaGreatDoor

/-
  The text that is written while one is read.
-/
namespace Go.Proofs.YtiamkmkbkehldaaGreatDoor
open Go.RowKit
set_option linter.unusedSimpArgs false
set_option linter.unusedVariables false

theorem ft_bld : FT 52 0 := ⟨by kernel_rfl, by decide⟩
set_option maxRecDepth 100000 in
set_option maxHeartbeats 2000000 in
theorem string_nil {b : Nat} {p : Value} {w : World} (hb : w.heap[b]? = some (.cells #[p, .slice none 0 0] 52 (0, 0))) :
    Calls Tryz.prog 39 #[.pointer (some ⟨b, 0, none⟩)] w fun e w' => e = .returned (.string (txt [])) ∧ Below w.heap.size w w' := by
  have mixed : Tryz.prog.follows .mixedOrders = true := by kernel_rfl
  have hb' : w.drew.heap[b]? = some (.cells #[p, .slice none 0 0] 52 (0, 0)) := hb
  have c1 : w.drew.cell? ⟨b, 1, none⟩ = some (.slice none 0 0) := cellAt hb' (by simp)
  have HE := hideB (show Below w.heap.size w w.drew from Below.drew (Below.refl _ _))
  have hSD : (Builtin.unsafeSliceData_ #[22] 121 #[.slice none 0 0]).run Tryz.prog w.drew = .ok (.pointer none) w.drew := rfl
  have hUS : (Builtin.unsafeString_ #[121, 3] 9 #[.pointer none, .int .i64 0]).run Tryz.prog w.drew = .ok (.string .empty) w.drew := Lib.run_unsafeString_none w.drew _ _ _ _
  clear hb'
  go_enter Tryz.func39, Tryz.ntmps39
  go_wp2
  go_region_o
  all_goals (go_wp2; go_ret; exact ⟨rfl, HE.out⟩)

/-- The text that is written so far: its rows apart from the reader. -/
structure Wr (w : World) (b : Nat) (l : List UInt8) (wr : World) : Prop where
  fb : FB 52 w.heap.size b [] l wr
  nil : l = [] → wr.heap[b]? = some (.cells #[.pointer none, .slice none 0 0] 52 (0, 0))
theorem Wr.read {w wr w2 : World} {rb b : Nat} {l : List UInt8} (h : Wr w b l wr) (hb : But rb wr w2) (hr : rb < w.heap.size) : Wr w b l w2 := by
  obtain ⟨h1, p, v, hp, h2, h3, h4⟩ := h.fb
  have hbl : b < wr.heap.size := lt_heap h2
  have e : w2.heap[b]? = wr.heap[b]? := hb.block b hbl (by omega)
  refine ⟨⟨h1, p, v, hp, e.trans h2, ?_, h4⟩, fun hl => e.trans (h.nil hl)⟩
  exact own_from (w := wr) h3 ⟨hb.size, fun c c1 c2 => hb.block c c2 (by omega)⟩
theorem But.belowN {rb : Nat} {w a b : World} (h : But rb w a) (k : Below w.heap.size a b) : But rb w b :=
  ⟨k.os.trans h.os, k.tape.trans h.tape, k.output.trans h.output, Nat.le_trans h.size k.size, fun c hc hn => (k.block c hc).trans (h.block c hc hn)⟩

theorem tx_push {X : Option (List UInt8 × Nat)} {l : List UInt8} {b : UInt8} : (X.map (fun y => (b :: y.1, y.2))).map (fun y => (l ++ y.1, y.2)) = X.map (fun y => ((l ++ [b]) ++ y.1, y.2)) := by cases X <;> simp
theorem tx_end {L : List UInt8} {q : Nat} (hq : q < L.length) (h : byAt L q = 34) : txJ L q = some ([], q + 1) := by rw [txJ_eq hq, if_pos h]
theorem tx_esc {L : List UInt8} {q b z : Nat} (hq : q < L.length) (h : byAt L q = 92) (he : escJ L (q + 1) = some (b, z)) : txJ L q = (txJ L z).map (fun y => (UInt8.ofNat b :: y.1, y.2)) := by
  rw [txJ_eq hq, if_neg (by omega), if_pos h, he]
  dsimp only
  cases txJ L z <;> rfl
theorem tx_noesc {L : List UInt8} {q : Nat} (hq : q < L.length) (h : byAt L q = 92) (he : escJ L (q + 1) = none) : txJ L q = none := by rw [txJ_eq hq, if_neg (by omega), if_pos h, he]
theorem tx_bad {L : List UInt8} {q : Nat} (hq : q < L.length) (h1 : byAt L q ≠ 34) (h2 : byAt L q ≠ 92) (h : byAt L q < 32 ∨ 127 < byAt L q) : txJ L q = none := by rw [txJ_eq hq, if_neg h1, if_neg h2, if_pos h]
theorem tx_step {L : List UInt8} {q : Nat} (hq : q < L.length) (h1 : byAt L q ≠ 34) (h2 : byAt L q ≠ 92) (h : ¬ (byAt L q < 32 ∨ 127 < byAt L q)) : txJ L q = (txJ L (q + 1)).map (fun y => (UInt8.ofNat (byAt L q) :: y.1, y.2)) := by
  rw [txJ_eq hq, if_neg h1, if_neg h2, if_neg h]
  cases txJ L (q + 1) <;> rfl

end Go.Proofs.YtiamkmkbkehldaaGreatDoor

/-
  The program's signReader, whatever its other cells hold.
-/
namespace Go.Proofs.YtiamkmkbkehldaaGreatDoor
open Go.RowKit
set_option linter.unusedSimpArgs false
set_option linter.unusedVariables false

/-- A reader of signs; its other cells hold X. -/
structure SgAt (X : Nat → Option Value) (w : World) (rb : Nat) (s : ByteArray) (p : Nat) : Prop where
  br : BrAt w rb s p
  bl : ∀ j, j ≠ 1 → w.cell? ⟨rb, j, none⟩ = X j
theorem SgAt.keep {X : Nat → Option Value} {w w' : World} {rb p : Nat} {s : ByteArray} (h : SgAt X w rb s p) (hb : w'.heap[rb]? = w.heap[rb]?) (hz : w.heap.size ≤ w'.heap.size) : SgAt X w' rb s p := ⟨h.br.keep hb hz, fun j hj => (cellOf hb).trans (h.bl j hj)⟩
theorem SgAt.below {X : Nat → Option Value} {w w' : World} {rb p : Nat} {s : ByteArray} (h : SgAt X w rb s p) (hb : Below w.heap.size w w') : SgAt X w' rb s p := h.keep (hb.block rb h.br.lt) hb.size
theorem SgAt.to {X : Nat → Option Value} {w : World} {rb p q : Nat} {s : ByteArray} (h : SgAt X w rb s p) (hq : q ≤ s.size) : SgAt X (w.setCell ⟨rb, 1, none⟩ (.int .i64 (q : Int))) rb s q :=
  ⟨⟨by simpa using h.br.lt, by rw [World.cell?_setCell_other (h := by simp)]; exact h.br.src, World.cell?_setCell_same _ _ _ h.br.place, by rw [World.frozen?_setCell]; exact h.br.free, hq⟩, fun j hj => by rw [World.cell?_setCell_other (h := by simp)]; exact h.bl j hj⟩
theorem SgAt.placeOf {X : Nat → Option Value} {w : World} {rb p : Nat} {s : ByteArray} (h : SgAt X w rb s p) : placeOf w rb = p := by unfold Go.Proofs.YtiamkmkbkehldaaGreatDoor.placeOf; rw [h.br.place]; simp [intOf]

set_option maxRecDepth 100000 in
set_option maxHeartbeats 1600000 in
theorem nextG_yes {X : Nat → Option Value} {rb p : Nat} {s : ByteArray} {w : World} (h : SgAt X w rb s p) (hp : p < s.size) (hs : s.size ≤ 1048576) :
    Calls Tryz.prog 207 #[.pointer (some ⟨rb, 0, none⟩)] w fun e w' => e = .returned (.int .u8 (s[p].toNat : Int)) ∧ SgAt X w' rb s (p + 1) ∧ But rb w w' := by
  have H := hideB h
  have h1 := h.br.src
  have h2 := h.br.place
  have h3 := h.br.free
  have h4 := h.br.lt
  clear h
  have hne : ((p : Int) == (s.size : Int)) = false := by simp; omega
  go_enter Tryz.func207, Tryz.ntmps207
  go_wp2_with fail
  go_quiet (fail)
  have HD1 := hideB (below_drewB (w := w) nq)
  have HR1 := hideB (H.out.below HD1.out)
  have k1 := HR1.out.br.src
  have k2 := HR1.out.br.place
  have k3 := HR1.out.br.free
  generalize w.drewN nq = W1 at HR1 HD1 k1 k2 k3 ⊢
  clear nq h1 h2 h3
  go_wp2_with fail
  go_quiet (fail)
  have HD2 := hideB (below_drewB (w := W1) nq)
  have HR2 := hideB (HR1.out.below HD2.out)
  have l1 := HR2.out.br.src
  have l2 := HR2.out.br.place
  have l3 := HR2.out.br.free
  generalize W1.drewN nq = W2 at HR2 HD2 l1 l2 l3 ⊢
  clear nq k1 k2 k3
  go_wp2_with fail
  go_ret
  refine ⟨rfl, HR2.out.to hp, ?_⟩
  exact ((But.of_below HD1.out).trans (But.of_below HD2.out)).trans (But.of_set _ _)

end Go.Proofs.YtiamkmkbkehldaaGreatDoor
