/-
  The specification's l5Lower: a text with small letters.
-/
import Derived.Test.YtgmnihofkpjboaaDoorPlnL
import Derived.Test.YtgmnihofkpjboaaDoorTxt
import Derived.Laws.IdiomStrings
import Derived.Below
import Derived.WideShapes
namespace Go.Proofs.YtgmnihofkpjboaaDoor
open Go.RowKit Go.WideShapes
set_option linter.unusedSimpArgs false
set_option linter.unusedVariables false


def lowAt (l : List UInt8) (k j : Nat) : Int := ((if j < k then Go.Lib.lowerB (l.getD j 0) else l.getD j 0).toNat : Int)

/-- The row: its first 'k' bytes turned, the others as they were. -/
structure LowRow (l : List UInt8) (b k : Nat) (w wr : World) : Prop where
  bel : Below b w wr
  cells : ∀ j, j < l.length → wr.cell? ⟨b, j, none⟩ = some (.int .u8 (lowAt l k j))
  free : ∀ j, j < l.length → wr.frozen? ⟨b, j, none⟩ = false

theorem LowRow.keep {l : List UInt8} {b k : Nat} {w wr : World} (h : LowRow l b k w wr) (hk : Go.Lib.isUpperB (l.getD k 0) = false) : LowRow l b (k + 1) w wr := by
  refine ⟨h.bel, fun j hj => ?_, h.free⟩
  rw [h.cells j hj]
  unfold lowAt
  by_cases e : j = k
  · subst e
    rw [if_neg (by omega), if_pos (by omega), Go.Lib.lowerB_of_not _ hk]
  · by_cases e2 : j < k
    · rw [if_pos e2, if_pos (by omega)]
    · rw [if_neg e2, if_neg (by omega)]

theorem LowRow.turn {l : List UInt8} {b k : Nat} {w wr : World} (h : LowRow l b k w wr) (hlt : k < l.length) (hk : Go.Lib.isUpperB (l.getD k 0) = true) :
    LowRow l b (k + 1) w (wr.setCell ⟨b, k, none⟩ (.int .u8 (((l.getD k 0).toNat : Int) + 32))) := by
  refine ⟨h.bel.setCell (Nat.le_refl _) _, fun j hj => ?_, fun j hj => ?_⟩
  · by_cases e : j = k
    · subst e
      rw [World.cell?_setCell_same _ _ _ (h.cells j hj)]
      unfold lowAt
      rw [if_pos (by omega), ← Go.Lib.lowerB_int _ hk]
    · rw [World.cell?_setCell_other _ _ _ _ (by intro e'; cases e'; exact e rfl), h.cells j hj]
      unfold lowAt
      by_cases e2 : j < k
      · rw [if_pos e2, if_pos (by omega)]
      · rw [if_neg e2, if_neg (by omega)]
  · rw [World.frozen?_setCell]; exact h.free j hj

theorem lowRow_start (s : ByteArray) (w : World) : ∃ cap W1, (convert 9 56 (.string s)).run Tryd.prog w = .ok (.slice (some ⟨w.heap.size, 0, none⟩) s.size cap) W1 ∧ LowRow s.data.toList w.heap.size 0 w W1 := by
  refine ⟨_, _, run_bytes_of_string w 9 56 5 s Tryd.underlying9 Tryd.underlying56 Tryd.underlying5, ?_⟩
  generalize hC : bytesRow s (grownCap w s.size 0 5) = C
  have hn : s.size ≤ C.size := by rw [← hC]; simp [bytesRow]
  have hs : w.drew.heap.size = w.heap.size := rfl
  refine ⟨((Below.refl w.heap.size w).drew).alloc (Nat.le_refl _) _, fun j hj => ?_, fun j hj => ?_⟩
  · have hj' : j < s.data.size := by simpa using hj
    have := World.cell?_alloc_mark w.drew C 5 (C.size, C.size + 1) j
    rw [hs] at this
    rw [this, ← hC, bytesRow_at s _ j hj']
    simp [lowAt, List.getD, hj', Array.getElem?_eq_getElem hj']
  · have hj' : j < s.size := by rw [← len_is]; exact hj
    have := World.frozen?_alloc_mark w.drew C 5 C.size (C.size + 1) j
    rw [hs] at this
    rw [this]
    simp; omega

theorem lowRow_end {s : ByteArray} {b cap : Nat} {w wr : World} (h : LowRow s.data.toList b s.size w wr) :
    (convert 56 9 (.slice (some ⟨b, 0, none⟩) s.size cap)).run Tryd.prog wr = .ok (.string ⟨(Go.Lib.toLowerA s.data.toList).toArray⟩) wr := by
  have hl : (Go.Lib.toLowerA s.data.toList).length = s.size := by rw [Go.Lib.toLowerA, List.length_map, len_is]
  have := run_convert_bytes_back (P := Tryd.prog) wr 56 9 5 ⟨b, 0, none⟩ cap (Go.Lib.toLowerA s.data.toList) Tryd.underlying56 Tryd.underlying5 Tryd.underlying9 (fun j hj => by
    rw [hl] at hj
    have hj2 : j < s.data.toList.length := by rw [len_is]; exact hj
    rw [add_plain, Nat.zero_add, h.cells j hj2]
    simp only [lowAt, if_pos hj, Go.Lib.toLowerA, List.getElem_map]
    have hj3 : j < s.data.size := by simpa using hj2
    simp [List.getD, hj2, Array.getElem?_eq_getElem hj3])
  rw [hl] at this
  exact this

set_option maxRecDepth 100000 in
set_option maxHeartbeats 1600000 in
theorem l5Lower_walk (s : ByteArray) (w : World) (hs : s.size ≤ 60) : Calls Tryd.prog 15 #[.string s] w fun e w' => e = .returned (.string ⟨(Go.Lib.toLowerA s.data.toList).toArray⟩) ∧ Below w.heap.size w w' := by
  obtain ⟨cap, W1, hconv, hrow⟩ := lowRow_start s w
  have HR := hideB hrow
  clear hrow
  obtain ⟨b, hbw⟩ : ∃ b, w.heap.size = b := ⟨_, rfl⟩
  rw [hbw] at hconv HR ⊢
  obtain ⟨n, hn⟩ : ∃ n, s.size = n := ⟨_, rfl⟩
  have HN := hideB hn
  have HL := hideB (show s.data.toList.length = n by rw [len_is, hn])
  rw [hn] at hconv hs
  clear hbw hn
  go_enter Tryd.func15, Tryd.ntmps15
  go_wp2_with fail
  go_loopw [4] (fun i wr => ∃ k : Nat, k ≤ n ∧ i = .int .i64 k ∧ Hid (LowRow s.data.toList b k w wr)) (fun i _ => n - (intOf i).toNat)
  case atStart => exact ⟨0, Nat.zero_le _, rfl, HR⟩
  case round =>
    obtain ⟨k, hk, rfl, HK⟩ := hrel
    by_cases hlt : k < n
    · obtain ⟨c, hc⟩ : ∃ c, s.data.toList.getD k 0 = c := ⟨_, rfl⟩
      have HCE := hideB hc
      have hcell : wr.cell? ⟨b, k, none⟩ = some (.int .u8 (c.toNat : Int)) := by
        rw [HK.out.cells k (by rw [HL.out]; exact hlt), lowAt, if_neg (by omega), hc]
      have hfree : wr.frozen? ⟨b, k, none⟩ = false := HK.out.free k (by rw [HL.out]; exact hlt)
      clear hc
      have hcb : c.toNat < 256 := c.toNat_lt
      by_cases h1 : (65 : Int) ≤ (c.toNat : Int)
      · by_cases h2 : (c.toNat : Int) ≤ 90
        · have HT := hideB (HK.out.turn (by rw [HL.out]; exact hlt) (by rw [HCE.out, Go.Lib.isUpperB_int]; simp [h1, h2]))
          rw [HCE.out] at HT
          go_wp2_with fail
          go_roundw
          case rel => exact ⟨k + 1, by omega, by go_num, HT⟩
          case measure => simp [intOf]; omega
        · have HT := hideB (HK.out.keep (by rw [HCE.out, Go.Lib.isUpperB_int]; simp [h1, h2]))
          go_wp2_with fail
          go_roundw
          case rel => exact ⟨k + 1, by omega, by go_num, HT⟩
          case measure => simp [intOf]; omega
      · have HT := hideB (HK.out.keep (by rw [HCE.out, Go.Lib.isUpperB_int]; simp [h1]))
        go_wp2_with fail
        go_roundw
        case rel => exact ⟨k + 1, by omega, by go_num, HT⟩
        case measure => simp [intOf]; omega
    · obtain rfl : k = n := by omega
      have hend := lowRow_end (cap := cap) (by rw [HN.out]; exact HK.out : LowRow s.data.toList b s.size w wr)
      rw [HN.out] at hend
      have HB := hideB HK.out.bel
      go_wp2_with fail
      go_ret
      exact ⟨rfl, HB.out⟩
end Go.Proofs.YtgmnihofkpjboaaDoor
