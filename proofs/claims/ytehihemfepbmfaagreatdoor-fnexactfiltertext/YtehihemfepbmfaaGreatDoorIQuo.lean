/-
  The specification's l2Hex: one sign.
-/
import Derived.Test.YtehihemfepbmfaaGreatDoorProg
import Derived.Test.YtehihemfepbmfaaGreatDoorPkP
import Derived.Laws.IdiomStrings
import Derived.Below
import Derived.WideShapes
import Derived.WalkKit
import Derived.Shelf.Strings.BuilderK
import Derived.Shelf.Small.Strs
namespace Go.Proofs.YtehihemfepbmfaaGreatDoor
open Go.RowKit Go.WideShapes
set_option linter.unusedSimpArgs false
set_option linter.unusedVariables false
theorem one_byte (x : UInt8) (w : World) : (convert 22 9 (.slice (some ⟨w.heap.size, 0, none⟩) 1 1)).run Tryz.prog (w.alloc (.cells #[.int .u8 (x.toNat : Int)] 5)) = .ok (.string ⟨#[x]⟩) (w.alloc (.cells #[.int .u8 (x.toNat : Int)] 5)) := by
  have := run_convert_bytes_back (P := Tryz.prog) (w.alloc (.cells #[.int .u8 (x.toNat : Int)] 5)) 22 9 5 ⟨w.heap.size, 0, none⟩ 1 [x] Tryz.underlying22 Tryz.underlying5 Tryz.underlying9 (fun j hj => by
    obtain rfl : j = 0 := by simpa using hj
    rw [add_plain, Nat.zero_add]
    simp)
  exact this

set_option maxRecDepth 100000 in
set_option maxHeartbeats 1600000 in
theorem l2Hex_any (n : Nat) (h : n < 16) (w : World) : Calls Tryz.prog 132 #[.int .u8 (n : Int)] w fun e w' => e = .returned (.string ⟨#[hexB n]⟩) ∧ Below w.heap.size w w' := by
  go_enter Tryz.func132, Tryz.ntmps132
  have hc := one_byte
  have hh : hexB n = (ByteArray.mk #[48, 49, 50, 51, 52, 53, 54, 55, 56, 57, 97, 98, 99, 100, 101, 102])[n]'h := by
    show hexS.getD n 0 = hexS[n]'h
    rw [List.getD, List.getElem?_eq_getElem (show n < hexS.length from h)]; rfl
  have H := hideB hh
  clear hh
  go_wp2
  go_ret
  exact ⟨ret_str (by rw [H.out]), (Below.refl _ _).alloc (Nat.le_refl _) _⟩
theorem l2Hex_int (x : Int) (w : World) (h0 : 0 ≤ x) (h1 : x < 16) : Calls Tryz.prog 132 #[.int .u8 x] w fun e w' => e = .returned (.string (txt [hexB x.toNat])) ∧ Below w.heap.size w w' := by
  obtain ⟨n, rfl⟩ : ∃ n : Nat, x = n := ⟨x.toNat, by omega⟩
  exact l2Hex_any n (by omega) w
theorem call_hex (v : Value) (w : World) : (callFunc 132 #[v]).run Tryz.prog w = .ok (.enter 132 #[v]) w := by kernel_rfl
theorem txt_one (x : UInt8) : (txt [x]).size = 1 := txt_size [x]
end Go.Proofs.YtehihemfepbmfaaGreatDoor

/-
  The library's contracts of strings.Builder at this program: WriteByte, WriteString, String, in terms of the bytes written.
-/
namespace Go.Proofs
open Go.Shelf
def Tryz.bldRen : Go.Shelf.Ren := ⟨fun | 166 => 92 | 167 => 131 | 169 => 24 | 240 => 127 | 276 => 158 | n => n, fun | 37 => 22 | 70 => 38 | 72 => 40 | 75 => 126 | 80 => 44 | 127 => 97 | 164 => 183 | n => n, fun | n => n⟩
theorem Tryz.bldLays166 : Go.Proofs.Lays.n166 Tryz.prog Tryz.bldRen := {
  mixed := by kernel_rfl
  f166 := Tryz.func92.trans (congrArg some (by kernel_rfl))
  f240 := Tryz.func127.trans (congrArg some (by kernel_rfl))
  f276 := Tryz.func158.trans (congrArg some (by kernel_rfl))
  t0 := Tryz.underlying0
  a0 := Tryz.isAgg0
  z0 := Tryz.sizeOf0
  v0 := Tryz.zeroValue0
  t3 := Tryz.underlying3
  a3 := Tryz.isAgg3
  z3 := Tryz.sizeOf3
  v3 := Tryz.zeroValue3
  t4 := Tryz.underlying4
  a4 := Tryz.isAgg4
  z4 := Tryz.sizeOf4
  v4 := Tryz.zeroValue4
  t9 := Tryz.underlying9
  a9 := Tryz.isAgg9
  z9 := Tryz.sizeOf9
  v9 := Tryz.zeroValue9
  t20 := Tryz.underlying20
  a20 := Tryz.isAgg20
  z20 := Tryz.sizeOf20
  v20 := Tryz.zeroValue20
  t37 := Tryz.underlying22
  a37 := Tryz.isAgg22
  z37 := Tryz.sizeOf22
  v37 := Tryz.zeroValue22
  t70 := Tryz.underlying38
  a70 := Tryz.isAgg38
  z70 := Tryz.sizeOf38
  v70 := Tryz.zeroValue38
  t72 := Tryz.underlying40
  a72 := Tryz.isAgg40
  z72 := Tryz.sizeOf40
  v72 := Tryz.zeroValue40
  t75 := Tryz.underlying126
  a75 := Tryz.isAgg126
  z75 := Tryz.sizeOf126
  v75 := Tryz.zeroValue126
  t164 := Tryz.underlying183
  a164 := Tryz.isAgg183
  z164 := Tryz.sizeOf183
  v164 := Tryz.zeroValue183
}
theorem Tryz.bldLays167 : Go.Proofs.Lays.n167 Tryz.prog Tryz.bldRen := {
  mixed := by kernel_rfl
  f167 := Tryz.func131.trans (congrArg some (by kernel_rfl))
  f240 := Tryz.func127.trans (congrArg some (by kernel_rfl))
  f276 := Tryz.func158.trans (congrArg some (by kernel_rfl))
  t0 := Tryz.underlying0
  a0 := Tryz.isAgg0
  z0 := Tryz.sizeOf0
  v0 := Tryz.zeroValue0
  t4 := Tryz.underlying4
  a4 := Tryz.isAgg4
  z4 := Tryz.sizeOf4
  v4 := Tryz.zeroValue4
  t5 := Tryz.underlying5
  a5 := Tryz.isAgg5
  z5 := Tryz.sizeOf5
  v5 := Tryz.zeroValue5
  t9 := Tryz.underlying9
  a9 := Tryz.isAgg9
  z9 := Tryz.sizeOf9
  v9 := Tryz.zeroValue9
  t20 := Tryz.underlying20
  a20 := Tryz.isAgg20
  z20 := Tryz.sizeOf20
  v20 := Tryz.zeroValue20
  t37 := Tryz.underlying22
  a37 := Tryz.isAgg22
  z37 := Tryz.sizeOf22
  v37 := Tryz.zeroValue22
  t70 := Tryz.underlying38
  a70 := Tryz.isAgg38
  z70 := Tryz.sizeOf38
  v70 := Tryz.zeroValue38
  t72 := Tryz.underlying40
  a72 := Tryz.isAgg40
  z72 := Tryz.sizeOf40
  v72 := Tryz.zeroValue40
  t75 := Tryz.underlying126
  a75 := Tryz.isAgg126
  z75 := Tryz.sizeOf126
  v75 := Tryz.zeroValue126
  t164 := Tryz.underlying183
  a164 := Tryz.isAgg183
  z164 := Tryz.sizeOf183
  v164 := Tryz.zeroValue183
}
theorem Tryz.bldLays169 : Go.Proofs.Lays.n169 Tryz.prog Tryz.bldRen := {
  mixed := by kernel_rfl
  f169 := Tryz.func24.trans (congrArg some (by kernel_rfl))
  t0 := Tryz.underlying0
  a0 := Tryz.isAgg0
  z0 := Tryz.sizeOf0
  v0 := Tryz.zeroValue0
  t3 := Tryz.underlying3
  a3 := Tryz.isAgg3
  z3 := Tryz.sizeOf3
  v3 := Tryz.zeroValue3
  t9 := Tryz.underlying9
  a9 := Tryz.isAgg9
  z9 := Tryz.sizeOf9
  v9 := Tryz.zeroValue9
  t37 := Tryz.underlying22
  a37 := Tryz.isAgg22
  z37 := Tryz.sizeOf22
  v37 := Tryz.zeroValue22
  t70 := Tryz.underlying38
  a70 := Tryz.isAgg38
  z70 := Tryz.sizeOf38
  v70 := Tryz.zeroValue38
  t72 := Tryz.underlying40
  a72 := Tryz.isAgg40
  z72 := Tryz.sizeOf40
  v72 := Tryz.zeroValue40
  t127 := Tryz.underlying97
  a127 := Tryz.isAgg97
  z127 := Tryz.sizeOf97
  v127 := Tryz.zeroValue97
}
theorem Tryz.bldExtra : Builder.Extra Tryz.prog Tryz.bldRen := {
  sizeBuilder := by kernel_rfl
  liesBuilder := by kernel_rfl
  t5 := Tryz.underlying5
  a5 := Tryz.isAgg5
  z5 := Tryz.sizeOf5
  v5 := Tryz.zeroValue5
  infoByte := by kernel_rfl
  cellsByte := by kernel_rfl
  sizeByte := by kernel_rfl
  neB5 := by decide
}
end Go.Proofs
namespace Go.Proofs.YtehihemfepbmfaaGreatDoor
open Go.Shelf Go.RowKit
/-- In block b lies a builder (its memory from block B on) that has written the bytes l. -/
def BldAt (B b : Nat) (l : List UInt8) (w : World) : Prop := Lib.IsBuilderF 40 5 B b (Lib.byteCells l) w
theorem byteCells_app (l m : List UInt8) : Lib.byteCells (l ++ m) = Lib.byteCells l ++ Lib.byteCells m := by simp [Lib.byteCells]
theorem strCells_bytes (s : ByteArray) : Lib.strCells s = Lib.byteCells s.data.toList := by simp [Lib.strCells, Lib.byteCells]
theorem bld_byte {B b : Nat} {l : List UInt8} {w : World} (h : BldAt B b l w) (x : UInt8) (hlen : l.length + 1 ≤ 140737488355328) (hBw : B ≤ w.heap.size) :
    Calls Tryz.prog 131 #[.pointer (some ⟨b, 0, none⟩), .int .u8 (x.toNat : Int)] w fun e w' => e = .returned .nilIface ∧ BldAt B b (l ++ [x]) w' ∧ Below B w w' ∧ Lib.OthersKept 5 (some b) w w' := by
  refine (Any.Builder_WriteByte_k Tryz.bldLays167 Tryz.bldExtra B b (Lib.byteCells l) (x.toNat : Int) w h (by rw [Lib.byteCells_length]; exact hlen) hBw).mono ?_
  rintro e w' ⟨rfl, h1, h2, h3⟩
  refine ⟨rfl, .inr ?_, h2, h3⟩
  rw [byteCells_app]
  exact h1
theorem bld_text {B b : Nat} {l : List UInt8} {w : World} (h : BldAt B b l w) (s : ByteArray) (hlen : l.length + s.size ≤ 140737488355328) (hBw : B ≤ w.heap.size) :
    Calls Tryz.prog 92 #[.pointer (some ⟨b, 0, none⟩), .string s] w fun e w' => e = .returned (.tuple #[.int .i64 s.size, .nilIface]) ∧ BldAt B b (l ++ s.data.toList) w' ∧ Below B w w' ∧ Lib.OthersKept 5 (some b) w w' := by
  refine (Any.Builder_WriteString_k Tryz.bldLays166 Tryz.bldExtra B b (Lib.byteCells l) s w h (by rw [Lib.byteCells_length]; exact hlen) hBw).mono ?_
  rintro e w' ⟨rfl, h1, h2, h3⟩
  refine ⟨rfl, .inr ?_, h2, h3⟩
  rw [byteCells_app, ← strCells_bytes]
  exact h1
theorem bld_string {B b : Nat} {l : List UInt8} {w : World} (h : BldAt B b l w) (hBw : B ≤ w.heap.size) :
    Calls Tryz.prog 24 #[.pointer (some ⟨b, 0, none⟩)] w fun e w' => e = .returned (.string ⟨l.toArray⟩) ∧ BldAt B b l w' ∧ Below B w w' ∧ Lib.OthersKept 5 (some b) w w' :=
  Any.Builder_String_any_k Tryz.bldLays169 Tryz.bldExtra B b l w h hBw
theorem lt_of_heap {w : World} {b : Nat} {o : Obj} (h : w.heap[b]? = some o) : b < w.heap.size := by
  rcases Nat.lt_or_ge b w.heap.size with h' | h'
  · exact h'
  · rw [Array.getElem?_eq_none h'] at h; cases h
theorem BldAt.keep {B b : Nat} {l : List UInt8} {w w' : World} (h : BldAt B b l w) (hk : ∀ c, B ≤ c → c < w.heap.size → w'.heap[c]? = w.heap[c]?) : BldAt B b l w' := by
  have go : ∀ p, Lib.BuilderAtF 40 5 B b p (Lib.byteCells l) w → Lib.BuilderAtF 40 5 B b p (Lib.byteCells l) w' := by
    rintro p ⟨hB, v, hb, hown, hne⟩
    refine ⟨hB, v, (hk b hB (lt_of_heap hb)).trans hb, ⟨hown.1, ?_⟩, hne⟩
    rcases hown.2 with h0 | ⟨g, cap, cur, fz, hv, hg, hh, hr⟩
    · exact .inl h0
    · exact .inr ⟨g, cap, cur, fz, hv, hg, (hk g hg (lt_of_heap hh)).trans hh, hr⟩
  exact h.elim (fun x => .inl (go _ x)) (fun x => .inr (go _ x))
theorem bld_new (w : World) : BldAt w.heap.size w.heap.size [] (w.alloc (.cells #[.pointer none, .slice none 0 0] 40)) := Lib.IsBuilderF.of (Lib.fresh_isBuilder _ _ w)
end Go.Proofs.YtehihemfepbmfaaGreatDoor

/-
  The library's contract of strings.IndexByte at this program.
-/
namespace Go.Proofs
open Go.Shelf
def Tryz.ixRen : Go.Shelf.Ren := ⟨fun | 137 => 109 | 217 => 142 | 266 => 172 | n => n, fun | n => n, fun | n => n⟩
theorem Tryz.ixLays : Go.Proofs.Lays.n137 Tryz.prog Tryz.ixRen := {
  mixed := by kernel_rfl
  f137 := Tryz.func109.trans (congrArg some (by kernel_rfl))
  f217 := Tryz.func142.trans (congrArg some (by kernel_rfl))
  f266 := Tryz.func172.trans (congrArg some (by kernel_rfl))
  t3 := Tryz.underlying3
  a3 := Tryz.isAgg3
  z3 := Tryz.sizeOf3
  v3 := Tryz.zeroValue3
  t5 := Tryz.underlying5
  a5 := Tryz.isAgg5
  z5 := Tryz.sizeOf5
  v5 := Tryz.zeroValue5
  t9 := Tryz.underlying9
  a9 := Tryz.isAgg9
  z9 := Tryz.sizeOf9
  v9 := Tryz.zeroValue9
}
end Go.Proofs
namespace Go.Proofs.YtehihemfepbmfaaGreatDoor
open Go.Shelf Go.RowKit
theorem indexByte_any (s : ByteArray) (c : UInt8) (w : World) : Calls Tryz.prog 109 #[.string s, .int .u8 (c.toNat : Int)] w fun e w' => e = .returned (.int .i64 (Lib.indexByte s.data.toList c)) ∧ w' = w := by
  have := Any.strings_IndexByte Tryz.ixLays s (c.toNat : Int) w
  have e : ((c.toNat : Int)).toNat.toUInt8 = c := by simp
  rw [e] at this
  exact this
end Go.Proofs.YtehihemfepbmfaaGreatDoor

/-
  The program's quoted.
-/
namespace Go.Proofs.YtehihemfepbmfaaGreatDoor
open Go.RowKit Go.WideShapes
set_option linter.unusedSimpArgs false
set_option linter.unusedVariables false
theorem hexq_at {n : Nat} (h : n < 16) : (ByteArray.mk #[48, 49, 50, 51, 52, 53, 54, 55, 56, 57, 97, 98, 99, 100, 101, 102])[n]'h = hexB n := by
  show hexS[n]'h = hexS.getD n 0
  rw [List.getD, List.getElem?_eq_getElem (show n < hexS.length from h)]; rfl
/-- While the builder of block 'w.heap.size' is being written. -/
structure WrQ (w : World) (l : List UInt8) (wr : World) : Prop where
  bld : BldAt w.heap.size w.heap.size l wr
  bel : Below w.heap.size w wr
theorem WrQ.byte {w wr : World} {l : List UInt8} (h : WrQ w l wr) (x : UInt8) (hlen : l.length + 1 ≤ 140737488355328) :
    Calls Tryz.prog 131 #[.pointer (some ⟨w.heap.size, 0, none⟩), .int .u8 (x.toNat : Int)] wr fun e w' => e = .returned .nilIface ∧ WrQ w (l ++ [x]) w' := by
  refine (bld_byte h.bld x hlen h.bel.size).mono ?_
  rintro e w' ⟨rfl, h1, h2, _⟩
  exact ⟨rfl, h1, h.bel.trans h2⟩
theorem WrQ.text {w wr : World} {l : List UInt8} (h : WrQ w l wr) (s : ByteArray) (hlen : l.length + s.size ≤ 140737488355328) :
    Calls Tryz.prog 92 #[.pointer (some ⟨w.heap.size, 0, none⟩), .string s] wr fun e w' => e = .returned (.tuple #[.int .i64 s.size, .nilIface]) ∧ WrQ w (l ++ s.data.toList) w' := by
  refine (bld_text h.bld s hlen h.bel.size).mono ?_
  rintro e w' ⟨rfl, h1, h2, _⟩
  exact ⟨rfl, h1, h.bel.trans h2⟩
theorem WrQ.two {w wr : World} {l : List UInt8} (h : WrQ w l wr) (x y : UInt8) (hlen : l.length + 2 ≤ 140737488355328) :
    Calls Tryz.prog 92 #[.pointer (some ⟨w.heap.size, 0, none⟩), .string ⟨#[x, y]⟩] wr fun e w' => e = .returned (.tuple #[.int .i64 2, .nilIface]) ∧ WrQ w (l ++ [x, y]) w' := h.text ⟨#[x, y]⟩ hlen
theorem WrQ.done {w wr : World} {l : List UInt8} (h : WrQ w l wr) :
    Calls Tryz.prog 24 #[.pointer (some ⟨w.heap.size, 0, none⟩)] wr fun e w' => e = .returned (.string (txt l)) ∧ Below w.heap.size w w' := by
  refine (bld_string h.bld h.bel.size).mono ?_
  rintro e w' ⟨rfl, _, h2, _⟩
  exact ⟨rfl, h.bel.trans h2⟩
theorem wrq_new (w : World) : WrQ w [] (w.alloc (.cells #[.pointer none, .slice none 0 0] 40)) := ⟨bld_new w, (Below.refl _ _).alloc (Nat.le_refl _) _⟩


theorem quo_ix0 : ∀ n : Fin 256, (∃ i : Fin 7, Go.Lib.indexByte quoS (UInt8.ofNat n.val) = (i.val : Int) ∧ quoB (UInt8.ofNat n.val) = [92, quoL.getD i.val 0]) ∨ (Go.Lib.indexByte quoS (UInt8.ofNat n.val) = -1 ∧ quoB (UInt8.ofNat n.val) = if UInt8.ofNat n.val < 32 ∨ UInt8.ofNat n.val = 127 then [92, 117, 48, 48, hexB (n.val / 16), hexB (n.val % 16)] else [UInt8.ofNat n.val]) := by decide +kernel
theorem quo_ix (c : UInt8) : (∃ i : Nat, i < 7 ∧ Go.Lib.indexByte quoS c = (i : Int) ∧ quoB c = [92, quoL.getD i 0]) ∨ (Go.Lib.indexByte quoS c = -1 ∧ quoB c = if c < 32 ∨ c = 127 then [92, 117, 48, 48, hexB (c.toNat / 16), hexB (c.toNat % 16)] else [c]) := by
  have h := quo_ix0 ⟨c.toNat, c.toNat_lt⟩
  simp only [UInt8.ofNat_toNat] at h
  rcases h with ⟨i, h1, h2⟩ | h
  · exact .inl ⟨i.val, i.isLt, h1, h2⟩
  · exact .inr h
theorem let_at {i : Nat} (h : i < 7) : (ByteArray.mk #[34, 92, 98, 116, 110, 102, 114])[i]'h = quoL.getD i 0 := by
  show quoL[i]'h = quoL.getD i 0
  rw [List.getD, List.getElem?_eq_getElem (show i < quoL.length from h)]; rfl

set_option maxRecDepth 100000 in
set_option maxHeartbeats 3200000 in
theorem iQuo_any (s : ByteArray) (w : World) (hs : s.size ≤ 16777216) : Calls Tryz.prog 165 #[.string s] w fun e w' => e = .returned (.string (txt (quoT s))) ∧ Below w.heap.size w w' := by
  go_enter Tryz.func165, Tryz.ntmps165
  go_wp2_with (go_at_call 131; refine ((wrq_new w).byte 34 (by simp)).mono ?_; rintro e w0 ⟨rfl, h0⟩; have H0 := hideB h0; clear h0)
  go_loopw [10] (fun i wr => ∃ k : Nat, k ≤ s.size ∧ i = .int .i64 k ∧ WrQ w (34 :: quo (s.data.toList.take k)) wr) (fun i _ => s.size - (intOf i).toNat)
  case atStart => exact ⟨0, Nat.zero_le _, rfl, H0.out⟩
  case round =>
    obtain ⟨k, hk, rfl, hwr⟩ := hrel
    by_cases hlt : k < s.size
    · have hl := quo_take_len s.data.toList k
      have HS : Hid (34 :: quo (s.data.toList.take (k + 1)) = (34 :: quo (s.data.toList.take k)) ++ quoB (s.data.toList[k]'(by rw [len_is]; exact hlt))) := by rw [Hid, quo_snoc s.data.toList k (by rw [len_is]; exact hlt)]; rfl
      have hl' : (34 :: quo (s.data.toList.take k)).length ≤ 6 * s.data.toList.length + 1 := by rw [List.length_cons]; omega
      obtain ⟨o, ho⟩ : ∃ o, 34 :: quo (s.data.toList.take k) = o := ⟨_, rfl⟩
      rw [ho] at HS hl' hwr
      clear ho hl
      rw [len_is] at hl'
      rw [getK hlt] at HS
      obtain ⟨c, hc⟩ : ∃ c, s[k] = c := ⟨_, rfl⟩
      rw [hc] at HS
      have hn : c.toNat < 256 := c.toNat_lt
      have CX := hideB (fun w => indexByte_any ⟨#[34, 92, 8, 9, 10, 12, 13]⟩ c w)
      rw [show (ByteArray.mk #[34, 92, 8, 9, 10, 12, 13]).data.toList = quoS from rfl] at CX
      rcases quo_ix c with ⟨i, hi, hix, hq⟩ | ⟨hix, hq⟩
      · rw [hix] at CX
        have HE := hideB hq
        have hi' : (i : Int) < 7 := by omega
        have hla := let_at hi
        obtain ⟨y, hy⟩ : ∃ y, quoL.getD i 0 = y := ⟨_, rfl⟩
        rw [hy] at HE hla
        clear hq hy hix
        go_wp2_with (go_at_call 109; refine (CX.out _).mono ?_; rintro e w1 ⟨rfl, h1⟩; subst w1)
        refine (hwr.byte 92 (by omega)).mono ?_
        rintro e w1 ⟨rfl, h1⟩
        go_wp2_with fail
        refine (h1.byte y (by simp; omega)).mono ?_
        rintro e w2 ⟨rfl, h2⟩
        go_wp2_with fail
        refine ⟨⟨k + 1, by omega, by go_num, ?_⟩, by simp [intOf]; omega⟩
        rw [HS.out, HE.out]
        simpa using h2
      · rw [hix] at CX
        by_cases hp : c < 32 ∨ c = 127
        · rw [if_pos hp] at hq
          have HE := hideB hq
          have p1 : ((c.toNat : Int) < 32) ∨ (c.toNat : Int) = 127 := by
            rcases hp with h | h
            · exact .inl (by have : c.toNat < 32 := UInt8.lt_iff_toNat_lt.1 h; omega)
            · exact .inr (by subst h; rfl)
          clear hq hix hp
          have hw1 := u8_quo c
          have hw2 := u8_rem c
          have x1 := hexq_at (n := c.toNat / 16) (by omega)
          have x2 := hexq_at (n := c.toNat % 16) (by omega)
          have y1 : ((c.toNat : Int) / 16).toNat = c.toNat / 16 := by omega
          have y2 : ((c.toNat : Int) % 16).toNat = c.toNat % 16 := by omega
          rcases p1 with p1 | p1
          · go_wp2_with (first | (go_at_call 109; refine (CX.out _).mono ?_; rintro e w1 ⟨rfl, h1⟩; subst w1) | (go_at_call 92; refine (hwr.text ⟨#[92, 117, 48, 48]⟩ (by show o.length + 4 ≤ _; omega)).mono ?_; rintro e w1 ⟨rfl, h1⟩))
            refine (h1.byte _ (by simp; omega)).mono ?_
            rintro e w2 ⟨rfl, h2⟩
            go_wp2_with fail
            refine (h2.byte _ (by simp; omega)).mono ?_
            rintro e w3 ⟨rfl, h3⟩
            go_wp2_with fail
            refine ⟨⟨k + 1, by omega, by go_num, ?_⟩, by simp [intOf]; omega⟩
            rw [HS.out, HE.out]
            simpa using h3
          · obtain rfl : c = 127 := UInt8.toNat_inj.1 (by show c.toNat = 127; omega)
            go_wp2_with (first | (go_at_call 109; refine (CX.out _).mono ?_; rintro e w1 ⟨rfl, h1⟩; subst w1) | (go_at_call 92; refine (hwr.text ⟨#[92, 117, 48, 48]⟩ (by show o.length + 4 ≤ _; omega)).mono ?_; rintro e w1 ⟨rfl, h1⟩))
            refine (h1.byte 55 (by simp; omega)).mono ?_
            rintro e w2 ⟨rfl, h2⟩
            go_wp2_with fail
            refine (h2.byte 102 (by simp; omega)).mono ?_
            rintro e w3 ⟨rfl, h3⟩
            go_wp2_with fail
            refine ⟨⟨k + 1, by omega, by go_num, ?_⟩, by simp [intOf]; omega⟩
            rw [HS.out, HE.out]
            simpa [hexB, hexS] using h3
        · rw [if_neg hp] at hq
          have HE := hideB hq
          have p1 : ¬ (c.toNat : Int) < 32 := fun h => hp (.inl (UInt8.lt_iff_toNat_lt.2 (by show c.toNat < 32; omega)))
          have p2 : ¬ (c.toNat : Int) = 127 := u8_ne (fun h => hp (.inr h))
          have b127 : ((c.toNat : Int) == 127) = false := by simpa using p2
          clear hq hix hp
          go_wp2_with (first | (go_at_call 109; refine (CX.out _).mono ?_; rintro e w1 ⟨rfl, h1⟩; subst w1) | (go_at_call 131; refine (hwr.byte c (by omega)).mono ?_; rintro e w1 ⟨rfl, h1⟩))
          refine ⟨⟨k + 1, by omega, by go_num, ?_⟩, by simp [intOf]; omega⟩
          rw [HS.out, HE.out]
          exact h1
    · obtain rfl : k = s.size := by omega
      have hl := quo_len s.data.toList
      have HL := hideB (show s.data.toList.take s.size = s.data.toList by rw [← len_is, List.take_length])
      rw [HL.out] at hwr
      rw [len_is] at hl
      go_wp2_with (first | (go_at_call 131; refine (hwr.byte 34 (by simp; omega)).mono ?_; rintro e w1 ⟨rfl, h1⟩) | (go_at_call 24; refine h1.done.mono ?_; rintro e w2 ⟨rfl, h2⟩))
      go_ret
      exact ⟨rfl, h2⟩
end Go.Proofs.YtehihemfepbmfaaGreatDoor
