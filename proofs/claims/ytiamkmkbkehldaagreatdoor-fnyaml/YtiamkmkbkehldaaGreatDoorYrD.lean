/-
  The program's YAML: a list or a map of which some lines are read.
-/
import Derived.Test.YtiamkmkbkehldaaGreatDoorRdJ
import Derived.Test.YtiamkmkbkehldaaGreatDoorPhase
import Derived.Test.YtiamkmkbkehldaaGreatDoorStbM
namespace Go.Proofs.YtiamkmkbkehldaaGreatDoor
open Go.RowKit
set_option linter.unusedSimpArgs false
set_option linter.unusedVariables false

theorem infoV9 : (Tryz.prog.info? 45).map (fun i => (i.zero, i.size, i.bytes)) = some (some .nilIface, 1, 16) := by kernel_rfl
theorem infoS9 : (Tryz.prog.info? 9).map (fun i => (i.zero, i.size, i.bytes)) = some (some (.string ByteArray.empty), 1, 16) := by kernel_rfl
/-- What is gathered, in block wb. -/
structure Wh (W1 wr : World) (f wb : Nat) (kd : Int) (kv it : Value) (ts : List VT) (xs : List Value) (ks : List ByteArray) : Prop where
  blk : wr.heap[wb]? = some (.cells #[.int .i64 kd, kv, it] 132 (0, 0))
  its : Its W1 wr f it kv ts xs ks
  lt : wb < W1.heap.size
theorem Wh.read {W1 wr w2 : World} {f wb rb : Nat} {kd : Int} {kv it : Value} {ts : List VT} {xs : List Value} {ks : List ByteArray} (h : Wh W1 wr f wb kd kv it ts xs ks) (hb : But rb wr w2) (hr : rb < W1.heap.size) (hne : wb ≠ rb) : Wh W1 w2 f wb kd kv it ts xs ks :=
  ⟨(hb.block wb (lt_heap h.blk) hne).trans h.blk, h.its.read hb hr, h.lt⟩
theorem own_grow {wr w2 : World} {base : Nat} {e : TypeId} {size : Nat} {v : Value} {n : Nat} {xs : List Value} (h : wr.ownsRow base e size v n xs) (hb : Below wr.heap.size wr w2) : w2.ownsRow base e size v n xs := own_from h ⟨hb.size, fun c _ h2 => hb.block c h2⟩
/-- What is kept: the blocks below B, but for wb. -/
structure Fr (B wb : Nat) (w w' : World) : Prop where
  os : w'.os = w.os
  tape : w'.tape = w.tape
  output : w'.output = w.output
  size : w.heap.size ≤ w'.heap.size
  block : ∀ c, c < B → c ≠ wb → w'.heap[c]? = w.heap[c]?
theorem Fr.trans {B wb : Nat} {a b c : World} (h : Fr B wb a b) (k : Fr B wb b c) : Fr B wb a c := ⟨k.os.trans h.os, k.tape.trans h.tape, k.output.trans h.output, Nat.le_trans h.size k.size, fun x h1 h2 => (k.block x h1 h2).trans (h.block x h1 h2)⟩
theorem Fr.below {B wb : Nat} {a b : World} (h : Below B a b) : Fr B wb a b := ⟨h.os, h.tape, h.output, h.size, fun x h1 _ => h.block x h1⟩
theorem Fr.set {B wb : Nat} {a : World} (j : Nat) (v : Value) : Fr B wb a (a.setCell ⟨wb, j, none⟩ v) := ⟨rfl, rfl, rfl, by simp, fun x _ h2 => Below.heap_setCell _ _ _ _ h2⟩
theorem Fr.grown {B wb : Nat} {a b : World} {row : Option Nat} (h : a.grownBy b row) (hr : ∀ x, row = some x → B ≤ x) (hB : B ≤ a.heap.size) : Fr B wb a b := ⟨h.os, h.tape, h.output, h.size, fun x h1 _ => h.block x (by omega) (fun e => by have := hr x e.symm; omega)⟩
theorem its_set {W1 wr : World} {f wb : Nat} {it kv : Value} {ts : List VT} {xs : List Value} {ks : List ByteArray} (h : Its W1 wr f it kv ts xs ks) (hl : wb < W1.heap.size) (j : Nat) (v : Value) : Its W1 (wr.setCell ⟨wb, j, none⟩ v) f it kv ts xs ks := h.read (But.of_set (rb := wb) j v) hl
theorem its_drew {W1 wr w2 : World} {f : Nat} {it kv : Value} {ts : List VT} {xs : List Value} {ks : List ByteArray} (h : Its W1 wr f it kv ts xs ks) (hb : Below wr.heap.size wr w2) : Its W1 w2 f it kv ts xs ks := by
  refine ⟨own_grow h.row hb, h.len, own_grow h.krow hb, fun j hj => ?_⟩
  obtain ⟨ty, x, h1, h2⟩ := h.trees j hj
  exact ⟨ty, x, h1, h2.keep (fun b hb' => hb.block b hb'.1.2) (fun b hb' => ⟨⟨hb'.1.1, Nat.lt_of_lt_of_le hb'.1.2 hb.size⟩, hb'.2⟩)⟩

/-- A value more, its tree in blocks that are none of the rows'. -/
theorem its_item {w w2 w5 : World} {P : Nat → Prop} {f : Nat} {it kv v' : Value} {ts : List VT} {xs : List Value} {ks : List ByteArray} {t : VT} {ty : TypeId} {x : Value} {o : Obj} (h : Its w w2 f it kv ts xs ks)
    (hP : ∀ b, P b → w.heap.size ≤ b ∧ b < w2.heap.size ∧ it.ownBlock ≠ some b ∧ kv.ownBlock ≠ some b)
    (ht : TreeP P w2 f t (.iface ty x)) (hown : w5.ownsRow w.heap.size 45 1 v' (ts.length + 1) (xs ++ [.iface ty x])) (hg : (w2.alloc o).grownBy w5 it.ownBlock) (hat : v'.ownBlock = it.ownBlock ∨ v'.ownBlock = some (w2.heap.size + 1)) :
    Its w w5 f v' kv (ts ++ [t]) (xs ++ [.iface ty x]) ks := by
  have hg1 : w2.grownBy w5 it.ownBlock := (World.grownBy_alloc w2 o _).trans hg
  have hz : w2.heap.size ≤ w5.heap.size := hg1.size
  have hv : ∀ b, b < w2.heap.size → it.ownBlock ≠ some b → v'.ownBlock ≠ some b := fun b hb hne e => by
    rcases hat with h1 | h1
    · exact hne (h1 ▸ e)
    · rw [h1] at e
      simp at e
      omega
  refine ⟨by rw [List.length_append]; exact hown, by simp [h.len], h.krow.kept hg1 (own_apart h.krow h.row (by decide)), fun j hj => ?_⟩
  rw [List.length_append, List.length_cons, List.length_nil] at hj
  by_cases e : j < ts.length
  · obtain ⟨ty', x', h1, h2⟩ := h.trees j e
    refine ⟨ty', x', by rw [List.getElem?_append_left (by have := h.len; omega)]; exact h1, ?_⟩
    rw [kid_snoc_old e]
    exact h2.keep (fun b hb' => hg1.block b hb'.1.2 (fun e' => hb'.2.1 e'.symm)) (fun b hb' => ⟨⟨hb'.1.1, Nat.lt_of_lt_of_le hb'.1.2 hz⟩, hv b hb'.1.2 hb'.2.1, hb'.2.2⟩)
  · obtain rfl : j = ts.length := by omega
    refine ⟨ty, x, by rw [List.getElem?_append_right (by have := h.len; omega)]; simp [h.len], ?_⟩
    rw [kid_snoc_last]
    exact ht.keep (fun b hb' => hg1.block b (hP b hb').2.1 (fun e' => (hP b hb').2.2.1 e'.symm)) (fun b hb' => ⟨⟨(hP b hb').1, Nat.lt_of_lt_of_le (hP b hb').2.1 hz⟩, hv b (hP b hb').2.1 (hP b hb').2.2.1, (hP b hb').2.2.2⟩)

set_option maxRecDepth 100000 in
set_option maxHeartbeats 12800000 in
theorem add_yes {W1 wr0 w2 : World} {f wb : Nat} {kd k2 : Int} {kv it : Value} {ts : List VT} {xs : List Value} {ks : List ByteArray} {key rest : ByteArray} {ahead : Int} {t : VT} {ty : TypeId} {xx : Value}
    (h : Wh W1 w2 f wb kd kv it ts xs ks) (hk : ts.length = 0 ∨ k2 = kd) (hl : ks.length = ts.length) (hn : ts.length ≤ 5000) (h10 : W1.heap.size ≤ wr0.heap.size) (h02 : wr0.heap.size ≤ w2.heap.size)
    (hit : ∀ b, it.ownBlock = some b → b < wr0.heap.size) (hkv : ∀ b, kv.ownBlock = some b → b < wr0.heap.size) (ht : TreeP (NewB wr0 w2) w2 f t (.iface ty xx)) :
    Calls Tryz.prog 87 #[.pointer (some ⟨wb, 0, none⟩), .agg #[.int .i64 ahead, .int .i64 k2, .string key, .string rest], .iface ty xx] w2 fun e w' => e = .returned (.tuple #[]) ∧ ∃ kv' it', Wh W1 w' f wb k2 kv' it' (ts ++ [t]) (xs ++ [.iface ty xx]) (ks ++ [key]) ∧ Fr W1.heap.size wb w2 w' := by
  obtain ⟨i1, hi1, hz1, hs1, hy1⟩ := info_parts infoV9
  obtain ⟨j1, hj1, hzj, hsj, hyj⟩ := info_parts infoS9
  have hlt := h.lt
  obtain ⟨ai, ci, ei⟩ := own_slice h.its.row
  obtain ⟨ak, ck, ek⟩ := own_slice h.its.krow
  obtain ⟨n, hlen⟩ : ∃ n, ts.length = n := ⟨_, rfl⟩
  rw [hl, hlen] at ek
  rw [hlen] at ei hn hk
  subst ei ek
  have HLEN := hideIt hlen
  have HKL : Hid (ks.length = n) := by rw [Hid, hl, hlen]
  have HT := hideIt ht
  have HIT := hideIt hit
  have HKV := hideIt hkv
  have hwb2 : wb < w2.heap.size := by omega
  have HH := hideIt h
  have hb23 : Below w2.heap.size w2 (w2.alloc (.cells #[.int .i64 ahead, .int .i64 k2, .string key, .string rest] 128)) := (Below.refl _ _).alloc (Nat.le_refl _) _
  obtain ⟨W3, hW3⟩ : ∃ W3, w2.alloc (.cells #[.int .i64 ahead, .int .i64 k2, .string key, .string rest] 128) = W3 := ⟨_, rfl⟩
  have hz3 : W3.heap.size = w2.heap.size + 1 := by rw [← hW3]; simp
  have hbox : W3.heap[w2.heap.size]? = some (.cells #[.int .i64 ahead, .int .i64 k2, .string key, .string rest] 128 (0, 0)) := by rw [← hW3]; exact heap_alloc_new w2 _
  rw [hW3] at hb23
  have hblk3 : W3.heap[wb]? = some (.cells #[.int .i64 kd, .slice ak n ck, .slice ai n ci] 132 (0, 0)) := (hb23.block wb hwb2).trans h.blk
  have HB23 := hideIt hb23
  have HBOX := hideIt hbox
  have HBLK3 := hideIt hblk3
  have c2 : W3.cell? ⟨wb, 2, none⟩ = some (.slice ai n ci) := cellAt hblk3 rfl
  have c0 : W3.cell? ⟨wb, 0, none⟩ = some (.int .i64 kd) := cellAt hblk3 rfl
  have b1 : W3.cell? ⟨w2.heap.size, 1, none⟩ = some (.int .i64 k2) := cellAt hbox rfl
  have hml : n + 1 ≤ maxLen := by unfold maxLen; omega
  have hby : (n + 1) * 16 ≤ 140737488355328 := by omega
  clear hlen hl ht hit hkv h hb23 hbox hblk3
  go_enter Tryz.func87, Tryz.ntmps87
  go_wp2_with fail
  rcases Nat.eq_zero_or_pos n with hn0 | hn0
  focus
    have hd : decide ((0 : Int) < (n : Int)) = false := by simp; omega
    have hd2 : ¬ ((0 : Int) < (n : Int)) := by omega
    go_quiet (fail)
    clear hn0 hd hd2 hk
  rotate_left
  focus
    have hd : decide ((0 : Int) < (n : Int)) = true := by simp; omega
    have hd2 : ((0 : Int) < (n : Int)) := by omega
    have hkk : k2 = kd := by omega
    have hkn : (k2 != kd) = false := by rw [hkk]; simp
    clear hk hkk
    go_quiet (fail)
    clear hn0 hd hd2 hkn
  all_goals
    have HD4 := hideB (below_drewB (w := W3) nq)
    obtain ⟨W4, hW4⟩ : ∃ W4, W3.drewN nq = W4 := ⟨_, rfl⟩
    rw [hW4] at HD4
    have hz4 : W4.heap.size = W3.heap.size := by rw [← hW4]; simp
    have HBLK4 : Hid (W4.heap[wb]? = _) := (HD4.out.block wb (by omega)).trans HBLK3.out
    have HBOX4 : Hid (W4.heap[w2.heap.size]? = _) := (HD4.out.block _ (by omega)).trans HBOX.out
    have HIT4 := hideIt (its_drew (its_drew HH.out.its HB23.out) HD4.out)
    have HFR4 := hideIt ((Fr.below (wb := wb) ((HB23.out.trans (HD4.out.mono (by omega))).mono (show W1.heap.size ≤ w2.heap.size by omega))))
    have HK4 : Hid (∀ b, wr0.heap.size ≤ b → b < w2.heap.size → W4.heap[b]? = w2.heap[b]?) := fun b _ h2 => (HD4.out.block b (by omega)).trans (HB23.out.block b h2)
    clear c0 c2 b1
    have d0 : W4.cell? ⟨wb, 0, none⟩ = some (.int .i64 kd) := cellAt HBLK4.out rfl
    have e0 := Lib.frozen_of_heap HBLK4.out 0
    have b1 : W4.cell? ⟨w2.heap.size, 1, none⟩ = some (.int .i64 k2) := cellAt HBOX4.out rfl
    rw [hW4]
    clear hW4 nq
    have HBLK5 := hideIt (set_heap (i := 0) HBLK4.out (.int .i64 k2))
    have HIT5 := hideIt (its_set HIT4.out hlt 0 (.int .i64 k2))
    have HFR5 := hideIt (HFR4.out.trans (Fr.set (B := W1.heap.size) 0 (.int .i64 k2)))
    have HBOX5 : Hid ((W4.setCell ⟨wb, 0, none⟩ (.int .i64 k2)).heap[w2.heap.size]? = _) := (Below.heap_setCell _ _ _ _ (by show w2.heap.size ≠ wb; omega)).trans HBOX4.out
    have HK5 : Hid (∀ b, wr0.heap.size ≤ b → b < w2.heap.size → (W4.setCell ⟨wb, 0, none⟩ (.int .i64 k2)).heap[b]? = w2.heap[b]?) := fun b h1 h2 => (Below.heap_setCell _ _ _ _ (by show b ≠ wb; omega)).trans (HK4.out b h1 h2)
    have hz5 : (W4.setCell ⟨wb, 0, none⟩ (.int .i64 k2)).heap.size = w2.heap.size + 1 := by simp; omega
    go_wp2_with fail
    obtain ⟨W5, hW5⟩ : ∃ W5, W4.setCell ⟨wb, 0, none⟩ (.int .i64 k2) = W5 := ⟨_, rfl⟩
    rw [hW5] at HBLK5 HIT5 HFR5 HBOX5 HK5 hz5 ⊢
    have HZ5 := hideIt hz5
    have hz5' : w2.heap.size < W5.heap.size := by omega
    clear hz5 hW3
    clear d0 e0 b1 hW5 HBLK4 HBOX4 HIT4 HFR4 HK4 HD4 HBLK3 HBOX HH HB23 hz4 hz3
    have q1 : W5.cell? ⟨wb, 1, none⟩ = some (.slice ak n ck) := cellAt HBLK5.out rfl
    have k2' : W5.cell? ⟨w2.heap.size, 2, none⟩ = some (.string key) := cellAt HBOX5.out rfl
    have fq := Lib.frozen_of_heap HBLK5.out 1
    have hql : wb < W5.heap.size := by omega
    have HKR5 : Hid (W5.ownsRow W1.heap.size 9 1 (.slice ak n ck) n (ks.map Value.string)) := by have := HIT5.out.krow; rw [HKL.out] at this; exact this
    have HRK : Hid ((W5.drew.alloc (.cells #[.string key] 9)).ownsRow W1.heap.size 9 1 (.slice ak n ck) n (ks.map Value.string)) := own_below HKR5.out (((Below.refl W5.heap.size W5).drew).alloc (Nat.le_refl _) _) (fun x hx => (HKR5.out.lt x hx).2)
    have HNW : Hid (∀ j u, [Value.string key][j]? = some u → (W5.drew.alloc (.cells #[.string key] 9)).cell? ((⟨W5.heap.size, 0, none⟩ : Addr).add j) = some u) := World.news_of_block (cs := #[.string key]) (t := 9) (fr := (0, 0)) (heap_alloc_new W5.drew _)
    have hone : ∀ u ∈ [Value.string key], u.oneCell' = true := fun u hu => by simp at hu; subst hu; rfl
    have hbs : W1.heap.size ≤ (W5.drew.alloc (.cells #[.string key] 9)).heap.size := by simp; omega
    have htop : (W5.drew.alloc (.cells #[.string key] 9)).heap.size = W5.heap.size + 1 := by simp
    have HQK : Hid ((Value.slice ak n ck).ownBlock ≠ some wb) := fun e => by have := (HKR5.out.lt _ e).1; omega
    have x0 : (W5.drew.alloc (.cells #[.string key] 9)).cell? ⟨wb, 1, none⟩ = some (.slice ak n ck) := cell_more q1 hql _
    have HX0 := hideIt x0
    have HF0 : Hid ((W5.drew.alloc (.cells #[.string key] 9)).frozen? ⟨wb, 1, none⟩ = false) := (((Below.refl W5.heap.size W5).drew.alloc (Nat.le_refl _) _).frozen (p := ⟨wb, 1, none⟩) hql).trans fq
    clear x0
    go_region_law
      (refine step_append_lies _ (by rfl) _ _ _ (by rfl) W1.heap.size 9 j1 (.string ByteArray.empty) 1 16 Tryz.underlying70 hj1 hzj hsj hyj rfl (by omega) (.slice ak n ck) n (ks.map Value.string) (by rfl) HRK.out ⟨W5.heap.size, 0, none⟩ 1 1 [.string key] (by rfl) (by rfl) HNW.out hone (by omega) hml hby hbs (W5.heap.size + 1) htop ?_; intro g5 cap5 w5 hown hgrow hat hlt5; have hS3 : w5.cell? ⟨wb, 1, none⟩ = some (.slice ak n ck) := (World.grownBy.cell_far hgrow ⟨wb, 1, none⟩ (by simp; omega) (Ne.symm HQK.out)).trans HX0.out; have hf3 : w5.frozen? ⟨wb, 1, none⟩ = false := (World.grownBy.frozen_far hgrow ⟨wb, 1, none⟩ (by simp; omega) (Ne.symm HQK.out)).trans HF0.out)
    all_goals
      have HD5 : Hid (Below W5.heap.size W5 W5.drew) := (Below.refl _ _).drew
      have HG5 : Hid ((W5.drew.alloc (.cells #[.string key] 9)).grownBy w5 (Value.slice ak n ck).ownBlock) := hgrow
      have HITK := hideIt ((its_drew HIT5.out HD5.out).key (s := key) (v' := .slice (some ⟨g5, 0, none⟩) (n + 1) cap5) (by rw [HKL.out]; exact hown) HG5.out (by rcases hat with e | e; exact .inl e.symm; exact .inr (by rw [e]; rfl)))
      have hga := (World.grownBy_alloc W5.drew (.cells #[.string key] 9) (Value.slice ak n ck).ownBlock).trans HG5.out
      have hz6 : W5.heap.size ≤ w5.heap.size := hga.size
      have HFR6 := hideIt ((HFR5.out.trans (Fr.below (HD5.out.mono (show W1.heap.size ≤ W5.heap.size by omega)))).trans (Fr.grown hga (fun x hx => (HKR5.out.lt x hx).1) (show W1.heap.size ≤ W5.drew.heap.size by show W1.heap.size ≤ W5.heap.size; omega)))
      have HBLK6 : Hid (w5.heap[wb]? = _) := (hga.block wb (show wb < W5.drew.heap.size from hql) (Ne.symm HQK.out)).trans ((HD5.out.block wb hql).trans HBLK5.out)
      have HK6 : Hid (∀ b, wr0.heap.size ≤ b → b < w2.heap.size → w5.heap[b]? = w2.heap[b]?) := fun b h1 h2 => (hga.block b (show b < W5.drew.heap.size by show b < W5.heap.size; omega) (fun e => by have := HKV.out b e.symm; omega)).trans ((HD5.out.block b (by omega)).trans (HK5.out b h1 h2))
      have HKB : Hid (∀ b, (Value.slice (some ⟨g5, 0, none⟩) (n + 1) cap5).ownBlock = some b → b < wr0.heap.size ∨ w2.heap.size ≤ b) := fun b hb => by
        have hb' : g5 = b := by simpa [Value.ownBlock] using hb
        subst hb'
        rcases hat with e | e
        · exact .inl (HKV.out _ e)
        · exact .inr (by omega)
      clear hga HG5 hgrow hown hat hlt5 HRK HNW hone hbs htop HX0 HF0 q1 k2' fq
      have HBLK7 := hideIt (set_heap (i := 1) HBLK6.out (.slice (some ⟨g5, 0, none⟩) (n + 1) cap5))
      have HIT7 := hideIt (its_set HITK.out hlt 1 (.slice (some ⟨g5, 0, none⟩) (n + 1) cap5))
      have HFR7 := hideIt (HFR6.out.trans (Fr.set (B := W1.heap.size) 1 (.slice (some ⟨g5, 0, none⟩) (n + 1) cap5)))
      have HK7 : Hid (∀ b, wr0.heap.size ≤ b → b < w2.heap.size → (w5.setCell ⟨wb, 1, none⟩ (.slice (some ⟨g5, 0, none⟩) (n + 1) cap5)).heap[b]? = w2.heap[b]?) := fun b h1 h2 => (Below.heap_setCell _ _ _ _ (by show b ≠ wb; omega)).trans (HK6.out b h1 h2)
      have hz7 : W5.heap.size ≤ (w5.setCell ⟨wb, 1, none⟩ (.slice (some ⟨g5, 0, none⟩) (n + 1) cap5)).heap.size := by simpa using hz6
      have m2 : w5.cell? ⟨wb, 2, none⟩ = some (.slice ai n ci) := cellAt HBLK6.out rfl
      have HROW7 : Hid ((w5.setCell ⟨wb, 1, none⟩ (.slice (some ⟨g5, 0, none⟩) (n + 1) cap5)).ownsRow W1.heap.size 45 1 (.slice ai n ci) n xs) := by have := HIT7.out.row; rw [HLEN.out] at this; exact this
      have hw5z : W1.heap.size ≤ w5.heap.size := by omega
      go_wp2_with (at_builtin; refine wpList_append_own_at _ rfl _ _ 54 rfl W1.heap.size 45 i1 .nilIface 1 16 Tryz.underlying54 hi1 hz1 hs1 hy1 rfl (by decide) _ _ _ rfl (HROW7.out.alloc _) ⟨w5.heap.size, 0, none⟩ 1 1 [.iface ty xx] rfl rfl ?_ ?_ ?_ ?_ ?_ ?_)
      · simpa using World.news_of_block (cs := #[.iface ty xx]) (t := 45) (fr := (0, 0)) (heap_alloc_new (w5.setCell ⟨wb, 1, none⟩ (.slice (some ⟨g5, 0, none⟩) (n + 1) cap5)) _)
      · intro u hu; simp at hu; subst hu; rfl
      · exact hml
      · exact hby
      · simp; omega
      intro v6 w9 hown hgrow _ hat
      obtain ⟨a6, c6, e6⟩ := own_slice hown
      subst e6
      obtain ⟨W8, hW8⟩ : ∃ W8, w5.setCell ⟨wb, 1, none⟩ (.slice (some ⟨g5, 0, none⟩) (n + 1) cap5) = W8 := ⟨_, rfl⟩
      rw [hW8] at HBLK7 HIT7 HFR7 HK7 hz7 hgrow
      have hz8 : W8.heap.size = w5.heap.size := by rw [← hW8]; simp
      have HIT9 := hideIt (its_item (P := NewB wr0 w2) HIT7.out (fun b hb' => ⟨Nat.le_trans h10 hb'.1, by have := hb'.2; omega, fun e => by have := HIT.out b e; have := hb'.1; omega, fun e => by have := HKB.out b e; have := hb'.1; have := hb'.2; omega⟩)
        (HT.out.keep (fun b hb' => HK7.out b hb'.1 hb'.2) (fun b hb' => hb')) (by rw [HLEN.out]; exact hown) hgrow (by rw [hz8]; exact hat))
      have hga := (World.grownBy_alloc W8 (.cells #[.iface ty xx] 45) (Value.slice ai n ci).ownBlock).trans hgrow
      have HQI : Hid ((Value.slice ai n ci).ownBlock ≠ some wb) := fun e => by have := (HROW7.out.lt _ e).1; omega
      have HFR9 := hideIt (HFR7.out.trans (Fr.grown hga (fun x hx => (HROW7.out.lt x hx).1) (show W1.heap.size ≤ W8.heap.size by omega)))
      have HBLK9 : Hid (w9.heap[wb]? = _) := (hga.block wb (show wb < W8.heap.size by omega) (Ne.symm HQI.out)).trans HBLK7.out
      have c9 : w9.cell? ⟨wb, 2, none⟩ = some (.slice ai n ci) := cellAt HBLK9.out rfl
      have f9 := Lib.frozen_of_heap HBLK9.out 2
      clear hown hgrow hat hga hW8 HIT7 HFR7 HK7 HBLK7 HROW7 m2 hS3 hf3
      go_wp2_with fail
      go_end0
      exact ⟨rfl, _, _, ⟨by rw [set_heap HBLK9.out]; rfl, its_set HIT9.out hlt 2 _, hlt⟩, HFR9.out.trans (Fr.set (B := W1.heap.size) 2 _)⟩
end Go.Proofs.YtiamkmkbkehldaaGreatDoor

/-
  The program's YAML: the list or map when all lines are read.
-/
namespace Go.Proofs.YtiamkmkbkehldaaGreatDoor
open Go.RowKit
set_option linter.unusedSimpArgs false
set_option linter.unusedVariables false

set_option maxRecDepth 100000 in
set_option maxHeartbeats 3200000 in
theorem value_list {W1 wr : World} {f wb : Nat} {kv it : Value} {ts : List VT} {xs : List Value} {ks : List ByteArray} (h : Wh W1 wr f wb 5 kv it ts xs ks) (hn : ts.length ≤ 5000) :
    Calls Tryz.prog 89 #[.pointer (some ⟨wb, 0, none⟩)] wr fun e w' => ∃ ty x, e = .returned (.iface ty x) ∧ TreeP (NewB W1 w') w' (f + 1) (listT ts) (.iface ty x) ∧ Below wr.heap.size wr w' := by
  obtain ⟨ai, ci, ei⟩ := own_slice h.its.row
  obtain ⟨n, hlen⟩ : ∃ n, ts.length = n := ⟨_, rfl⟩
  rw [hlen] at ei
  subst ei
  have HL := hideIt (h.its.list (by omega))
  have c0 : wr.cell? ⟨wb, 0, none⟩ = some (.int .i64 5) := cellAt h.blk rfl
  have c2 : wr.cell? ⟨wb, 2, none⟩ = some (.slice ai n ci) := cellAt h.blk rfl
  clear h hlen
  go_enter Tryz.func89, Tryz.ntmps89
  go_wp2_with fail
  go_ret
  exact ⟨_, _, rfl, HL.out, Below.refl _ _⟩
theorem call_sortedY (a b : Value) (w : World) : (callFunc 150 #[a, b]).run Tryz.prog w = .ok (.enter 150 #[a, b]) w := by kernel_rfl

set_option maxRecDepth 100000 in
set_option maxHeartbeats 6400000 in
theorem value_map {W1 wr : World} {f wb : Nat} {kv it : Value} {ts : List VT} {xs : List Value} {ks : List ByteArray} (h : Wh W1 wr f wb 6 kv it ts xs ks) (hn : ts.length ≤ 5000) (hl : ks.length = ts.length) (hz : ∀ i, i < ks.length → (keyAt ks i).size ≤ 4000) (hw : W1.heap.size ≤ wr.heap.size) :
    Calls Tryz.prog 89 #[.pointer (some ⟨wb, 0, none⟩)] wr fun e w' => ∃ ty x, e = .returned (.iface ty x) ∧ TreeP (NewB W1 w') w' (f + 1) (mapT ks ts) (.iface ty x) ∧ Below wr.heap.size wr w' := by
  obtain ⟨ai, ci, ei⟩ := own_slice h.its.row
  obtain ⟨ak, ck, ek⟩ := own_slice h.its.krow
  obtain ⟨n, hlen⟩ : ∃ n, ts.length = n := ⟨_, rfl⟩
  have c0 : wr.cell? ⟨wb, 0, none⟩ = some (.int .i64 6) := cellAt h.blk rfl
  rw [hl, hlen] at ek
  rw [hlen] at ei
  subst ei ek
  have c1 : wr.cell? ⟨wb, 1, none⟩ = some (.slice ak n ck) := cellAt h.blk rfl
  have c2 : wr.cell? ⟨wb, 2, none⟩ = some (.slice ai n ci) := cellAt h.blk rfl
  have HID : Hid (Its W1 wr.drew f (.slice ai n ci) (.slice ak n ck) ts xs ks) := its_drew h.its ((Below.refl _ _).drew)
  have HBD : Hid (Below wr.heap.size wr wr.drew) := (Below.refl _ _).drew
  have HST := hideIt (HID.out.strs (by omega) (fun i hi => by have := hz i hi; omega))
  have HI : Hid (ItsAt wr.drew (.slice ai n ci) ks.length (fun j => xs.getD j .nilIface)) := by have := HID.out.its; rw [hl]; exact this
  have HSM := hideIt (sortedMap_any wr.drew.heap.size _ _ ks _ wr.drew HST.out HI.out (Nat.le_refl _) (by omega))
  have HMP : Hid (∀ (w' : World) (g : Nat → Int) (k2 i2 : Value), Blk (RK ks) (fun p => (p : Int)) g 0 ks.length → w'.ownsRow wr.drew.heap.size 9 1 k2 ks.length (keysTo ks g ks.length) → w'.ownsRow wr.drew.heap.size 45 1 i2 ks.length (itemsTo (fun j => xs.getD j .nilIface) g ks.length) → Below wr.drew.heap.size wr.drew w' → TreeP (NewB W1 w') w' (f + 1) (mapT ks ts) (.iface 119 (.agg #[k2, i2]))) :=
    fun w' g k2 i2 a b c d => HID.out.map hl (show W1.heap.size ≤ wr.drew.heap.size from hw) (by omega) (fun i hi => by have := hz i hi; omega) a b c d
  clear h hlen hl hz hn HST HI
  go_enter Tryz.func89, Tryz.ntmps89
  go_wp2_with fail
  go_region_law (refine step_call2 (by rfl) 150 _ _ _ _ (by rfl) (.slice ak n ck) (.slice ai n ci) (by rfl) (by rfl) (call_sortedY _ _) HSM.out ?_; rintro e w1 ⟨g, k2, i2, rfl, hg, hok, hoi, hb2⟩; refine ⟨_, rfl, ?_⟩)
  all_goals
    have HT1 := hideIt (HMP.out w1 g k2 i2 hg hok hoi hb2)
    have HB1 := hideIt (HBD.out.trans hb2)
    clear hg hok hoi hb2
    go_wp2_with fail
    go_ret
    exact ⟨_, _, rfl, HT1.out, HB1.out⟩
end Go.Proofs.YtiamkmkbkehldaaGreatDoor

/-
  Plain: rows of YAML's lines one by one; how long they are.
-/
namespace Go.Proofs.YtiamkmkbkehldaaGreatDoor
open Go.RowKit
set_option linter.unusedSimpArgs false
set_option linter.unusedVariables false

theorem rowsY_suffix : ∀ {f ahead : Nat} {xs : List YL} {l : List (Int × List UInt8 × VT)} {z : List YL}, rowsY f ahead xs = some (l, z) → ∃ k, k ≤ xs.length ∧ z = xs.drop k := by
  intro f
  induction f with
  | zero => intro ahead xs l z h; cases h
  | succ f ih =>
    intro ahead xs l z h
    cases xs with
    | nil => simp [rowsY] at h; exact ⟨0, Nat.le_refl _, by rw [h.2]; rfl⟩
    | cons x r =>
      rw [rowsY] at h
      split at h
      · have key : ∀ (o : Option (VT × List YL)), (∀ t z, o = some (t, z) → ∃ k, k ≤ r.length ∧ z = r.drop k) → (match o with | none => none | some (t, z) => match rowsY f ahead z with | none => none | some (l, z2) => some ((x.kind, x.key, t) :: l, z2)) = some (l, z) → ∃ k, k ≤ (x :: r).length ∧ z = (x :: r).drop k := by
          intro o ho h
          cases o with
          | none => cases h
          | some y =>
            obtain ⟨t, z1⟩ := y
            obtain ⟨k, hk, rfl⟩ := ho t z1 rfl
            simp only at h
            cases e : rowsY f ahead (r.drop k) with
            | none => simp [e] at h
            | some w =>
              obtain ⟨l2, z2⟩ := w
              simp only [e, Option.some.injEq, Prod.mk.injEq] at h
              obtain ⟨rfl, rfl⟩ := h
              obtain ⟨k2, hk2, rfl⟩ := ih e
              rw [List.length_drop] at hk2
              exact ⟨k + k2 + 1, by rw [List.length_cons]; omega, by rw [List.drop_succ_cons, List.drop_drop]⟩
        refine key _ ?_ h
        intro t z1 e
        split at e
        · cases e2 : rowsY f (ahead + 2) r with
          | none => simp [e2] at e
          | some w =>
            obtain ⟨l2, z2⟩ := w
            simp only [e2] at e
            cases e3 : wholeV l2 with
            | none => simp [e3] at e
            | some t2 =>
              simp only [e3, Option.some.injEq, Prod.mk.injEq] at e
              obtain ⟨rfl, rfl⟩ := e
              exact ih e2
        · split at e
          · cases e3 : shortY (x.rest.drop 1) with
            | none => simp only [e3] at e; cases e
            | some t2 =>
              simp only [e3, Option.some.injEq, Prod.mk.injEq] at e
              obtain ⟨rfl, rfl⟩ := e
              exact ⟨0, Nat.zero_le _, rfl⟩
          · cases e
      · simp only [Option.some.injEq, Prod.mk.injEq] at h
        obtain ⟨rfl, rfl⟩ := h
        exact ⟨0, Nat.zero_le _, rfl⟩
theorem partM_suffix {ahead : Nat} {x : YL} {r z : List YL} {t : VT} (h : partM ahead x r = some (t, z)) : ∃ k, k ≤ r.length ∧ z = r.drop k := by
  unfold partM at h
  split at h
  · unfold blockM at h
    cases e2 : rowsM (ahead + 2) r with
    | none => simp [e2] at h
    | some w =>
      obtain ⟨l2, z2⟩ := w
      simp only [e2] at h
      cases e3 : wholeV l2 with
      | none => simp [e3] at h
      | some t2 =>
        simp only [e3, Option.some.injEq, Prod.mk.injEq] at h
        obtain ⟨rfl, rfl⟩ := h
        exact rowsY_suffix e2
  · split at h
    · cases e3 : shortY (x.rest.drop 1) with
      | none => simp only [e3] at h; cases h
      | some t2 =>
        simp only [e3, Option.some.injEq, Prod.mk.injEq] at h
        obtain ⟨rfl, rfl⟩ := h
        exact ⟨0, Nat.zero_le _, rfl⟩
    · cases h
theorem lines_at {ls : List YL} {q : Nat} (h : q < ls.length) : ls.drop q = ls[q] :: ls.drop (q + 1) := List.drop_eq_getElem_cons h
/-- What a row says of its kinds. -/
theorem whole_kind {l : List (Int × List UInt8 × VT)} {t : VT} (h : wholeV l = some t) : l ≠ [] ∧ ∃ k, (∀ y ∈ l, y.1 = k) ∧ ((k = 5 ∧ t = listT (l.map (fun y => y.2.2))) ∨ (k = 6 ∧ t = mapT (l.map (fun y => txt y.2.1)) (l.map (fun y => y.2.2)))) := by
  cases l with
  | nil => cases h
  | cons x l =>
    refine ⟨by simp, x.1, ?_, ?_⟩
    · rw [wholeV] at h
      split at h
      · rename_i hall
        intro y hy
        rcases List.mem_cons.1 hy with rfl | hy
        · rfl
        · exact hall y hy
      · cases h
    · rw [wholeV] at h
      split at h
      · split at h
        · rename_i h5
          exact .inl ⟨h5, (Option.some.inj h).symm⟩
        · split at h
          · rename_i h6
            exact .inr ⟨h6, (Option.some.inj h).symm⟩
          · cases h
      · cases h
theorem lineY_small {T : List UInt8} {k : Int} {key rest : List UInt8} (h : lineY T = some (k, key, rest)) : key.length ≤ T.length ∧ rest.length ≤ T.length := by
  unfold lineY at h
  split at h
  · simp only [Option.some.injEq, Prod.mk.injEq] at h
    obtain ⟨rfl, rfl, rfl⟩ := h
    simp
  · split at h
    · cases et : txJ T 1 with
      | none => simp [et] at h
      | some y =>
        obtain ⟨l, q⟩ := y
        simp only [et] at h
        obtain ⟨x1, x2, x3, _⟩ := txJ_says _ _ _ _ (Nat.le_refl _) et
        split at h
        · simp only [Option.some.injEq, Prod.mk.injEq] at h
          obtain ⟨rfl, rfl, rfl⟩ := h
          refine ⟨by omega, ?_⟩
          rw [List.length_drop]; omega
        · simp only [Option.some.injEq, Prod.mk.injEq] at h
          obtain ⟨rfl, rfl, rfl⟩ := h
          simp
    · split at h
      · simp only [Option.some.injEq, Prod.mk.injEq] at h
        obtain ⟨rfl, rfl, rfl⟩ := h
        simp
      · split at h
        · simp only [Option.some.injEq, Prod.mk.injEq] at h
          obtain ⟨rfl, rfl, rfl⟩ := h
          have h1 := (List.takeWhile_sublist (p := (· != (58 : UInt8))) (l := T)).length_le
          have h2 := (List.dropWhile_sublist (p := (· != (58 : UInt8))) (l := T)).length_le
          refine ⟨h1, ?_⟩
          rw [List.length_drop]; omega
        · cases h
/-- How long lines are. -/
def SmallY (N : Nat) (ls : List YL) : Prop := ls.length ≤ N ∧ ∀ x ∈ ls, x.ahead ≤ N ∧ x.key.length ≤ N ∧ x.rest.length ≤ N
theorem ylOf_small {N : Nat} : ∀ {xs : List (List UInt8)} {ls : List YL}, ylOf xs = some ls → (∀ l ∈ xs, l.length ≤ N) → ls.length ≤ xs.length ∧ ∀ x ∈ ls, x.ahead ≤ N ∧ x.key.length ≤ N ∧ x.rest.length ≤ N := by
  intro xs
  induction xs with
  | nil => intro ls h _; simp [ylOf] at h; subst h; simp
  | cons l r ih =>
    intro ls h hN
    have hr : ∀ l ∈ r, l.length ≤ N := fun a ha => hN a (by simp [ha])
    have hl := hN l (by simp)
    rw [ylOf] at h
    split at h
    · obtain ⟨a, b⟩ := ih h hr
      exact ⟨by rw [List.length_cons]; omega, b⟩
    · cases e : lineY (saidY l) with
      | none => simp [e] at h
      | some y =>
        obtain ⟨k, key, rest⟩ := y
        simp only [e] at h
        cases e2 : ylOf r with
        | none => simp [e2] at h
        | some z =>
          simp only [e2, Option.some.injEq] at h
          subst h
          obtain ⟨a, b⟩ := ih e2 hr
          have hs : (saidY l).length ≤ l.length := by unfold saidY Lib.trimLeftB; exact (List.dropWhile_sublist _).length_le
          obtain ⟨s1, s2⟩ := lineY_small e
          refine ⟨by rw [List.length_cons, List.length_cons]; omega, fun x hx => ?_⟩
          rcases List.mem_cons.1 hx with rfl | hx
          · exact ⟨by show l.length - _ ≤ N; omega, by show key.length ≤ N; omega, by show rest.length ≤ N; omega⟩
          · exact b x hx
theorem linesG_small : ∀ {s acc : List UInt8} {xs : List (List UInt8)}, linesG acc s = some xs → xs.length ≤ s.length ∧ ∀ l ∈ xs, l.length ≤ acc.length + s.length := by
  intro s
  induction s with
  | nil =>
    intro acc xs h
    rw [linesG] at h
    split at h
    · simp at h; subst h; simp
    · cases h
  | cons c r ih =>
    intro acc xs h
    rw [linesG] at h
    split at h
    · cases e : linesG [] r with
      | none => simp [e] at h
      | some y =>
        simp only [e, Option.some.injEq] at h
        subst h
        obtain ⟨a, b⟩ := ih e
        refine ⟨by rw [List.length_cons, List.length_cons]; omega, fun l hl => ?_⟩
        rcases List.mem_cons.1 hl with rfl | hl
        · omega
        · have := b l hl
          rw [List.length_nil] at this
          rw [List.length_cons]; omega
    · obtain ⟨a, b⟩ := ih h
      refine ⟨by rw [List.length_cons]; omega, fun l hl => ?_⟩
      have := b l hl
      rw [List.length_append] at this
      simp only [List.length_cons, List.length_nil] at this ⊢
      omega
theorem linesY_small {s : List UInt8} {ls : List YL} (h : linesY s = some ls) : SmallY s.length ls := by
  unfold linesY at h
  cases e : linesG [] s with
  | none => simp [e] at h
  | some xs =>
    simp only [e] at h
    obtain ⟨a, b⟩ := linesG_small e
    obtain ⟨c, d⟩ := ylOf_small (N := s.length) h (fun l hl => by have := b l hl; rw [List.length_nil] at this; omega)
    exact ⟨by omega, d⟩
/-- What is read so far, ahead of what is read next. -/
def aheadR (acc : List (Int × List UInt8 × VT)) : Option (List (Int × List UInt8 × VT) × List YL) → Option (List (Int × List UInt8 × VT) × List YL)
  | none => none
  | some (l, z) => some (acc ++ l, z)
theorem aheadR_nil (o : Option (List (Int × List UInt8 × VT) × List YL)) : aheadR [] o = o := by cases o <;> rfl
theorem rows_step {ahead q : Nat} {ls : List YL} (h : q < ls.length) (ha : ls[q].ahead = ahead) {acc : List (Int × List UInt8 × VT)} {t : VT} {z : List YL} (hp : partM ahead ls[q] (ls.drop (q + 1)) = some (t, z)) :
    aheadR acc (rowsM ahead (ls.drop q)) = aheadR (acc ++ [(ls[q].kind, ls[q].key, t)]) (rowsM ahead z) := by
  rw [lines_at h, rowsM_on ha, hp]
  simp only
  cases e : rowsM ahead z with
  | none => rfl
  | some y =>
    obtain ⟨l, z2⟩ := y
    simp [aheadR]
end Go.Proofs.YtiamkmkbkehldaaGreatDoor
