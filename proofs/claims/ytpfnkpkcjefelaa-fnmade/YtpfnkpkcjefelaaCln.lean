/-
  slices.Clone of texts: a row of one's own.
-/
import Derived.Test.YtpfnkpkcjefelaaSPart
import Derived.Test.YtpfnkpkcjefelaaStbA
import Derived.Lib.SliceRun
namespace Go.Proofs.Ytpfnkpkcjefelaa
open Go.RowKit
set_option linter.unusedSimpArgs false
set_option linter.unusedVariables false

theorem infoStr2 : (Try.prog.info? 9).map (fun i => (i.zero, i.size, i.bytes)) = some (some (.string ByteArray.empty), 1, 16) := by kernel_rfl

set_option maxRecDepth 100000 in
set_option maxHeartbeats 1600000 in
theorem cloneStr_any (B : Nat) (v : Value) (l : List ByteArray) (w : World) (h : StrsAt B w v l) (hB : B ≤ w.heap.size) :
    Calls Try.prog 118 #[v] w fun e w' => ∃ r, e = .returned r ∧ w'.ownsRow w.heap.size 9 1 r l.length (l.map .string) ∧ Below w.heap.size w w' := by
  obtain ⟨hl, _, a, cap, rfl, hc⟩ := h
  have HC := hideIt hc
  clear hc
  obtain ⟨i1, hi1, hz1, hs1, hy1⟩ := info_parts infoStr2
  cases a with
  | none =>
    have h0 : l.length = 0 := by
      rcases Nat.eq_zero_or_pos l.length with e | e
      · exact e
      · obtain ⟨b, o, e2, _⟩ := HC.out e
        cases e2
    obtain rfl : l = [] := List.eq_nil_of_length_eq_zero h0
    clear HC h0
    have hnil := fun w => Lib.run_eql_slice_nil (P := Try.prog) w 38 9 none 0 cap 0 0 Try.underlying38
    go_enter Try.func118, Try.ntmps118
    go_wp2_with fail
    go_ret
    exact ⟨.slice none 0 0, rfl, World.ownsRow_nil _ _ _ _, Below.refl _ _⟩
  | some ad =>
    have HOWN : Hid ((w.alloc (.cells #[] 9)).ownsRow w.heap.size 9 1 (.slice (some ⟨w.heap.size, 0, none⟩) 0 0) 0 []) := by
      have := World.ownsRow_lit (base := w.heap.size) (e := 9) (size := 1) w #[] 0 (Nat.le_refl _) (by simp [maxLen]) rfl
      simpa [Hid] using this
    have hw1 : Below w.heap.size w (w.alloc (.cells #[] 9)) := (Below.refl _ _).alloc (Nat.le_refl _) _
    have HSRC : Hid (0 < l.length → ∃ ad', some ad = some ad' ∧ ∀ j u, (l.map Value.string)[j]? = some u → (w.alloc (.cells #[] 9)).cell? (ad'.add j) = some u) := by
      intro hp
      obtain ⟨bk, ok, e, hbk, hck⟩ := HC.out hp
      refine ⟨ad, rfl, fun j u hj => ?_⟩
      obtain rfl : ad = ⟨bk, ok, none⟩ := by simpa using e
      have hj' : j < l.length := by have := (List.getElem?_eq_some_iff.1 hj).1; simpa using this
      rw [show (⟨bk, ok, none⟩ : Addr).add j = ⟨bk, ok + j, none⟩ by simp [Addr.add], below_cell hw1 (by omega), hck j hj']
      simp [hj', keyAt] at hj ⊢
      exact hj
    have HW1 := hideIt hw1
    clear hw1
    have hnil := fun w => Lib.run_eql_slice_nil (P := Try.prog) w 38 9 (some ad) l.length cap 0 0 Try.underlying38
    go_enter Try.func118, Try.ntmps118
    go_wp2_with (at_builtin; refine wpList_append_src rfl _ _ 38 rfl w.heap.size 9 i1 (.string ByteArray.empty) 1 16 Try.underlying38 hi1 hz1 hs1 hy1 rfl (by decide) _ 0 [] rfl HOWN.out (some ad) l.length cap (l.map .string) rfl (by simp) HSRC.out ?c2 ?c3 ?c4 ?c5 ?_)
    case c2 => intro u hu; obtain ⟨q, _, rfl⟩ := List.mem_map.1 hu; rfl
    case c3 => unfold maxLen; omega
    case c4 => omega
    case c5 => simp
    intro v' w2 hk2 hg2 hat2
    (try simp only [Nat.zero_add, List.nil_append] at hk2)
    have hb2 : Below w.heap.size w w2 := HW1.out.grown hg2 (by simp) (fun r hr => by simp [Value.ownBlock] at hr; omega)
    obtain ⟨ar, cr, er⟩ := own_slice hk2
    subst er
    clear hg2 hat2
    go_wp2_with fail
    go_ret
    exact ⟨_, rfl, hk2, hb2⟩
end Go.Proofs.Ytpfnkpkcjefelaa
