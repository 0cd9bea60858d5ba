/-
  (*impl.treePart).lay: a part laid where it stands.
-/
import Derived.Test.YtpakfgonemiebaaUIn4
import Derived.Test.YtpakfgonemiebaaSWh
import Derived.Test.YtpakfgonemiebaaSortP
namespace Go.Proofs.Ytpakfgonemiebaa
open Go.RowKit
set_option linter.unusedSimpArgs false
set_option linter.unusedVariables false

theorem alloc_block (w : World) (o : Obj) : (w.alloc o).heap[w.heap.size]? = some o := by show (w.heap.push o)[w.heap.size]? = some o; simp
theorem alloc_drew (w : World) (o : Obj) : (w.drew.alloc o).heap[w.heap.size]? = some o := alloc_block w.drew o
theorem size_drew (w : World) (o : Obj) : (w.drew.alloc o).heap.size = w.heap.size + 1 := by rw [World.size_alloc]; rfl
theorem step_call3 {P : Program} {w : World} {ops : Array Oper} {o : Oper} {a : Act} {K : Act → World → Prop} {Q : Exit → Act → World → Prop} {E : Prop} (hw : Region.wanted o (yielded ops a.tmps) = true) (F : FuncId) (x1 x2 x3 : Operand) (T1 T2 T3 : TypeId)
    (ho : o.op = .call { callee := .value (.func F), args := #[x1, x2, x3], argTypes := #[T1, T2, T3] }) (v1 v2 v3 : Value) (h1 : a.eval x1 = v1) (h2 : a.eval x2 = v2) (h3 : a.eval x3 = v3) (hcf : ∀ w, (callFunc F #[v1, v2, v3]).run P w = .ok (.enter F #[v1, v2, v3]) w) {R : Ending → World → Prop} (hc : Calls P F #[v1, v2, v3] w R)
    (h : ∀ e w', R e w' → ∃ u, e = .returned u ∧ K (a.put o.dst u) w') :
    if Region.wanted o (yielded ops a.tmps) = true then Oper.wp P o a w K Q else E := by
  rw [if_pos hw]
  unfold Oper.wp execOp
  have e1 : a.eval (.func F) = .func (.func F) #[] #[] := rfl
  simp [ho, resolve, invoke, h1, h2, h3, e1, Deferred.ofValue, hcf, Result.andThen, Oper.upon_enter]
  refine hc.mono fun e w' hr => ?_
  obtain ⟨u, rfl, hk⟩ := h e w' hr
  exact hk
theorem PT.readW {B : Nat} {w w' : World} : ∀ {f : Nat} {t : VT} {lo hi X : Nat} {v : Value}, PT B w f t lo hi v → hi ≤ X → (∀ k, lo ≤ k → k < hi → w'.heap[k]? = w.heap[k]?) → PR X w' f t v := by
  intro f
  induction f with
  | zero => intro t lo hi X v h; exact h.elim
  | succ f ih =>
    intro t lo hi X v h hX hsame
    obtain ⟨kind, n, s, keys, kids⟩ := t
    obtain ⟨sv, p, ks, it, ps, ls, hs, rfl, ht, hp⟩ := h
    obtain ⟨t1, t2, t3, t4⟩ := tree_self ht
    have hown : ∀ x, POwn p ks it x → w'.heap[x]? = w.heap[x]? := fun x hx => hsame x (hp.lt hx).1 (hp.top x hx)
    have c0 : w'.cell? ⟨p, 0, none⟩ = some sv := (cellR (hown p (Or.inl rfl))).trans (by rw [hp.node.cellAt 0 (by omega)]; rfl)
    have c1 : w'.cell? ⟨p, 1, none⟩ = some ks := (cellR (hown p (Or.inl rfl))).trans (by rw [hp.node.cellAt 1 (by omega)]; rfl)
    have c2 : w'.cell? ⟨p, 2, none⟩ = some it := (cellR (hown p (Or.inl rfl))).trans (by rw [hp.node.cellAt 2 (by omega)]; rfl)
    have hpX := hp.top p (Or.inl rfl)
    have hst : StrsAt X w' ks keys := by
      have h1 := own_strs hp.keysR t3 t4
      obtain ⟨g1, g2, ak, ck, rfl, g3⟩ := h1
      refine ⟨g1, g2, ak, ck, rfl, fun hpos => ?_⟩
      obtain ⟨b, o, rfl, hb, hc⟩ := g3 hpos
      have hbt := hp.top b (Or.inr (Or.inl rfl))
      exact ⟨b, o, rfl, by omega, fun i hi => (cellR (hown b (Or.inr (Or.inl rfl)))).trans (hc i hi)⟩
    obtain ⟨ai, ci, eit⟩ := own_slice hp.kidsR
    refine ⟨sv, p, ks, it, rfl, by omega, c0, c1, c2, t1, hst, t2, ai, ci, eit, fun hn => ?_⟩
    obtain ⟨gi, capi, ei, _, hgl⟩ := hp.kidsR.form (by omega)
    rw [eit] at ei
    cases ei
    have hgt := hp.top gi (Or.inr (Or.inr (by rw [eit]; rfl)))
    have hgo := hown gi (Or.inr (Or.inr (by rw [eit]; rfl)))
    refine ⟨gi, rfl, by omega, fun j hj => ?_⟩
    have hkid := hp.kid j hj
    have hrng := hp.rng j hj
    obtain ⟨q, eq⟩ := hkid.ptr
    rw [eit] at hp
    refine ⟨q, (cellR hgo).trans (by rw [hp.kidsR.cellAt j (by omega)]; simp [hj, eq]), ?_⟩
    rw [← eq]
    exact ih hkid (by omega) (fun k h1 h2 => hsame k (by omega) (by omega))

/-- A part whose kids are old ones or can be read. -/
theorem laid_read {B : Nat} {w w' : World} {f lo hi Y : Nat} {kind n : Int} {s : ByteArray} {keys keys' : List ByteArray} {kids kids' : List VT} {sv ks it ks' : Value} {p gi capi : Nat} {ps : Nat → Value} {ls hs : Nat → Nat}
    (hp : PNode w lo hi sv keys kids.length (fun j l h u => PT B w f (kidT kids j) l h u) p ks it ps ls hs) (hn : kids'.length ≤ 100000) (hhi : hi ≤ Y) (hgi : gi < Y)
    (hsame : ∀ c, lo ≤ c → c < hi → ¬ POwn p ks it c → w'.heap[c]? = w.heap[c]?) (c0 : w'.cell? ⟨p, 0, none⟩ = some sv) (c1 : w'.cell? ⟨p, 1, none⟩ = some ks') (c2 : w'.cell? ⟨p, 2, none⟩ = some (.slice (some ⟨gi, 0, none⟩) kids'.length capi))
    (hcs : ∀ j, j < kids'.length → (∃ q, q < kids.length ∧ kidT kids' j = kidT kids q ∧ w'.cell? ⟨gi, j, none⟩ = some (ps q)) ∨ (∃ z, w'.cell? ⟨gi, j, none⟩ = some (.pointer (some ⟨z, 0, none⟩)) ∧ PR Y w' f (kidT kids' j) (.pointer (some ⟨z, 0, none⟩))))
    (hks : StrsAt Y w' ks' keys') (hself : SelfOk kind n s keys' kids' sv) :
    PR Y w' (f + 1) (.mk kind n s keys' kids') (.pointer (some ⟨p, 0, none⟩)) := by
  have hpt := hp.top p (Or.inl rfl)
  refine ⟨sv, p, ks', _, rfl, by omega, c0, c1, c2, hself, hks, hn, some ⟨gi, 0, none⟩, capi, rfl, fun hpos => ⟨gi, rfl, hgi, fun j hj => ?_⟩⟩
  rcases hcs j hj with ⟨q, hq, e, hc⟩ | h
  · have hkid := hp.kid q hq
    have hrng := hp.rng q hq
    obtain ⟨z, ez⟩ := hkid.ptr
    refine ⟨z, by rw [hc, ez], ?_⟩
    show PR Y w' f (kidT kids' j) _
    rw [e, ← ez]
    refine hkid.readW (by omega) (fun c h1 h2 => hsame c (by omega) (by omega) (fun hown => ?_))
    have := hp.out q hq c hown
    omega
  · exact h

theorem findR_out {kind n : Int} {s : ByteArray} {keys : List ByteArray} {kids : List VT} {u : VT} {x : PS} (hs : stepT (.mk kind n s keys kids) x = none) (hi : insT u x (.mk kind n s keys kids) = none) : findR kind keys kids.length x = (-1, false) := by
  have hs' : stepTo kind keys kids.length x = none := hs
  unfold stepTo at hs'
  unfold insT at hi
  unfold findR
  cases hn : x.named
  · rw [hn] at hs' hi
    simp only [Bool.false_eq_true, if_false] at hs' hi
    by_cases h5 : kind = 5
    · rw [if_pos h5, if_neg]
      rintro ⟨_, hle⟩
      split at hs'
      · cases hs'
      · rename_i h1
        split at hi
        · cases hi
        · rename_i h2
          have : x.pl < (kids.length : Int) ∨ x.pl = (kids.length : Int) := by omega
          rcases this with a | a
          · exact h1 ⟨h5, a⟩
          · exact h2 ⟨h5, a⟩
    · rw [if_neg h5, if_neg (by simp)]
  · rw [hn] at hi
    simp only [if_true] at hi
    split at hi
    · cases hi
    · rename_i h6
      by_cases h5 : kind = 5
      · rw [if_pos h5, if_neg (by simp)]
      · rw [if_neg h5, if_neg (fun h => h6 h.1)]
/-- How a new part is laid. -/
theorem findR_ins {f : Nat} {kind n : Int} {s : ByteArray} {keys : List ByteArray} {kids : List VT} {u v : VT} {x : PS} (hg : goodT (f + 1) (.mk kind n s keys kids)) (hs : stepT (.mk kind n s keys kids) x = none) (hi : insT u x (.mk kind n s keys kids) = some v) :
    ∃ (k : Nat) (keys' : List ByteArray), k ≤ kids.length ∧ findR kind keys kids.length x = ((k : Int), false) ∧ v = .mk kind n s keys' (kids.insertIdx k u) ∧
      ((x.named = false ∧ kind = 5 ∧ n = 0 ∧ s = ByteArray.empty ∧ keys = [] ∧ keys' = []) ∨ (x.named = true ∧ kind = 6 ∧ n = 0 ∧ s = ByteArray.empty ∧ keys.length = kids.length ∧ keys' = keys.insertIdx k x.key)) := by
  have hs' : stepTo kind keys kids.length x = none := hs
  unfold stepTo at hs'
  unfold insT at hi
  cases hn : x.named
  · rw [hn] at hs' hi
    simp only [Bool.false_eq_true, if_false] at hs' hi
    split at hi
    · rename_i h5
      simp only [Option.some.injEq] at hi
      refine ⟨kids.length, keys, Nat.le_refl _, ?_, hi.symm, .inl ?_⟩
      · unfold findR
        rw [if_pos h5.1, if_pos ⟨hn, by omega⟩, h5.2]
        simp
      · rcases nodeT_says hg.1 with ⟨e2, _⟩ | ⟨e2, _⟩ | ⟨e2, _⟩ | ⟨e2, _⟩ | ⟨_, a1, a2, a3⟩ | ⟨e2, _⟩
        · have := h5.1; omega
        · have := h5.1; omega
        · have := h5.1; omega
        · have := h5.1; omega
        · exact ⟨rfl, h5.1, a1, a2, a3, a3⟩
        · have := h5.1; omega
    · cases hi
  · rw [hn] at hs' hi
    simp only [if_true] at hs' hi
    split at hi
    · rename_i h6
      simp only [Option.some.injEq] at hi
      have hno : hasK keys x.key = false := by
        cases e : hasK keys x.key
        · rfl
        · rw [if_pos ⟨h6, e⟩] at hs'; cases hs'
      rcases nodeT_says hg.1 with ⟨e2, _⟩ | ⟨e2, _⟩ | ⟨e2, _⟩ | ⟨e2, _⟩ | ⟨e2, _⟩ | ⟨_, a1, a2, hm, _⟩
      · omega
      · omega
      · omega
      · omega
      · omega
      · have hp := (posK_spec (l := keys) x.key).1
        refine ⟨posK keys x.key, _, by omega, ?_, hi.symm, .inr ⟨rfl, h6, a1, a2, hm, rfl⟩⟩
        unfold findR
        rw [if_neg (by omega), if_pos ⟨h6, hn⟩, hno]
    · cases hi

set_option maxRecDepth 100000 in
set_option maxHeartbeats 3200000 in
theorem lay_none (B : Nat) {f : Nat} {kind n : Int} {s : ByteArray} {keys : List ByteArray} {kids : List VT} {lo hi p : Nat} (u : VT) (uv : Value) (x : PS) (w : World) (h : PT B w (f + 1) (.mk kind n s keys kids) lo hi (.pointer (some ⟨p, 0, none⟩))) (hg : goodT (f + 1) (.mk kind n s keys kids)) (hB : B ≤ w.heap.size) (hh : hi ≤ w.heap.size) (hx : -9223372036854775808 ≤ x.pl ∧ x.pl ≤ 9223372036854775807) (hno : stepT (.mk kind n s keys kids) x = none) (hin : insT u x (.mk kind n s keys kids) = none) :
    Calls Try.prog 39 #[.pointer (some ⟨p, 0, none⟩), .agg #[.bool x.named, .string x.key, .int .i64 x.pl], uv] w fun e w' => e = .returned (.bool false) ∧ Below w.heap.size w w' := by
  have hba : Below w.heap.size w (w.alloc (.cells #[.bool x.named, .string x.key, .int .i64 x.pl] 39)) := (Below.refl _ _).alloc (Nat.le_refl _) _
  have HPA := hideIt (h.below hba hB hh)
  have HBA := hideIt hba
  have HFI := hideIt (find_any B f _ _ _ _ _ lo hi p x _ HPA.out (fun e => good6 hg e (h.keysN hg)) hx)
  have HFR := hideIt (findR_out hno hin)
  clear h hg hba hno hin
  go_enter Try.func39, Try.ntmps39
  go_wp2_with fail
  refine HFI.out.mono ?_
  rintro e w1 ⟨rfl, hb1⟩
  rw [HFR.out]
  have HB1 : Hid (Below w.heap.size w w1) := HBA.out.trans (hb1.mono (by simp))
  clear hb1
  go_wp2_with fail
  go_ret
  exact ⟨rfl, HB1.out⟩

set_option maxRecDepth 100000 in
set_option maxHeartbeats 6400000 in
theorem lay_there (B B2 : Nat) {f : Nat} {kind n : Int} {s : ByteArray} {keys : List ByteArray} {kids : List VT} {lo hi p q lo2 hi2 : Nat} (u : VT) (x : PS) (w : World) (h : PT B w (f + 1) (.mk kind n s keys kids) lo hi (.pointer (some ⟨p, 0, none⟩))) (hg : goodT (f + 1) (.mk kind n s keys kids)) (hBl : B ≤ lo) (hh : hi ≤ w.heap.size) (hx : -9223372036854775808 ≤ x.pl ∧ x.pl ≤ 9223372036854775807) (h0x : x.named = true ∨ 0 ≤ x.pl)
    (hq : PT B2 w f u lo2 hi2 (.pointer (some ⟨q, 0, none⟩))) (hl2 : hi ≤ lo2) (hh2 : hi2 ≤ w.heap.size) (k : Nat) (hk : stepT (.mk kind n s keys kids) x = some k) :
    Calls Try.prog 39 #[.pointer (some ⟨p, 0, none⟩), .agg #[.bool x.named, .string x.key, .int .i64 x.pl], .pointer (some ⟨q, 0, none⟩)] w fun e w' => e = .returned (.bool true) ∧ PR w'.heap.size w' (f + 1) (putKid k u (.mk kind n s keys kids)) (.pointer (some ⟨p, 0, none⟩)) ∧ Out lo hi w w' := by
  have hba : Below w.heap.size w (w.alloc (.cells #[.bool x.named, .string x.key, .int .i64 x.pl] 39)) := (Below.refl _ _).alloc (Nat.le_refl _) _
  obtain ⟨sv, p', ks, it, ps, ls, hs, e1, ht, hp⟩ := id h
  obtain rfl : p = p' := by simpa using e1
  have hpl := hp.lt (Or.inl rfl)
  have hpt := hp.top p (Or.inl rfl)
  have HPA := hideIt (h.below hba (by omega) hh)
  have HBA := hideIt hba
  have HFI := hideIt (find_any B f _ _ _ _ _ lo hi p x _ HPA.out (fun e => good6 hg e (h.keysN hg)) hx)
  obtain ⟨tS, t2, t3, t4⟩ := tree_self ht
  have c0 : w.cell? ⟨p, 0, none⟩ = some sv := by rw [hp.node.cellAt 0 (by omega)]; rfl
  have c1 : w.cell? ⟨p, 1, none⟩ = some ks := by rw [hp.node.cellAt 1 (by omega)]; rfl
  have c2 : w.cell? ⟨p, 2, none⟩ = some it := by rw [hp.node.cellAt 2 (by omega)]; rfl
  have f1 : w.frozen? ⟨p, 1, none⟩ = false ∧ w.frozen? ⟨p, 2, none⟩ = false := by
    rcases hp.node.2 with ⟨e1, _⟩ | ⟨g', cap', cur, e1, _, hgg, _⟩
    · cases e1
    · cases e1; exact ⟨by simp [World.frozen?, hgg], by simp [World.frozen?, hgg]⟩
  have hptr : ∀ j, j < kids.length → ∃ z, ps j = .pointer (some ⟨z, 0, none⟩) := fun j hj => (hp.kid j hj).ptr
  have HP := hideIt hp
  have HPS := hideIt hptr
  have HKS := hideIt (own_strs hp.keysR t3 t4)
  have HTS := hideIt tS
  have HQ := hideIt hq
  have HT34 := hideIt (And.intro t3 t4)
  have hkl : k < kids.length := stepT_lt hg h0x hk
  have HFR : Hid (findR kind keys kids.length x = ((k : Int), true)) := findR_some h0x hk
  have HSK := hideIt (step_kinds hg hk)
  obtain ⟨gi, capi, ei, hgl, hgs⟩ := hp.kidsR.form (by omega)
  subst ei
  obtain ⟨hci, hcap1, hcap2, _, _⟩ := own_full hp.kidsR
  have hgit := hp.top gi (Or.inr (Or.inr rfl))
  have hgp : gi ≠ p := by
    rintro rfl
    rcases own_apart hp.kidsR hp.node (by decide) with e2 | e2
    · cases e2
    · exact e2 rfl
  have HCI := hideIt hci
  have HKL : Hid (k < kids.length) := hkl
  obtain ⟨M, hM⟩ : ∃ M, kids.length = M := ⟨_, rfl⟩
  have HM := hideIt hM
  rw [hM] at c2 HFR HFI hkl t2
  clear h hg hba hci hptr hp ht tS hM hk t3 t4 hcap1 hcap2 hq
  go_enter Try.func39, Try.ntmps39
  go_wp2_with fail
  refine HFI.out.mono ?_
  rintro e w1 ⟨rfl, hb1⟩
  rw [HFR.out]
  have HB1 : Hid (Below w.heap.size w w1) := HBA.out.trans (hb1.mono (by simp))
  have d0 := (below_cell HB1.out (by omega)).trans c0
  have d1 := (below_cell HB1.out (by omega)).trans c1
  have d2 := (below_cell HB1.out (by omega)).trans c2
  have dg := (below_cell HB1.out hgs).trans (HCI.out k HKL.out).1
  have fg := (frozenR (o := k) (HB1.out.block gi hgs)).trans (HCI.out k HKL.out).2
  have z1 := HB1.out.size
  have hk0 : ¬ (k : Int) < 0 := by omega
  have hkM : (k : Int) < (M : Int) := by omega
  obtain ⟨W3, hW3⟩ : ∃ W3, w1.setCell ⟨gi, k, none⟩ (.pointer (some ⟨q, 0, none⟩)) = W3 := ⟨_, rfl⟩
  have HFIN : Hid (PR W3.heap.size W3 (f + 1) (putKid k u (.mk kind n s keys kids)) (.pointer (some ⟨p, 0, none⟩)) ∧ Out lo hi w W3) := by
    have hst : ∀ c, c ≠ gi → W3.heap[c]? = w1.heap[c]? := fun c hc => by rw [← hW3]; exact Below.heap_setCell w1 _ _ c hc
    have hO3 : Out lo hi w W3 := (Out.of_below HB1.out).trans (by rw [← hW3]; exact Out.of_set _ _ _ ⟨hgl, hgit⟩)
    have hz3 : W3.heap.size = w1.heap.size := by rw [← hW3]; simp
    refine ⟨laid_read (w' := W3) (gi := gi) (capi := capi) (ks' := ks) (kids' := kids.set k u) HP.out (by rw [List.length_set, HM.out]; exact t2) (by omega) (by omega) (fun c h1 h2 h3 => ?_) ?_ ?_ ?_ (fun j hj => ?_) ?_ ?_, hO3⟩
    · have hcg : c ≠ gi := fun e => h3 (Or.inr (Or.inr (by rw [e]; rfl)))
      rw [hst c hcg]
      exact HB1.out.block c (by omega)
    · rw [cellR (hst p (fun e => hgp e.symm))]; exact d0
    · rw [cellR (hst p (fun e => hgp e.symm))]; exact d1
    · rw [cellR (hst p (fun e => hgp e.symm)), List.length_set, HM.out]; exact d2
    · rw [List.length_set] at hj
      rw [kid_set HKL.out]
      by_cases e : j = k
      · subst e
        refine .inr ⟨q, by rw [← hW3]; exact World.cell?_setCell_same _ _ _ dg, ?_⟩
        rw [if_pos rfl]
        exact HQ.out.readW (by omega) (fun c h1 h2 => (hst c (by omega)).trans (HB1.out.block c (by omega)))
      · refine .inl ⟨j, hj, by rw [if_neg e], ?_⟩
        rw [← hW3, World.cell?_setCell_other (h := fun h => by simp only [Addr.mk.injEq] at h; omega), below_cell HB1.out hgs]
        exact (HCI.out j hj).1
    · obtain ⟨q1, q2, ak, ck, eks, q3⟩ := HKS.out
      refine ⟨q1, q2, ak, ck, eks, fun hpos => ?_⟩
      obtain ⟨b, o, rfl, hbb, hc⟩ := q3 hpos
      have hbo := HP.out.top b (Or.inr (Or.inl (by rw [eks]; rfl)))
      have hbg : b ≠ gi := by
        rintro rfl
        rcases own_apart HP.out.keysR HP.out.kidsR (by decide) with e2 | e2
        · rw [eks] at e2; cases e2
        · exact e2 (by rw [eks]; rfl)
      exact ⟨b, o, rfl, by omega, fun i hi => by rw [cellR (hst b hbg), below_cell HB1.out (by omega)]; exact hc i hi⟩
    · rcases HSK.out with ⟨a1, a2, a3, a4⟩ | ⟨a1, a2, a3, a4⟩
      · rcases HTS.out with e | e | e | e | ⟨_, _, _, _, y, ey⟩ | e
        · omega
        · omega
        · omega
        · omega
        · exact .inr (.inr (.inr (.inr (.inl ⟨a1, a2, a3, a4, y, ey⟩))))
        · omega
      · rcases HTS.out with e | e | e | e | e | ⟨_, _, _, y, ey⟩
        · omega
        · omega
        · omega
        · omega
        · omega
        · exact .inr (.inr (.inr (.inr (.inr ⟨a1, a2, a3, y, ey⟩))))
  clear hb1 c0 c1 c2 f1 d0 d1
  go_wp2_with fail
  go_ret
  exact ⟨rfl, HFIN.out.1, HFIN.out.2⟩

set_option maxRecDepth 100000 in
set_option maxHeartbeats 6400000 in
theorem lay_ins (B B2 : Nat) {f : Nat} {kind n : Int} {s : ByteArray} {keys : List ByteArray} {kids : List VT} {lo hi p q lo2 hi2 : Nat} (u : VT) (x : PS) (w : World) (h : PT B w (f + 1) (.mk kind n s keys kids) lo hi (.pointer (some ⟨p, 0, none⟩))) (hg : goodT (f + 1) (.mk kind n s keys kids)) (hBl : B ≤ lo) (hh : hi ≤ w.heap.size) (hx : -9223372036854775808 ≤ x.pl ∧ x.pl ≤ 9223372036854775807) (h0x : x.named = true ∨ 0 ≤ x.pl)
    (hq : PT B2 w f u lo2 hi2 (.pointer (some ⟨q, 0, none⟩))) (hl2 : hi ≤ lo2) (hh2 : hi2 ≤ w.heap.size) (k : Nat) (keys' : List ByteArray) (hk : k ≤ kids.length) (hfr : findR kind keys kids.length x = ((k : Int), false)) (hkx : x.key.size ≤ 140737488355328)
    (hv : (x.named = false ∧ kind = 5 ∧ n = 0 ∧ s = ByteArray.empty ∧ keys = [] ∧ keys' = []) ∨ (x.named = true ∧ kind = 6 ∧ n = 0 ∧ s = ByteArray.empty ∧ keys.length = kids.length ∧ keys' = keys.insertIdx k x.key)) (hk99 : kids.length ≤ 99999) :
    Calls Try.prog 39 #[.pointer (some ⟨p, 0, none⟩), .agg #[.bool x.named, .string x.key, .int .i64 x.pl], .pointer (some ⟨q, 0, none⟩)] w fun e w' => e = .returned (.bool true) ∧ PR w'.heap.size w' (f + 1) (VT.mk kind n s keys' (kids.insertIdx k u)) (.pointer (some ⟨p, 0, none⟩)) ∧ Out lo hi w w' := by
  have hba : Below w.heap.size w (w.alloc (.cells #[.bool x.named, .string x.key, .int .i64 x.pl] 39)) := (Below.refl _ _).alloc (Nat.le_refl _) _
  obtain ⟨sv, p', ks, it, ps, ls, hs, e1, ht, hp⟩ := id h
  obtain rfl : p = p' := by simpa using e1
  have hpl := hp.lt (Or.inl rfl)
  have hpt := hp.top p (Or.inl rfl)
  have HPA := hideIt (h.below hba (by omega) hh)
  have HBA := hideIt hba
  have HFI := hideIt (find_any B f _ _ _ _ _ lo hi p x _ HPA.out (fun e => good6 hg e (h.keysN hg)) hx)
  obtain ⟨tS, t2, t3, t4⟩ := tree_self ht
  have c0 : w.cell? ⟨p, 0, none⟩ = some sv := by rw [hp.node.cellAt 0 (by omega)]; rfl
  have c1 : w.cell? ⟨p, 1, none⟩ = some ks := by rw [hp.node.cellAt 1 (by omega)]; rfl
  have c2 : w.cell? ⟨p, 2, none⟩ = some it := by rw [hp.node.cellAt 2 (by omega)]; rfl
  have f1 : w.frozen? ⟨p, 1, none⟩ = false ∧ w.frozen? ⟨p, 2, none⟩ = false := by
    rcases hp.node.2 with ⟨e1, _⟩ | ⟨g', cap', cur, e1, _, hgg, _⟩
    · cases e1
    · cases e1; exact ⟨by simp [World.frozen?, hgg], by simp [World.frozen?, hgg]⟩
  have hptr : ∀ j, j < kids.length → ∃ z, ps j = .pointer (some ⟨z, 0, none⟩) := fun j hj => (hp.kid j hj).ptr
  have HP := hideIt hp
  have HPS := hideIt hptr
  have HKS := hideIt (own_strs hp.keysR t3 t4)
  have HTS := hideIt tS
  have HQ := hideIt hq
  have HT34 := hideIt (And.intro t3 t4)
  have HFR := hideIt hfr
  have HVV := hideIt hv
  obtain ⟨ai, ci, ei⟩ := own_slice hp.kidsR
  subst ei
  have hcm := ins_max hp.kidsR
  have HOB : Hid (∀ c, some c = (Value.slice ai kids.length ci).ownBlock → lo ≤ c ∧ c < hi ∧ c ≠ p ∧ POwn p ks (.slice ai kids.length ci) c) := fun c hc => by
    have h1 : POwn p ks (.slice ai kids.length ci) c := Or.inr (Or.inr hc.symm)
    refine ⟨(hp.lt h1).1, hp.top c h1, ?_, h1⟩
    rintro rfl
    rcases own_apart hp.kidsR hp.node (by decide) with e2 | e2
    · rw [e2] at hc; cases hc
    · exact e2 (hc.symm.trans rfl)
  have HIN := hideIt (fun (w1 : World) (hb : Below w.heap.size w w1) => insP_any lo ai kids.length ci w1.heap.size k 58 ps (.pointer (some ⟨q, 0, none⟩)) (w1.alloc (.cells #[.pointer (some ⟨q, 0, none⟩)] 58)) ((own_below hp.kidsR hb (fun y hy => (hp.kidsR.lt y hy).2)).alloc _) (fun j hj => by obtain ⟨z, ez⟩ := hptr j hj; rw [ez]; rfl) (by rw [World.size_alloc]; have := hb.size; omega) (alloc_block _ _) rfl (fun e => by have := (hp.kidsR.lt _ e).2; have := hb.size; omega) hk t2)
  obtain ⟨M, hM⟩ : ∃ M, kids.length = M := ⟨_, rfl⟩
  have HM := hideIt hM
  have HKK := hideIt hk
  rw [hM] at c2 HFR HFI t2 HIN hk99 HOB
  have hkM : k ≤ M := by omega
  clear h hg hba hptr hp ht tS hM hfr t3 t4 hq hv hk
  go_enter Try.func39, Try.ntmps39
  go_wp2_with fail
  refine HFI.out.mono ?_
  rintro e w1 ⟨rfl, hb1⟩
  rw [HFR.out]
  have HB1 : Hid (Below w.heap.size w w1) := HBA.out.trans (hb1.mono (by simp))
  have d0 := (below_cell HB1.out (by omega)).trans c0
  have d1 := (below_cell HB1.out (by omega)).trans c1
  have d2 := (below_cell HB1.out (by omega)).trans c2
  have g1 := (frozenR (o := 1) (HB1.out.block p (by omega))).trans f1.1
  have g2 := (frozenR (o := 2) (HB1.out.block p (by omega))).trans f1.2
  have nb : w1.cell? ⟨w.heap.size, 0, none⟩ = some (.bool x.named) := (below_cell hb1 (by simp)).trans (by simp)
  have nk : w1.cell? ⟨w.heap.size, 1, none⟩ = some (.string x.key) := (below_cell hb1 (by simp)).trans (by simp)
  have HI2 := hideIt (HIN.out w1 HB1.out)
  have z1 := HB1.out.size
  have z0 : w.heap.size + 1 ≤ w1.heap.size := by simpa using hb1.size
  have hk0 : ¬ (k : Int) < 0 := by omega
  have HAL : Hid (Below w1.heap.size w1 (w1.alloc (.cells #[.pointer (some ⟨q, 0, none⟩)] 58))) := (Below.refl _ _).alloc (Nat.le_refl _) _
  clear hb1 HIN c0 c1 c2 f1
  go_wp2_with fail
  refine HI2.out.mono ?_
  rintro e w2 ⟨gN, cN, rfl, hin⟩
  have hsz : w1.heap.size + 1 ≤ w2.heap.size := by simpa using hin.size
  have hother : ∀ c, c < w1.heap.size → some c ≠ (Value.slice ai M ci).ownBlock → w2.heap[c]? = w1.heap[c]? := fun c hc hne => (hin.other c (by simp; omega) hne).trans (HAL.out.block c hc)
  have hpo := hother p (by omega) (fun e => (HOB.out p e).2.2.1 rfl)
  have hbo := hother w.heap.size (by omega) (fun e => by have := (HOB.out _ e).2.1; omega)
  have m0 := (cellR (o := 0) hpo).trans d0
  have m1 := (cellR (o := 1) hpo).trans d1
  have m2 := (cellR (o := 2) hpo).trans d2
  have n1 := (frozenR (o := 1) hpo).trans g1
  have n2 := (frozenR (o := 2) hpo).trans g2
  have mb := (cellR (o := 0) hbo).trans nb
  have mk := (cellR (o := 1) hbo).trans nk
  have hgNp : gN ≠ p := by
    rcases hin.place with e | e
    · exact (HOB.out gN e).2.2.1
    · have : w1.heap.size + 1 ≤ gN := by simpa using e
      omega
  have HPLC : Hid (some gN = (Value.slice ai M ci).ownBlock ∨ w1.heap.size + 1 ≤ gN) := hin.place.imp id (fun e => by simpa using e)
  have hgNl := hin.lt
  have HCELL := hideIt hin.cells
  have HOTH := hideIt hother
  have HO2 : Hid (Out lo hi w w2) := (Out.of_below HB1.out).trans ⟨hin.os.trans HAL.out.os, hin.tape.trans HAL.out.tape, hin.output.trans HAL.out.output, by omega, fun c hc ho => HOTH.out c hc (fun e => by have := HOB.out c e; omega)⟩
  clear hpo hbo d0 d1 d2 g1 g2 nb nk hother hin HI2 HAL
  obtain ⟨W3, hW3⟩ : ∃ W3, w2.setCell ⟨p, 2, none⟩ (.slice (some ⟨gN, 0, none⟩) (M + 1) cN) = W3 := ⟨_, rfl⟩
  have hst3 : ∀ c, c ≠ p → W3.heap[c]? = w2.heap[c]? := fun c hc => by rw [← hW3]; exact Below.heap_setCell w2 _ _ c hc
  have HST3 := hideIt hst3
  have HZ3 : Hid (W3.heap.size = w2.heap.size) := by rw [Hid, ← hW3]; simp
  have p0 : W3.cell? ⟨p, 0, none⟩ = some sv := by rw [← hW3, World.cell?_setCell_other (h := by simp)]; exact m0
  have p1 : W3.cell? ⟨p, 1, none⟩ = some ks := by rw [← hW3, World.cell?_setCell_other (h := by simp)]; exact m1
  have p2 : W3.cell? ⟨p, 2, none⟩ = some (.slice (some ⟨gN, 0, none⟩) (M + 1) cN) := by rw [← hW3]; exact World.cell?_setCell_same _ _ _ m2
  have q1 : W3.frozen? ⟨p, 1, none⟩ = false := by rw [← hW3, World.frozen?_setCell]; exact n1
  have HO3 : Hid (Out lo hi w W3) := HO2.out.trans (by rw [← hW3]; exact Out.of_set _ _ _ ⟨hpl.1, hpt⟩)
  have HINL : Hid ((kids.insertIdx k u).length = M + 1) := by rw [Hid, ins_len HKK.out, HM.out]
  have HKIDS : Hid (∀ W : World, (∀ c, hi ≤ c → c < w.heap.size → W.heap[c]? = W3.heap[c]?) → W.heap[gN]? = W3.heap[gN]? → W3.heap.size ≤ W.heap.size → ∀ j, j < (kids.insertIdx k u).length → (∃ z, z < kids.length ∧ kidT (kids.insertIdx k u) j = kidT kids z ∧ W.cell? ⟨gN, j, none⟩ = some (ps z)) ∨ (∃ z, W.cell? ⟨gN, j, none⟩ = some (.pointer (some ⟨z, 0, none⟩)) ∧ PR W.heap.size W f (kidT (kids.insertIdx k u) j) (.pointer (some ⟨z, 0, none⟩)))) := fun W h2 h3 h4 j hj => by
    rw [HINL.out] at hj
    have hc := (cellR (o := j) h3).trans ((cellR (o := j) (HST3.out gN hgNp)).trans (HCELL.out j hj))
    rw [kid_ins HKK.out]
    by_cases e1 : j < k
    · rw [if_pos e1] at hc
      exact .inl ⟨j, by rw [HM.out]; omega, by rw [if_pos e1], hc⟩
    · rw [if_neg e1] at hc ⊢
      by_cases e2 : j = k
      · rw [if_pos e2] at hc ⊢
        refine .inr ⟨q, hc, HQ.out.readW (by have := HZ3.out; omega) (fun c a1 a2 => ?_)⟩
        rw [h2 c (by omega) (by omega), HST3.out c (by omega), HOTH.out c (by omega) (fun e => by have := HOB.out c e; omega)]
        exact HB1.out.block c (by omega)
      · rw [if_neg e2] at hc ⊢
        exact .inl ⟨j - 1, by rw [HM.out]; omega, rfl, hc⟩
  have HSAME3 : Hid (∀ c, lo ≤ c → c < hi → ¬ POwn p ks (.slice ai M ci) c → W3.heap[c]? = w.heap[c]?) := fun c a1 a2 a3 => by
    have hcp : c ≠ p := fun e => a3 (Or.inl e)
    rw [HST3.out c hcp, HOTH.out c (by omega) (fun e => a3 (Or.inr (Or.inr e.symm)))]
    exact HB1.out.block c (by omega)
  have mb3 : W3.cell? ⟨w.heap.size, 0, none⟩ = some (.bool x.named) := by rw [cellR (HST3.out w.heap.size (by omega))]; exact mb
  have mk3 : W3.cell? ⟨w.heap.size, 1, none⟩ = some (.string x.key) := by rw [cellR (HST3.out w.heap.size (by omega))]; exact mk
  clear hst3 m0 m1 mb mk n1
  rcases HVV.out with ⟨hn, hk5, hn0, hs0, hks0, hks1⟩ | ⟨hn, hk6, hn0, hs0, hkk, hks1⟩
  · rw [hn] at mb3
    have HFIN : Hid (PR W3.heap.size W3 (f + 1) (.mk kind n s keys' (kids.insertIdx k u)) (.pointer (some ⟨p, 0, none⟩)) ∧ Out lo hi w W3) := by
      have hz3 := HZ3.out
      have HP' := HP.out
      rw [HM.out] at HP'
      refine ⟨laid_read (w' := W3) (gi := gN) (capi := cN) (ks' := ks) (kids' := kids.insertIdx k u) HP.out (by rw [HINL.out]; omega) (by omega) (by omega) (fun c a1 a2 a3 => HSAME3.out c a1 a2 (by rw [HM.out] at a3; exact a3)) p0 p1 (by rw [HINL.out]; exact p2) (HKIDS.out W3 (fun _ _ _ => rfl) rfl (Nat.le_refl _)) ?_ ?_, HO3.out⟩
      · have := HKS.out
        rw [hks0] at this
        rw [hks1]
        obtain ⟨q1, q2, ak, ck, eks, _⟩ := this
        exact ⟨by simp, fun i hi => absurd hi (by simp), ak, ck, eks, fun hpos => absurd hpos (by simp)⟩
      · rcases HTS.out with e | e | e | e | ⟨_, _, _, _, y, ey⟩ | e
        · omega
        · omega
        · omega
        · omega
        · exact .inr (.inr (.inr (.inr (.inl ⟨hk5, hn0, hs0, hks1, y, ey⟩))))
        · omega
    clear p0 p1 p2 q1 mk3
    go_wp2_with fail
    go_ret
    exact ⟨rfl, HFIN.out.1, HFIN.out.2⟩
  · rw [hn] at mb3
    have hkN : keys.length = M := by rw [hkk]; exact HM.out
    obtain ⟨ak, ck, eks⟩ := own_slice HP.out.keysR
    rw [hkN] at eks
    subst eks
    have HKP : Hid (∀ c, some c = (Value.slice ak M ck).ownBlock → lo ≤ c ∧ c < hi ∧ c ≠ p ∧ c ≠ gN ∧ c < w.heap.size ∧ W3.heap[c]? = w.heap[c]?) := fun c hc => by
      have h1 : POwn p (.slice ak M ck) (.slice ai kids.length ci) c := Or.inr (Or.inl hc.symm)
      have hlt := (HP.out.lt h1)
      have htop := HP.out.top c h1
      have hcp : c ≠ p := by
        rintro rfl
        rcases own_apart HP.out.keysR HP.out.node (by decide) with e2 | e2
        · rw [e2] at hc; cases hc
        · exact e2 (hc.symm.trans rfl)
      have hci : some c ≠ (Value.slice ai M ci).ownBlock := fun e => by
        rcases own_apart HP.out.keysR HP.out.kidsR (by decide) with e2 | e2
        · rw [e2] at hc; cases hc
        · exact e2 (hc.symm.trans (by rw [HM.out]; exact e))
      have hcN : c ≠ gN := by
        rintro rfl
        rcases HPLC.out with e | e
        · exact hci e
        · omega
      exact ⟨hlt.1, htop, hcp, hcN, hlt.2, by rw [HST3.out c hcp, HOTH.out c (by omega) hci]; exact HB1.out.block c hlt.2⟩
    have HKW : Hid (W3.drew.ownsRow lo 9 1 (.slice ak M ck) M ((List.range M).map fun j => Value.string (keyAt keys j))) := by
      have h1 := HP.out.keysR
      rw [keys_range, hkN] at h1
      exact own_same h1 (fun y hy => (HKP.out y hy.symm).2.2.2.2.2)
    have HSI : Hid (Calls Try.prog 81 #[.slice ak M ck, .int .i64 k, .slice (some ⟨W3.heap.size, 0, none⟩) 1 1] (W3.drew.alloc (.cells #[.string x.key] 9)) fun e w' => ∃ g' c', e = .returned (.slice (some ⟨g', 0, none⟩) (M + 1) c') ∧ InsR (Value.slice ak M ck).ownBlock M k (fun j => .string (keyAt keys j)) (.string x.key) g' (W3.drew.alloc (.cells #[.string x.key] 9)) w') :=
      insS_any lo ak M ck W3.heap.size k 9 (fun j => .string (keyAt keys j)) (.string x.key) _ (HKW.out.alloc _) (fun _ _ => rfl) (by have := HO3.out.size; rw [size_drew]; omega) (alloc_drew _ _) rfl (fun e => by have := (HKP.out _ e.symm).2.2.2.2.1; have := HO3.out.size; omega) hkM (by omega)
    have HTAIL : Hid (∀ (w4 : World) (gK cK : Nat), InsR (Value.slice ak M ck).ownBlock M k (fun j => .string (keyAt keys j)) (.string x.key) gK (W3.drew.alloc (.cells #[.string x.key] 9)) w4 → w4.cell? ⟨p, 1, none⟩ = some (.slice ak M ck) ∧ w4.frozen? ⟨p, 1, none⟩ = false ∧ PR (w4.setCell ⟨p, 1, none⟩ (.slice (some ⟨gK, 0, none⟩) (M + 1) cK)).heap.size (w4.setCell ⟨p, 1, none⟩ (.slice (some ⟨gK, 0, none⟩) (M + 1) cK)) (f + 1) (.mk kind n s keys' (kids.insertIdx k u)) (.pointer (some ⟨p, 0, none⟩)) ∧ Out lo hi w (w4.setCell ⟨p, 1, none⟩ (.slice (some ⟨gK, 0, none⟩) (M + 1) cK))) := fun w4 gK cK hin => by
      have hAL : Below W3.heap.size W3 (W3.drew.alloc (.cells #[.string x.key] 9)) := ((Below.refl _ _).drew).alloc (Nat.le_refl _) _
      have hzA : (W3.drew.alloc (.cells #[.string x.key] 9)).heap.size = W3.heap.size + 1 := size_drew _ _
      have hz4 := hin.size
      rw [hzA] at hz4
      have hoth : ∀ c, c < W3.heap.size → some c ≠ (Value.slice ak M ck).ownBlock → w4.heap[c]? = W3.heap[c]? := fun c hc hne => (hin.other c (by rw [hzA]; omega) hne).trans (hAL.block c hc)
      have hz3 := HO3.out.size
      have hz32 := HZ3.out
      have hpo := hoth p (by omega) (fun e => (HKP.out p e).2.2.1 rfl)
      have hgK : (some gK = (Value.slice ak M ck).ownBlock ∧ lo ≤ gK ∧ gK < hi ∧ gK ≠ p) ∨ W3.heap.size + 1 ≤ gK := hin.place.imp (fun e => ⟨e, (HKP.out gK e).1, (HKP.out gK e).2.1, (HKP.out gK e).2.2.1⟩) (fun e => by rw [hzA] at e; exact e)
      have hgKp : gK ≠ p := by rcases hgK with e | e <;> omega
      obtain ⟨W5, hW5⟩ : ∃ W5, w4.setCell ⟨p, 1, none⟩ (.slice (some ⟨gK, 0, none⟩) (M + 1) cK) = W5 := ⟨_, rfl⟩
      rw [hW5]
      have hst5 : ∀ c, c ≠ p → W5.heap[c]? = w4.heap[c]? := fun c hc => by rw [← hW5]; exact Below.heap_setCell w4 _ _ c hc
      have hz5 : W5.heap.size = w4.heap.size := by rw [← hW5]; simp
      have c41 := (cellR (o := 1) hpo).trans p1
      have hO5 : Out lo hi w W5 := (HO3.out.trans ⟨hin.os.trans hAL.os, hin.tape.trans hAL.tape, hin.output.trans hAL.output, by omega, fun c hc ho => hoth c hc (fun e => by have := HKP.out c e; omega)⟩).trans (by rw [← hW5]; exact Out.of_set _ _ _ ⟨hpl.1, hpt⟩)
      refine ⟨c41, (frozenR (o := 1) hpo).trans q1, laid_read (w' := W5) (gi := gN) (capi := cN) (ks' := .slice (some ⟨gK, 0, none⟩) (M + 1) cK) (kids' := kids.insertIdx k u) HP.out (by rw [HINL.out]; omega) (by omega) (by omega) (fun c a1 a2 a3 => ?_) ?_ ?_ ?_ (HKIDS.out W5 (fun c a1 a2 => ?_) ?_ (by omega)) ?_ ?_, hO5⟩
      · have hcp : c ≠ p := fun e => a3 (Or.inl e)
        rw [hst5 c hcp, hoth c (by omega) (fun e => a3 (Or.inr (Or.inl e.symm)))]
        exact HSAME3.out c a1 a2 (by rw [HM.out] at a3; exact a3)
      · rw [← hW5, World.cell?_setCell_other (h := by simp), cellR hpo]; exact p0
      · rw [← hW5]; exact World.cell?_setCell_same _ _ _ c41
      · rw [← hW5, World.cell?_setCell_other (h := by simp), cellR hpo, HINL.out]; exact p2
      · rw [hst5 c (by omega)]
        exact hoth c (by omega) (fun e => by have := HKP.out c e; omega)
      · rw [hst5 gN hgNp]
        exact hoth gN (by omega) (fun e => (HKP.out gN e).2.2.2.1 rfl)
      · rw [hks1]
        have hkl : k ≤ keys.length := by omega
        have hel : (keys.insertIdx k x.key).length = M + 1 := by rw [ins_len hkl, hkN]
        refine ⟨by rw [hel]; omega, fun i hi => ?_, some ⟨gK, 0, none⟩, cK, by rw [hel], fun _ => ⟨gK, 0, rfl, by rw [hz5]; exact hin.lt, fun i hi => ?_⟩⟩
        · rw [hel] at hi
          rw [key_ins hkl]
          split
          · exact HT34.out.2 i (by omega)
          · split
            · exact hkx
            · exact HT34.out.2 (i - 1) (by omega)
        · rw [hel] at hi
          rw [Nat.zero_add, cellR (hst5 gK hgKp), hin.cells i hi, key_ins hkl]
          split
          · rfl
          · split <;> rfl
      · rcases HTS.out with e | e | e | e | e | ⟨_, _, _, y, ey⟩
        · omega
        · omega
        · omega
        · omega
        · omega
        · exact .inr (.inr (.inr (.inr (.inr ⟨hk6, hn0, hs0, y, ey⟩))))
    have HP0 := hideIt p0
    have HP2 := hideIt p2
    have p1a : (W3.alloc (.cells #[.string x.key] 9)).cell? ⟨p, 1, none⟩ = some (.slice ak M ck) := (below_cell ((Below.refl W3.heap.size W3).alloc (Nat.le_refl _) _) (by have := HO3.out.size; omega)).trans p1
    clear p0 p2 q1 hkx HKW
    go_wp2_with fail
    refine wp_region_any (by kernel_rfl) ?_
    change wpAny _ _ _ _ _ _ _ (World.drew _)
    refine wpAny_take (i := 0) (v := .pointer (some ⟨p, 0, none⟩)) rfl (by kernel_rfl) (by kernel_rfl) (by kernel_rfl) (fun _ _ _ h => h) (Or.inl ⟨by kernel_rfl, fun w => ?_⟩) ?_
    · go_simp
    refine wpAny_take (i := 1) (v := .pointer (some ⟨p, 0, none⟩)) rfl (by kernel_rfl) (by kernel_rfl) (by kernel_rfl) (fun _ _ _ h => h) (Or.inl ⟨by kernel_rfl, fun w => ?_⟩) ?_
    · go_simp
    refine wpAny_take (i := 2) (v := .pointer (some ⟨p, 0, none⟩)) rfl (by kernel_rfl) (by kernel_rfl) (by kernel_rfl) (fun _ _ _ h => h) (Or.inl ⟨by kernel_rfl, fun w => ?_⟩) ?_
    · go_simp
    refine wpAny_take (i := 3) (v := .pointer (some ⟨p, 1, none⟩)) rfl (by kernel_rfl) (by kernel_rfl) (by kernel_rfl) (fun _ _ _ h => h) (Or.inl ⟨by kernel_rfl, fun w => ?_⟩) ?_
    · go_simp
    refine wpAny_take (i := 5) (v := .int .i64 (k : Int)) rfl (by kernel_rfl) (by kernel_rfl) (by kernel_rfl) (fun _ _ _ h => h) (Or.inl ⟨by kernel_rfl, fun w => ?_⟩) ?_
    · go_simp
    refine wpAny_take (i := 6) (v := .pointer (some ⟨w.heap.size, 1, none⟩)) rfl (by kernel_rfl) (by kernel_rfl) (by kernel_rfl) (fun _ _ _ h => h) (Or.inl ⟨by kernel_rfl, fun w => ?_⟩) ?_
    · go_simp
    go_simp
    refine wpAny_ready (rs := [4, 7]) (by kernel_rfl) (by simp) ?_
    refine AllReady.cons rfl (fun K hK => ?_) (AllReady.cons rfl (fun K hK => ?_) AllReady.nil)
    · go_simp
      refine hK _ _ ?_
      clear hK K
      refine wpAny_ready (rs := [7]) (by kernel_rfl) (by simp) ?_
      refine AllReady.cons rfl (fun K hK => ?_) AllReady.nil
      go_simp
      refine hK _ _ ?_
      clear hK K
      refine wpAny_ready (rs := [8]) (by kernel_rfl) (by simp) ?_
      refine AllReady.cons rfl (fun K hK => ?_) AllReady.nil
      go_simp
      refine hK _ _ ?_
      clear hK K
      refine wpAny_ready (rs := [9]) (by kernel_rfl) (by simp) ?_
      refine AllReady.cons rfl (fun K hK => ?_) AllReady.nil
      refine step_call3 (by kernel_rfl) 81 (.tmp 42) (.tmp 43) (.tmp 46) 75 3 75 (by kernel_rfl) (.slice ak M ck) (.int .i64 (k : Int)) (.slice (some ⟨W3.heap.size, 0, none⟩) 1 1) (by kernel_rfl) (by kernel_rfl) (by kernel_rfl) (fun w => by kernel_rfl) HSI.out ?_
      rintro e w4 ⟨gK, cK, rfl, hin⟩
      obtain ⟨r1, r2, r3, r4⟩ := HTAIL.out w4 gK cK hin
      have HR3 := hideIt r3
      have HR4 := hideIt r4
      refine ⟨_, rfl, ?_⟩
      refine hK _ _ ?_
      clear hK K hin r3 r4
      refine wpAny_take (i := 10) (v := .pointer (some ⟨p, 0, none⟩)) rfl (by kernel_rfl) (by kernel_rfl) (by kernel_rfl) (fun _ _ _ h => h) (Or.inl ⟨by kernel_rfl, fun w => ?_⟩) ?_
      · go_simp
      refine wpAny_take (i := 11) (v := .pointer (some ⟨p, 1, none⟩)) rfl (by kernel_rfl) (by kernel_rfl) (by kernel_rfl) (fun _ _ _ h => h) (Or.inl ⟨by kernel_rfl, fun w => ?_⟩) ?_
      · go_simp
      go_simp
      refine wpAny_ready (rs := [12]) (by kernel_rfl) (by simp) ?_
      refine AllReady.cons rfl (fun K hK => ?_) AllReady.nil
      go_simp
      refine hK _ _ ?_
      clear hK K
      refine wpAny_done (by kernel_rfl) ?_ _
      go_wp2_with fail
      go_ret
      exact ⟨rfl, HR3.out, HR4.out⟩
    · go_simp
      refine hK _ _ ?_
      clear hK K
      refine wpAny_ready (rs := [4, 8]) (by kernel_rfl) (by simp) ?_
      refine AllReady.cons rfl (fun K hK => ?_) (AllReady.cons rfl (fun K hK => ?_) AllReady.nil)
      · go_simp
        refine hK _ _ ?_
        clear hK K
        refine wpAny_ready (rs := [8]) (by kernel_rfl) (by simp) ?_
        refine AllReady.cons rfl (fun K hK => ?_) AllReady.nil
        go_simp
        refine hK _ _ ?_
        clear hK K
        refine wpAny_ready (rs := [9]) (by kernel_rfl) (by simp) ?_
        refine AllReady.cons rfl (fun K hK => ?_) AllReady.nil
        refine step_call3 (by kernel_rfl) 81 (.tmp 42) (.tmp 43) (.tmp 46) 75 3 75 (by kernel_rfl) (.slice ak M ck) (.int .i64 (k : Int)) (.slice (some ⟨W3.heap.size, 0, none⟩) 1 1) (by kernel_rfl) (by kernel_rfl) (by kernel_rfl) (fun w => by kernel_rfl) HSI.out ?_
        rintro e w4 ⟨gK, cK, rfl, hin⟩
        obtain ⟨r1, r2, r3, r4⟩ := HTAIL.out w4 gK cK hin
        have HR3 := hideIt r3
        have HR4 := hideIt r4
        refine ⟨_, rfl, ?_⟩
        refine hK _ _ ?_
        clear hK K hin r3 r4
        refine wpAny_take (i := 10) (v := .pointer (some ⟨p, 0, none⟩)) rfl (by kernel_rfl) (by kernel_rfl) (by kernel_rfl) (fun _ _ _ h => h) (Or.inl ⟨by kernel_rfl, fun w => ?_⟩) ?_
        · go_simp
        refine wpAny_take (i := 11) (v := .pointer (some ⟨p, 1, none⟩)) rfl (by kernel_rfl) (by kernel_rfl) (by kernel_rfl) (fun _ _ _ h => h) (Or.inl ⟨by kernel_rfl, fun w => ?_⟩) ?_
        · go_simp
        go_simp
        refine wpAny_ready (rs := [12]) (by kernel_rfl) (by simp) ?_
        refine AllReady.cons rfl (fun K hK => ?_) AllReady.nil
        go_simp
        refine hK _ _ ?_
        clear hK K
        refine wpAny_done (by kernel_rfl) ?_ _
        go_wp2_with fail
        go_ret
        exact ⟨rfl, HR3.out, HR4.out⟩
      · go_simp
        refine hK _ _ ?_
        clear hK K
        refine wpAny_ready (rs := [4]) (by kernel_rfl) (by simp) ?_
        refine AllReady.cons rfl (fun K hK => ?_) AllReady.nil
        go_simp
        refine hK _ _ ?_
        clear hK K
        refine wpAny_ready (rs := [9]) (by kernel_rfl) (by simp) ?_
        refine AllReady.cons rfl (fun K hK => ?_) AllReady.nil
        refine step_call3 (by kernel_rfl) 81 (.tmp 42) (.tmp 43) (.tmp 46) 75 3 75 (by kernel_rfl) (.slice ak M ck) (.int .i64 (k : Int)) (.slice (some ⟨W3.heap.size, 0, none⟩) 1 1) (by kernel_rfl) (by kernel_rfl) (by kernel_rfl) (fun w => by kernel_rfl) HSI.out ?_
        rintro e w4 ⟨gK, cK, rfl, hin⟩
        obtain ⟨r1, r2, r3, r4⟩ := HTAIL.out w4 gK cK hin
        have HR3 := hideIt r3
        have HR4 := hideIt r4
        refine ⟨_, rfl, ?_⟩
        refine hK _ _ ?_
        clear hK K hin r3 r4
        refine wpAny_take (i := 10) (v := .pointer (some ⟨p, 0, none⟩)) rfl (by kernel_rfl) (by kernel_rfl) (by kernel_rfl) (fun _ _ _ h => h) (Or.inl ⟨by kernel_rfl, fun w => ?_⟩) ?_
        · go_simp
        refine wpAny_take (i := 11) (v := .pointer (some ⟨p, 1, none⟩)) rfl (by kernel_rfl) (by kernel_rfl) (by kernel_rfl) (fun _ _ _ h => h) (Or.inl ⟨by kernel_rfl, fun w => ?_⟩) ?_
        · go_simp
        go_simp
        refine wpAny_ready (rs := [12]) (by kernel_rfl) (by simp) ?_
        refine AllReady.cons rfl (fun K hK => ?_) AllReady.nil
        go_simp
        refine hK _ _ ?_
        clear hK K
        refine wpAny_done (by kernel_rfl) ?_ _
        go_wp2_with fail
        go_ret
        exact ⟨rfl, HR3.out, HR4.out⟩
end Go.Proofs.Ytpakfgonemiebaa
