import Derived.Test.YtcidjhnogldgmaaGreatDoorImp1
import Derived.Test.YtcidjhnogldgmaaGreatDoorImp2
import Derived.Test.YtcidjhnogldgmaaGreatDoorTOk
import Derived.Test.YtcidjhnogldgmaaGreatDoorSLen
namespace Go.Proofs.YtcidjhnogldgmaaGreatDoor
open Go.RowKit
set_option linter.unusedSimpArgs false
set_option linter.unusedVariables false
theorem infoSl : (Tryz.prog.info? 30).map (fun i => (i.zero, i.size, i.bytes)) = some (some (.slice none 0 0), 1, 24) := by kernel_rfl
def fillV (KV : Nat → Value) (k j : Nat) : Value := if j < k then KV j else .slice none 0 0
theorem fillV_step {w : World} {b t n k : Nat} {KV : Nat → Value} {v : Value} (h : w.rowIs b t n (fillV KV k)) : (w.setCell ⟨b, k, none⟩ v).rowIs b t n (fillV (fun j => if j = k then v else KV j) (k + 1)) := by
  refine (h.set k _).congr fun i _ => ?_
  unfold fillV
  by_cases e : i = k
  · subst e; rw [if_pos rfl, if_pos (by omega)]; simp
  · rw [if_neg e]; by_cases g : i < k
    · rw [if_pos g, if_pos (by omega)]; simp [e]
    · rw [if_neg g, if_neg (by omega)]
theorem tabB_all {vs : List VN} (h1 : 1 ≤ vs.length) (h2 : vs.length ≤ 80) (h : ∀ k, k < vs.length → nodeB (nodeAt vs k) = true) : tabB vs = standB (kidsOf vs) vs.length 8 := by
  unfold tabB
  rw [show ((List.range vs.length).all fun i => nodeB (nodeAt vs i)) = true from ?_]
  · rw [show sizeB vs = true by simp [sizeB, h1, h2], Bool.true_and, Bool.true_and, standB]
    have hr : rootB vs = rootK (kidsOf vs) vs.length 8 := by
      unfold rootB rootK
      cases tr (kidsOf vs) (vs.length - 1) with
      | none => rfl
      | some p =>
        have : ((p.2 : Int) ≤ 8) ↔ p.2 ≤ 8 := by omega
        simp only [this]
    rw [hr]
  · rw [List.all_eq_true]
    exact fun k hk => h k (List.mem_range.1 hk)
set_option maxRecDepth 100000 in
set_option maxHeartbeats 3200000 in
theorem implOk_any (B : Nat) (v : Value) (vs : List VN) (w : World) (h : NodesAt B w v vs) (hB : B ≤ w.heap.size) :
    Calls Tryz.prog 26 #[v] w fun e w' => e = .returned (.bool (okB vs)) ∧ Below w.heap.size w w' := by
  have HE : Hid (tabB vs = okB vs) := okB_eq vs
  obtain ⟨hlen, a, cap, rfl, hcell⟩ := h
  by_cases h1 : vs.length < 1
  · have HO : Hid (okB vs = false) := okB_size (Or.inl h1)
    have h1' : (vs.length : Int) < 1 := by omega
    go_enter Tryz.func26, Tryz.ntmps26
    go_wp2_with fail
    go_ret
    exact ⟨ret_bool HO.out.symm, Below.refl _ _⟩
  by_cases h2 : 80 < vs.length
  · have HO : Hid (okB vs = false) := okB_size (Or.inr h2)
    have h1' : ¬ (vs.length : Int) < 1 := by omega
    have h2' : (80 : Int) < (vs.length : Int) := by omega
    go_enter Tryz.func26, Tryz.ntmps26
    go_wp2_with fail
    go_ret
    exact ⟨ret_bool HO.out.symm, Below.refl _ _⟩
  have h1' : ¬ (vs.length : Int) < 1 := by omega
  have h2' : ¬ (80 : Int) < (vs.length : Int) := by omega
  obtain ⟨b0, o0, rfl, hb0, hc⟩ := hcell (by omega)
  clear hcell
  have hmk := run_make_row' (P := Tryz.prog) 104 30 (.slice none 0 0) 24 Tryz.underlying104 infoSl rfl .i64 .i64 vs.length (by omega) (by omega)
  go_enter Tryz.func26, Tryz.ntmps26
  go_wp2_with fail
  clear hmk
  have hr0 : (w.alloc (.cells (madeCells #[Value.slice none 0 0] vs.length) 30)).rowIs w.heap.size 30 vs.length (fillV (fun _ => undef) 0) := (World.rowIs_made w _ _ _).congr fun i _ => by simp [fillV]
  have hbz : Below w.heap.size w (w.alloc (.cells (madeCells #[Value.slice none 0 0] vs.length) 30)) := (Below.refl _ _).alloc (Nat.le_refl _) _
  go_loopw [19] (fun i wr => ∃ (k : Nat) (KV : Nat → Value), k ≤ vs.length ∧ i = .int .i64 k ∧ wr.rowIs w.heap.size 30 vs.length (fillV KV k) ∧ (∀ j, j < k → nodeB (nodeAt vs j) = true ∧ IntsAt B w (KV j) (kidsOf vs j)) ∧ Below w.heap.size w wr) (fun i _ => vs.length - (intOf i).toNat)
  case atStart => exact ⟨0, _, Nat.zero_le _, rfl, hr0, fun j hj => by omega, hbz⟩
  case round =>
    obtain ⟨k, KV, hk, rfl, hrow, hall, hbel⟩ := hrel
    have HA := hideIt hall
    have HC := hideIt hc
    clear hall hr0 hbz hc
    by_cases hlt : k < vs.length
    · obtain ⟨ka, ki, hn⟩ := HC.out k hlt
      have hn' := hn.below (hbel.mono hB) hb0
      have c0 := hn'.c0
      have c1 := hn'.c1
      have c2 := hn'.c2
      have c3 := hn'.c3
      have c4 := hn'.c4
      have hin := hideIt hn'.inn
      have hinw := hideIt hn.inn.kids
      have hsize := hbel.size
      have hlt0 := hrow.lt
      obtain ⟨_, _, aK, cK, eK, _⟩ := hn'.inn.keys
      obtain ⟨_, _, aI, cI, eI, _⟩ := hn'.inn.kids
      subst eK eI
      have HR := hideIt hrow
      clear hn hn' hrow
      have hbx : Below w.heap.size w (wr.alloc (.cells #[.int .i64 (nodeAt vs k).kind, .int .i64 (nodeAt vs k).n, .string (nodeAt vs k).s, .slice aK (nodeAt vs k).keys.length cK, .slice aI (nodeAt vs k).kids.length cI] 32)) := hbel.alloc hsize _
      have hba : Below wr.heap.size wr (wr.alloc (.cells #[.int .i64 (nodeAt vs k).kind, .int .i64 (nodeAt vs k).n, .string (nodeAt vs k).s, .slice aK (nodeAt vs k).keys.length cK, .slice aI (nodeAt vs k).kids.length cI] 32)) := (Below.refl _ _).alloc (Nat.le_refl _) _
      have hinx := hideIt (hin.out.below (hba.mono (by omega)))
      by_cases hu : unnamedB (nodeAt vs k) = true
      · go_wp2_with fail
        refine (unnamedZero_any B (nodeAt vs k) _ _ _ hinx.out).mono ?_
        rintro e w1 ⟨rfl, hb1⟩
        have hc1 : ∀ o, w1.cell? ⟨wr.heap.size, o, none⟩ = (wr.alloc (.cells #[.int .i64 (nodeAt vs k).kind, .int .i64 (nodeAt vs k).n, .string (nodeAt vs k).s, .slice aK (nodeAt vs k).keys.length cK, .slice aI (nodeAt vs k).kids.length cI] 32)).cell? ⟨wr.heap.size, o, none⟩ := fun o => hb1.cell (p := ⟨wr.heap.size, o, none⟩) (by simp)
        have hz1 := hb1.size
        simp only [World.size_alloc] at hz1
        have hbx1 : Below w.heap.size w w1 := hbx.trans (hb1.mono (by simp; omega))
        have hinx1 := hideIt (hinx.out.below (hb1.mono (by simp; omega)))
        by_cases hm : namedB (nodeAt vs k) = true
        · have HN : Hid (nodeB (nodeAt vs k) = true) := by rw [Hid, nodeB, hu, hm]; rfl
          go_wp2_with fail
          refine (namedOk_any B (nodeAt vs k) _ _ _ hinx1.out (by omega)).mono ?_
          rintro e w2 ⟨rfl, hb2⟩
          have hc2 : ∀ o, w2.cell? ⟨wr.heap.size, o, none⟩ = (wr.alloc (.cells #[.int .i64 (nodeAt vs k).kind, .int .i64 (nodeAt vs k).n, .string (nodeAt vs k).s, .slice aK (nodeAt vs k).keys.length cK, .slice aI (nodeAt vs k).kids.length cI] 32)).cell? ⟨wr.heap.size, o, none⟩ := fun o => (hb2.cell (p := ⟨wr.heap.size, o, none⟩) (by show wr.heap.size < w1.heap.size; omega)).trans (hc1 o)
          have hbx2 : Below w.heap.size w w2 := hbx1.trans (hb2.mono (by omega))
          have hrow2 : w2.rowIs w.heap.size 30 vs.length (fillV KV k) := rowIs_below (rowIs_below (HR.out.alloc _) hb1 (by simp; omega)) hb2 (by omega)
          have hcs := hrow2.cell hlt
          have hfs := hrow2.frozen k
          have hnew := hideIt (fillV_step (v := .slice aI (nodeAt vs k).kids.length cI) hrow2)
          have hbn := hideIt (hbx2.setCell (p := ⟨w.heap.size, k, none⟩) (Nat.le_refl _) (.slice aI (nodeAt vs k).kids.length cI))
          have HA2 : Hid (∀ j, j < k + 1 → nodeB (nodeAt vs j) = true ∧ IntsAt B w (if j = k then .slice aI (nodeAt vs k).kids.length cI else KV j) (kidsOf vs j)) := fun j hj => by
            by_cases e : j = k
            · subst e; rw [if_pos rfl]; exact ⟨HN.out, hinw.out⟩
            · rw [if_neg e]; exact HA.out j (by omega)
          clear hrow2
          go_wp2_with fail
          go_roundw
          case rel => exact ⟨k + 1, _, by omega, by go_num, hnew.out, HA2.out, hbn.out⟩
          case measure => simp [intOf]; omega
        · have hm' : namedB (nodeAt vs k) = false := by simpa using hm
          have HO : Hid (okB vs = false) := okB_node hlt (by rw [nodeB, hm', Bool.and_false])
          clear hm
          go_wp2_with fail
          refine (namedOk_any B (nodeAt vs k) _ _ _ hinx1.out (by omega)).mono ?_
          rintro e w2 ⟨rfl, hb2⟩
          go_wp2_with fail
          go_ret
          exact ⟨ret_bool HO.out.symm, hbx1.trans (hb2.mono (by omega))⟩
      · have hu' : unnamedB (nodeAt vs k) = false := by simpa using hu
        have HO : Hid (okB vs = false) := okB_node hlt (by rw [nodeB, hu', Bool.false_and])
        clear hu
        go_wp2_with fail
        refine (unnamedZero_any B (nodeAt vs k) _ _ _ hinx.out).mono ?_
        rintro e w1 ⟨rfl, hb1⟩
        go_wp2_with fail
        go_ret
        exact ⟨ret_bool HO.out.symm, hbx.trans (hb1.mono (by simp; omega))⟩
    · obtain rfl : k = vs.length := by omega
      have HO : Hid (okB vs = standB (kidsOf vs) vs.length 8) := HE.out.symm.trans (tabB_all (by omega) (by omega) (fun j hj => (HA.out j hj).1))
      have hlt0 := hrow.lt
      have HR := hideIt hrow
      clear hrow
      go_wp2_with fail
      refine (nodesStand_any 8 (w.heap.size + 1) w.heap.size vs.length (kidsOf vs) KV _ (by omega) (by omega) (by omega) (by omega) (fun i hi => ⟨?_, ?_⟩)).mono ?_
      · rw [HR.out.cell hi, fillV, if_pos hi]
      · exact ((HA.out i hi).2.below (hbel.mono hB)).wide (by omega)
      · rintro e w1 ⟨rfl, hb1⟩
        go_wp2_with fail
        go_ret
        exact ⟨ret_bool HO.out.symm, hbel.trans (hb1.mono (by omega))⟩
end Go.Proofs.YtcidjhnogldgmaaGreatDoor

namespace Go.Proofs.YtcidjhnogldgmaaGreatDoor
open Go.RowKit
set_option linter.unusedSimpArgs false
set_option linter.unusedVariables false
structure FN where
  kind : Int
  name : ByteArray
  place : Int
  cst : List VN
  names : List ByteArray
  kids : List Int
def FN.zero : FN := ⟨0, ByteArray.empty, 0, [], [], []⟩
def fnAt (fs : List FN) (i : Nat) : FN := fs.getD i FN.zero
def fkids (fs : List FN) (i : Nat) : List Int := (fnAt fs i).kids
def letN (c : Nat) : Bool := (decide (97 ≤ c) && decide (c ≤ 122)) || ((decide (65 ≤ c) && decide (c ≤ 90)) || decide (c = 95))
def digN (c : Nat) : Bool := decide (48 ≤ c) && decide (c ≤ 57)
def byteAt (s : ByteArray) (j : Nat) : Nat := (s.data.getD j 0).toNat
def nameB (s : ByteArray) : Bool := decide (0 < s.size) && decide (s.size ≤ 60) && letN (byteAt s 0) && (List.range s.size).all fun j => letN (byteAt s j) || digN (byteAt s j)
theorem byteAt_get {s : ByteArray} {j : Nat} (h : j < s.size) : s[j].toNat = byteAt s j := by
  unfold byteAt
  have h' : j < s.data.size := h
  rw [show s.data.getD j 0 = s.data[j] by unfold Array.getD; exact dif_pos h']
  rfl
theorem nameB_text {s : ByteArray} (h : nameB s = true) : textB s = true := by
  unfold nameB at h
  simp only [Bool.and_eq_true, decide_eq_true_eq, List.all_eq_true, List.mem_range] at h
  unfold textB
  rw [Bool.and_eq_true, List.all_eq_true]
  refine ⟨by simp [h.1.1.2], fun c hc => ?_⟩
  obtain ⟨j, hj, rfl⟩ := List.getElem_of_mem hc
  have hj' : j < s.size := by simpa using hj
  have := h.2 j hj'
  rw [← byteAt_get hj'] at this
  rw [decide_eq_true_eq]
  show s[j].toNat ≤ 127
  unfold letN digN at this
  simp only [Bool.or_eq_true, Bool.and_eq_true, decide_eq_true_eq] at this
  omega
def nriseAt (l : List ByteArray) (j : Nat) : Bool := nameB (keyAt l j) && (decide (j = 0) || lessB (keyAt l (j - 1)) (keyAt l j))
def nriseB (l : List ByteArray) : Bool := (List.range l.length).all (nriseAt l)
def namesB (l : List ByteArray) : Bool := decide (l.length ≤ 5) && nriseB l
theorem nriseB_eq (l : List ByteArray) : nriseB l = (((List.range l.length).all fun j => nameB (keyAt l j)) && riseB l) := by
  rw [Bool.eq_iff_iff]
  unfold nriseB riseB
  simp only [Bool.and_eq_true, List.all_eq_true, List.mem_range]
  constructor
  · intro h
    refine ⟨fun j hj => ?_, fun j hj => ?_⟩
    · have := h j hj
      unfold nriseAt at this
      rw [Bool.and_eq_true] at this
      exact this.1
    · have := h j hj
      unfold nriseAt at this
      rw [Bool.and_eq_true] at this
      unfold riseAt
      rw [nameB_text this.1, Bool.true_and]
      exact this.2
  · rintro ⟨h1, h2⟩ j hj
    have := h2 j hj
    unfold riseAt at this
    rw [Bool.and_eq_true] at this
    unfold nriseAt
    rw [h1 j hj, Bool.true_and]
    exact this.2
theorem nriseB_false {l : List ByteArray} {k : Nat} (hk : k < l.length) (h : nriseAt l k = false) : nriseB l = false := by
  unfold nriseB
  rw [List.all_eq_false]
  exact ⟨k, List.mem_range.2 hk, by simp [h]⟩
def cstB (v : List VN) : Bool := decide (v.length = 1) && okB v && decide ((nodeAt v 0).kind ≠ 5) && decide ((nodeAt v 0).kind ≠ 6)
def zeroF (x : FN) : Bool :=
  !(decide (x.kind ≠ 2) && decide (x.name.toList ≠ [])) && !(decide (x.kind ≠ 3) && decide (x.place ≠ 0)) &&
  !(decide (x.kind ≠ 5) && decide (0 < x.cst.length)) && !(decide (x.kind ≠ 9) && decide (0 < x.names.length))
def ownF (x : FN) : Bool :=
  if x.kind = 2 then nameB x.name
  else if x.kind = 3 then decide (-80 ≤ x.place) && decide (x.place ≤ 80)
  else if x.kind = 5 then cstB x.cst
  else if x.kind = 9 then namesB x.names
  else true
def kidsN (k : Int) : Int :=
  if k = 6 ∨ k = 7 ∨ k = 15 ∨ k = 16 ∨ k = 17 ∨ k = 18 ∨ k = 19 ∨ k = 20 ∨ k = 21 then 2
  else if k = 10 ∨ k = 23 then 1
  else if k = 22 then 3
  else if k = 8 ∨ k = 9 then -1
  else 0
def fitF (x : FN) : Bool :=
  if x.kind = 8 then decide (x.kids.length ≤ 1)
  else if x.kind = 9 then decide (x.kids.length = x.names.length)
  else decide (1 ≤ x.kind) && decide (x.kind ≤ 23) && decide ((x.kids.length : Int) = kidsN x.kind)
def fnodeB (x : FN) : Bool := zeroF x && ownF x && fitF x
def fkidsIn (fs : List FN) (i : Nat) : Bool := (fkids fs i).all fun k => decide (0 ≤ k) && decide (k ≤ (i : Int) - 1)
def fsizeB (fs : List FN) : Bool := decide (1 ≤ fs.length) && decide (fs.length ≤ 40)
def okF (fs : List FN) : Bool := fsizeB fs && ((List.range fs.length).all fun i => fnodeB (fnAt fs i) && fkidsIn fs i) && rootK (fkids fs) fs.length 12
def tabF (fs : List FN) : Bool := fsizeB fs && ((List.range fs.length).all fun i => fnodeB (fnAt fs i)) && standB (fkids fs) fs.length 12
theorem okF_eq (fs : List FN) : tabF fs = okF fs := by
  rw [Bool.eq_iff_iff]
  unfold tabF okF standB
  simp only [Bool.and_eq_true, List.all_eq_true, List.mem_range]
  constructor
  · rintro ⟨⟨h1, h2⟩, h3, h4⟩
    refine ⟨⟨h1, fun i hi => ⟨h2 i hi, ?_⟩⟩, h4⟩
    obtain ⟨p, hp⟩ := Option.isSome_iff_exists.1 (h3 i hi)
    unfold fkidsIn
    simp only [List.all_eq_true, Bool.and_eq_true, decide_eq_true_eq]
    exact tr_kids hp
  · rintro ⟨⟨h1, h2⟩, h3⟩
    refine ⟨⟨h1, fun i hi => (h2 i hi).1⟩, fun i hi => ?_, h3⟩
    unfold rootK at h3
    cases hr : tr (fkids fs) (fs.length - 1) with
    | none => rw [hr] at h3; cases h3
    | some p =>
      rw [hr] at h3
      simp at h3
      obtain ⟨q, hq⟩ := tr_span _ _ hr i (by omega) (by omega)
      rw [hq]
      rfl
theorem okF_size {fs : List FN} (h : fs.length < 1 ∨ 40 < fs.length) : okF fs = false := by
  have : fsizeB fs = false := by simp [fsizeB]; omega
  simp [okF, this]
theorem okF_node {fs : List FN} {k : Nat} (hk : k < fs.length) (h : fnodeB (fnAt fs k) = false) : okF fs = false := by
  unfold okF
  rw [show ((List.range fs.length).all fun i => fnodeB (fnAt fs i) && fkidsIn fs i) = false from ?_, Bool.and_false, Bool.false_and]
  rw [List.all_eq_false]
  exact ⟨k, List.mem_range.2 hk, by simp [h]⟩
theorem tabF_all {fs : List FN} (h1 : 1 ≤ fs.length) (h2 : fs.length ≤ 40) (h : ∀ k, k < fs.length → fnodeB (fnAt fs k) = true) : tabF fs = standB (fkids fs) fs.length 12 := by
  unfold tabF
  rw [show ((List.range fs.length).all fun i => fnodeB (fnAt fs i)) = true from ?_]
  · rw [show fsizeB fs = true by simp [fsizeB, h1, h2], Bool.true_and, Bool.true_and]
  · rw [List.all_eq_true]
    exact fun k hk => h k (List.mem_range.1 hk)
structure FNodeIn (B : Nat) (w : World) (x : FN) (kc kn ki : Value) : Prop where
  cst : NodesAt B w kc x.cst
  names : StrsAt B w kn x.names
  kids : IntsAt B w ki x.kids
  size : x.name.size ≤ 140737488355328
  klo : -9223372036854775808 ≤ x.kind
  khi : x.kind ≤ 9223372036854775807
  nlo : -9223372036854775808 ≤ x.place
  nhi : x.place ≤ 9223372036854775807
structure FNodeAt (B : Nat) (w : World) (b o : Nat) (x : FN) (kc kn ki : Value) : Prop where
  c0 : w.cell? ⟨b, o, none⟩ = some (.int .i64 x.kind)
  c1 : w.cell? ⟨b, o + 1, none⟩ = some (.string x.name)
  c2 : w.cell? ⟨b, o + 2, none⟩ = some (.int .i64 x.place)
  c3 : w.cell? ⟨b, o + 3, none⟩ = some kc
  c4 : w.cell? ⟨b, o + 4, none⟩ = some kn
  c5 : w.cell? ⟨b, o + 5, none⟩ = some ki
  inn : FNodeIn B w x kc kn ki
def FNodesAt (B : Nat) (w : World) (v : Value) (fs : List FN) : Prop :=
  fs.length ≤ 1048576 ∧ ∃ a cap, v = .slice a fs.length cap ∧ (0 < fs.length → ∃ b o, a = some ⟨b, o, none⟩ ∧ b < B ∧ ∀ i, i < fs.length → ∃ kc kn ki, FNodeAt B w b (o + i * 6) (fnAt fs i) kc kn ki)
theorem FNodeIn.below {B : Nat} {w w' : World} {x : FN} {kc kn ki : Value} (h : FNodeIn B w x kc kn ki) (hb : Below B w w') : FNodeIn B w' x kc kn ki :=
  { h with cst := h.cst.below hb, names := h.names.below hb, kids := h.kids.below hb }
theorem FNodeAt.below {B : Nat} {w w' : World} {b o : Nat} {x : FN} {kc kn ki : Value} (h : FNodeAt B w b o x kc kn ki) (hb : Below B w w') (hB : b < B) : FNodeAt B w' b o x kc kn ki :=
  ⟨(below_cell hb hB).trans h.c0, (below_cell hb hB).trans h.c1, (below_cell hb hB).trans h.c2, (below_cell hb hB).trans h.c3, (below_cell hb hB).trans h.c4, (below_cell hb hB).trans h.c5, h.inn.below hb⟩
theorem FNodesAt.below {B : Nat} {w w' : World} {v : Value} {fs : List FN} (h : FNodesAt B w v fs) (hb : Below B w w') : FNodesAt B w' v fs := by
  obtain ⟨h1, a, cap, e, h3⟩ := h
  refine ⟨h1, a, cap, e, fun hl => ?_⟩
  obtain ⟨b, o, ea, hbB, hc⟩ := h3 hl
  refine ⟨b, o, ea, hbB, fun i hi => ?_⟩
  obtain ⟨kc, kn, ki, hn⟩ := hc i hi
  exact ⟨kc, kn, ki, hn.below hb hbB⟩
end Go.Proofs.YtcidjhnogldgmaaGreatDoor

namespace Go.Proofs.YtcidjhnogldgmaaGreatDoor
open Go.RowKit
set_option linter.unusedSimpArgs false
set_option linter.unusedVariables false
set_option maxRecDepth 100000 in
set_option maxHeartbeats 1600000 in
theorem valueOf_no (B : Nat) (v : Value) (vs : List VN) (w : World) (h : NodesAt B w v vs) (hB : B ≤ w.heap.size) (hno : okB vs = false) :
    Calls Tryz.prog 14 #[v] w fun e w' => e = .returned (.tuple #[.nilIface, .bool false]) ∧ Below w.heap.size w w' := by
  have HV := hideIt h
  obtain ⟨_, a, cap, rfl, _⟩ := h
  go_enter Tryz.func14, Tryz.ntmps14
  go_wp2_with fail
  refine (implOk_any B _ vs _ HV.out hB).mono ?_
  rintro e w1 ⟨rfl, hb1⟩
  go_wp2_with fail
  go_ret2
  exact ⟨rfl, hb1⟩
set_option maxRecDepth 100000 in
set_option maxHeartbeats 1600000 in
theorem valueOf_yes (B : Nat) (v : Value) (vs : List VN) (w : World) (h : NodesAt B w v vs) (hB : B ≤ w.heap.size) (hyes : okB vs = true) :
    Calls Tryz.prog 14 #[v] w fun e w' => ∃ lo t x, e = .returned (.tuple #[.iface t x, .bool true]) ∧ w.heap.size ≤ lo ∧ lo < w'.heap.size ∧ ValIs lo w'.heap.size w' vs vs.length (vs.length - 1) (.iface t x) ∧ Below w.heap.size w w' := by
  have HV := hideIt h
  obtain ⟨_, a, cap, rfl, _⟩ := h
  obtain ⟨⟨hn1, hn2⟩, hok, _, hkn⟩ := okB_parts hyes
  have HOK := hideIt hok
  have HKN := hideIt hkn
  clear hok hkn
  go_enter Tryz.func14, Tryz.ntmps14
  go_wp2_with fail
  refine (implOk_any B _ vs _ HV.out hB).mono ?_
  rintro e w1 ⟨rfl, hb1⟩
  have z1 := hb1.size
  go_wp2_with fail
  refine (valuesAt_any B _ vs _ (HV.out.below (hb1.mono hB)) (by omega) hn1 hn2 HOK.out HKN.out).mono ?_
  rintro e w2 ⟨VV, rfl, hrow, hvals, hb2⟩
  have z2 := hb2.size
  obtain ⟨t, x, hx⟩ := (hvals (vs.length - 1) (by omega)).iface
  have hc : w2.cell? ⟨w1.heap.size, vs.length - 1, none⟩ = some (.iface t x) := by rw [hrow.cell (by omega), hx]
  have hlt := hrow.lt
  have hval := hvals (vs.length - 1) (by omega)
  rw [hx] at hval
  have HVL := hideIt hval
  have p0 : ((vs.length : Int) - 1).toNat = vs.length - 1 := by omega
  clear hrow hvals hx hval
  go_wp2_with fail
  go_ret2
  exact ⟨w1.heap.size, t, x, rfl, by omega, hlt, ValIs.more (by omega) HVL.out, hb1.trans (hb2.mono z1)⟩
end Go.Proofs.YtcidjhnogldgmaaGreatDoor

namespace Go.Proofs.YtcidjhnogldgmaaGreatDoor
open Go.RowKit
set_option linter.unusedSimpArgs false
set_option linter.unusedVariables false
theorem TreeAt.iface {B : Nat} {w : World} {f : Nat} {t : VT} {v : Value} (h : TreeAt B w f t v) : ∃ ty x, v = .iface ty x := by
  cases f with
  | zero => exact h.elim
  | succ f =>
    obtain ⟨kind, n, s, keys, kids⟩ := t
    rcases h with ⟨_, _, _, _, _, rfl⟩ | ⟨_, _, _, _, rfl⟩ | ⟨_, _, _, _, rfl⟩ | ⟨_, _, _, _, rfl⟩ | ⟨_, _, _, _, it, rfl, _⟩ | ⟨_, _, _, ks, it, rfl, _⟩ <;> exact ⟨_, _, rfl⟩
def rightNs (ns : List VN) : List VN := if okB ns = true then ns else []
set_option maxRecDepth 100000 in
set_option maxHeartbeats 3200000 in
theorem rightNodes_any (f : Nat) (t : VT) (x : Value) (ns : List VN) (w : World) (ht : TreeAt w.heap.size w f t x) (hns : layT f t 0 = ns) (hn : ns.length ≤ 100000) (hf : ∀ i, i < ns.length → Fits (nodeAt ns i)) :
    Calls Tryz.prog 148 #[x] w fun e w' => ∃ r base KV IV, e = .returned (.tuple #[r, .bool (okB ns)]) ∧ w.heap.size ≤ base ∧ base ≤ w'.heap.size ∧ Nest base w' r (rightNs ns) KV IV ∧ Below w.heap.size w w' := by
  obtain ⟨ty, xv, rfl⟩ := ht.iface
  have HT := hideIt ht
  have HNS := hideIt hns
  have HF := hideIt hf
  have HRN : Hid (rightNs ns = if okB ns = true then ns else []) := rfl
  clear ht hns hf
  go_enter Tryz.func148, Tryz.ntmps148
  go_wp2_with fail
  refine (withNodes_any w.heap.size w.heap.size (Nat.le_refl _) f t (.iface ty xv) (.slice none 0 0) [] (fun _ => undef) (fun _ => undef) w (Nest.nil _ _ _ _) HT.out (Nat.le_refl _) (by rw [List.length_nil, HNS.out]; omega)).mono ?_
  rintro e w1 ⟨r, K, I, rfl, hl1⟩
  have hn1 : Nest w.heap.size w1 r ns K I := by have := hl1.1; rw [List.nil_append, List.length_nil, HNS.out] at this; exact this
  have hb1 : Below w.heap.size w w1 := (Below.refl _ _).grown hl1.2.1 (Nat.le_refl _) (fun k hk => by simp [Value.ownBlock] at hk)
  have z1 := hb1.size
  have HN1 := hideIt hn1
  have HB1 := hideIt hb1
  obtain ⟨ar, cr, er⟩ := own_slice hn1.row
  obtain ⟨N, hN⟩ : ∃ N, ns.length = N := ⟨_, rfl⟩
  rw [hN] at er
  subst er
  clear hn1 hb1 hN hl1
  go_wp2_with fail
  refine (implOk_any w1.heap.size _ ns _ (HN1.out.nodes (by omega) HF.out) (Nat.le_refl _)).mono ?_
  rintro e w2 ⟨rfl, hb2⟩
  have z2 := hb2.size
  have HN2 := hideIt (HN1.out.below hb2)
  have HB2 := hideIt (HB1.out.trans (hb2.mono z1))
  clear hb2
  cases ok1 : okB ns
  · go_wp2_with fail
    go_ret2
    exact ⟨.slice none 0 0, w.heap.size, fun _ => undef, fun _ => undef, by rw [ok1]; rfl, Nat.le_refl _, by omega, by rw [HRN.out, ok1]; exact Nest.nil _ _ _ _, HB2.out⟩
  · go_wp2_with fail
    go_ret2
    exact ⟨.slice ar N cr, w.heap.size, K, I, by rw [ok1]; rfl, Nat.le_refl _, by omega, by rw [HRN.out, ok1]; exact HN2.out, HB2.out⟩
end Go.Proofs.YtcidjhnogldgmaaGreatDoor

namespace Go.Proofs.YtcidjhnogldgmaaGreatDoor
open Go.RowKit
set_option linter.unusedSimpArgs false
set_option linter.unusedVariables false
set_option maxRecDepth 100000 in
set_option maxHeartbeats 6400000 in
theorem implPartsOf_any (B : Nat) (v : Value) (vs : List VN) (w : World) (h : NodesAt B w v vs) (hB : B ≤ w.heap.size) :
    Calls Tryz.prog 10 #[v] w fun e w' => ∃ r base rs KV IV lo, e = .returned r ∧ w.heap.size ≤ base ∧ Rows2 base w' r (partsN vs) (PL vs) rs KV IV lo ∧ Below w.heap.size w w' := by
  have HV := hideIt h
  obtain ⟨_, a, cap, rfl, _⟩ := h
  have HPN : Hid (partsN vs = if okB vs = true then (rootKids vs).length else 0) := rfl
  obtain ⟨i0, hi0, hz0, hs0, hy0⟩ := info_parts infoRow
  go_enter Tryz.func10, Tryz.ntmps10
  go_wp2_with fail
  cases ok1 : okB vs
  · refine (valueOf_no B _ vs _ HV.out hB ok1).mono ?_
    rintro e w1 ⟨rfl, hb1⟩
    have z1 := hb1.size
    go_wp2_with fail
    go_ret
    exact ⟨_, w1.heap.size, _, _, _, _, rfl, z1, by rw [HPN.out, ok1]; exact Rows2.start (World.ownsRow_nil _ _ _ _) (Nat.le_refl _) (PL vs), hb1⟩
  · refine (valueOf_yes B _ vs _ HV.out hB ok1).mono ?_
    rintro e w1 ⟨lo1, t, x, rfl, hl1, hl1', hv1, hb1⟩
    have z1 := hb1.size
    obtain ⟨p1, p2, _, p4⟩ := okB_parts ok1
    have ht := ValIs.tree (by omega) p2 p4 p1.2 (by omega) hv1
    obtain ⟨f, hf⟩ : ∃ f, vs.length = f + 1 := ⟨vs.length - 1, by omega⟩
    have HRK := hideIt (fun k hk => root_kid (k := k) ok1 hk)
    have HLP := hideIt (fun q (hq : q < f) => (lay_part ok1 hq (show q < vs.length by omega)))
    have HB1 := hideIt hb1
    have HPN1 : Hid (partsN vs = (rootKids vs).length) := by rw [Hid, HPN.out, if_pos ok1]
    rw [hf, show f + 1 - 1 = f by omega, treeOf] at ht
    have hk80 : (rootKids vs).length ≤ 80 := by have := p4 (vs.length - 1) (by omega); unfold rootKids; omega
    have HRE : Hid (rootKids vs = (nodeAt vs f).kids) := by rw [Hid]; unfold rootKids; rw [hf]; rfl
    have HTK : Hid (∀ k, k < (rootKids vs).length → ∃ q : Nat, kidT ((nodeAt vs f).kids.map fun k => treeOf vs f k.toNat) k = treeOf vs f q ∧ PL vs k = partOf vs q ∧ q < f) := by
      intro k hk
      obtain ⟨q, hq, hql⟩ := HRK.out k hk
      refine ⟨q, ?_, ?_, by omega⟩
      · rw [← HRE.out, kidT_map hk, hq, Int.toNat_natCast]
      · unfold PL; rw [hq, Int.toNat_natCast]
    obtain ⟨M, hM⟩ : ∃ M, (rootKids vs).length = M := ⟨_, rfl⟩
    have hM2 : ((nodeAt vs f).kids.map fun k => treeOf vs f k.toNat).length = M := by rw [List.length_map, ← HRE.out, hM]
    rw [hM] at hk80 HTK HPN1
    generalize ((nodeAt vs f).kids.map fun k => treeOf vs f k.toNat) = TT at ht HTK hM2
    clear hv1 p2 p4 hf hM hb1
    rcases ht with ⟨_, _, _, _, hk0, e⟩ | ⟨_, _, _, hk0, e⟩ | ⟨_, _, _, hk0, e⟩ | ⟨_, _, _, hk0, e⟩ | ⟨_, _, _, _, it, e, hi⟩ | ⟨_, _, _, ks, it, e, hs, hi⟩
    · cases e
      obtain rfl : M = 0 := by rw [← hM2, hk0]; rfl
      clear hk0 hM2 HTK
      go_wp2_with fail
      refine (parts1_any _).mono ?_
      rintro e w2 ⟨rfl, hb2⟩
      have z2 := hb2.size
      have HB2 := hideIt hb2
      have HR0 := hideIt (Rows2.start (base := w2.heap.size) (World.ownsRow_nil _ _ _ _) (Nat.le_refl _) (PL vs))
      clear hb2
      go_wp2_with fail
      go_loopw [5, 18] (fun o i wr => ∃ (k : Nat) (rs : Nat → Value) (KV IV : Nat → Nat → Value) (lo : Nat → Nat), k ≤ 0 ∧ i = .int .i64 k ∧ Rows2 w2.heap.size wr o k (PL vs) rs KV IV lo ∧ Below w2.heap.size w2 wr) (fun _ i _ => 0 - (intOf i).toNat)
      case atStart => exact ⟨0, _, _, _, _, Nat.zero_le _, rfl, HR0.out, Below.refl _ _⟩
      case round =>
        obtain ⟨k, rs, KV, IV, lo, hk, rfl, hrows, hbl⟩ := hrel
        have HR := hideIt hrows
        have zs := hbl.size
        obtain ⟨ao, co, eo⟩ := own_slice hrows.row
        subst eo
        clear hrows
        obtain rfl : k = 0 := by omega
        go_wp2_with fail
        go_ret
        exact ⟨_, w2.heap.size, _, _, _, _, rfl, by omega, by rw [HPN1.out]; exact HR.out, (HB1.out.trans (HB2.out.mono z1)).trans (hbl.mono (by omega))⟩
    · cases e
      obtain rfl : M = 0 := by rw [← hM2, hk0]; rfl
      clear hk0 hM2 HTK
      go_wp2_with fail
      refine (parts2_any _ _).mono ?_
      rintro e w2 ⟨rfl, hb2⟩
      have z2 := hb2.size
      have HB2 := hideIt hb2
      have HR0 := hideIt (Rows2.start (base := w2.heap.size) (World.ownsRow_nil _ _ _ _) (Nat.le_refl _) (PL vs))
      clear hb2
      go_wp2_with fail
      go_loopw [5, 18] (fun o i wr => ∃ (k : Nat) (rs : Nat → Value) (KV IV : Nat → Nat → Value) (lo : Nat → Nat), k ≤ 0 ∧ i = .int .i64 k ∧ Rows2 w2.heap.size wr o k (PL vs) rs KV IV lo ∧ Below w2.heap.size w2 wr) (fun _ i _ => 0 - (intOf i).toNat)
      case atStart => exact ⟨0, _, _, _, _, Nat.zero_le _, rfl, HR0.out, Below.refl _ _⟩
      case round =>
        obtain ⟨k, rs, KV, IV, lo, hk, rfl, hrows, hbl⟩ := hrel
        have HR := hideIt hrows
        have zs := hbl.size
        obtain ⟨ao, co, eo⟩ := own_slice hrows.row
        subst eo
        clear hrows
        obtain rfl : k = 0 := by omega
        go_wp2_with fail
        go_ret
        exact ⟨_, w2.heap.size, _, _, _, _, rfl, by omega, by rw [HPN1.out]; exact HR.out, (HB1.out.trans (HB2.out.mono z1)).trans (hbl.mono (by omega))⟩
    · cases e
      obtain rfl : M = 0 := by rw [← hM2, hk0]; rfl
      clear hk0 hM2 HTK
      go_wp2_with fail
      refine (parts3_any _ _).mono ?_
      rintro e w2 ⟨rfl, hb2⟩
      have z2 := hb2.size
      have HB2 := hideIt hb2
      have HR0 := hideIt (Rows2.start (base := w2.heap.size) (World.ownsRow_nil _ _ _ _) (Nat.le_refl _) (PL vs))
      clear hb2
      go_wp2_with fail
      go_loopw [5, 18] (fun o i wr => ∃ (k : Nat) (rs : Nat → Value) (KV IV : Nat → Nat → Value) (lo : Nat → Nat), k ≤ 0 ∧ i = .int .i64 k ∧ Rows2 w2.heap.size wr o k (PL vs) rs KV IV lo ∧ Below w2.heap.size w2 wr) (fun _ i _ => 0 - (intOf i).toNat)
      case atStart => exact ⟨0, _, _, _, _, Nat.zero_le _, rfl, HR0.out, Below.refl _ _⟩
      case round =>
        obtain ⟨k, rs, KV, IV, lo, hk, rfl, hrows, hbl⟩ := hrel
        have HR := hideIt hrows
        have zs := hbl.size
        obtain ⟨ao, co, eo⟩ := own_slice hrows.row
        subst eo
        clear hrows
        obtain rfl : k = 0 := by omega
        go_wp2_with fail
        go_ret
        exact ⟨_, w2.heap.size, _, _, _, _, rfl, by omega, by rw [HPN1.out]; exact HR.out, (HB1.out.trans (HB2.out.mono z1)).trans (hbl.mono (by omega))⟩
    · cases e
      obtain rfl : M = 0 := by rw [← hM2, hk0]; rfl
      clear hk0 hM2 HTK
      go_wp2_with fail
      refine (parts4_any _ _).mono ?_
      rintro e w2 ⟨rfl, hb2⟩
      have z2 := hb2.size
      have HB2 := hideIt hb2
      have HR0 := hideIt (Rows2.start (base := w2.heap.size) (World.ownsRow_nil _ _ _ _) (Nat.le_refl _) (PL vs))
      clear hb2
      go_wp2_with fail
      go_loopw [5, 18] (fun o i wr => ∃ (k : Nat) (rs : Nat → Value) (KV IV : Nat → Nat → Value) (lo : Nat → Nat), k ≤ 0 ∧ i = .int .i64 k ∧ Rows2 w2.heap.size wr o k (PL vs) rs KV IV lo ∧ Below w2.heap.size w2 wr) (fun _ i _ => 0 - (intOf i).toNat)
      case atStart => exact ⟨0, _, _, _, _, Nat.zero_le _, rfl, HR0.out, Below.refl _ _⟩
      case round =>
        obtain ⟨k, rs, KV, IV, lo, hk, rfl, hrows, hbl⟩ := hrel
        have HR := hideIt hrows
        have zs := hbl.size
        obtain ⟨ao, co, eo⟩ := own_slice hrows.row
        subst eo
        clear hrows
        obtain rfl : k = 0 := by omega
        go_wp2_with fail
        go_ret
        exact ⟨_, w2.heap.size, _, _, _, _, rfl, by omega, by rw [HPN1.out]; exact HR.out, (HB1.out.trans (HB2.out.mono z1)).trans (hbl.mono (by omega))⟩
    · cases e
      rw [hM2] at hi
      obtain ⟨_, ai, ci, rfl, hx⟩ := hi
      have HX := hideIt hx
      clear hx hM2
      go_wp2_with fail
      refine (parts5_any _ _ _ _).mono ?_
      rintro e w2 ⟨rfl, hb2⟩
      have z2 := hb2.size
      have HB2 := hideIt hb2
      have HR0 := hideIt (Rows2.start (base := w2.heap.size) (World.ownsRow_nil _ _ _ _) (Nat.le_refl _) (PL vs))
      clear hb2
      go_wp2_with fail
      go_loopw [5, 18] (fun o i wr => ∃ (k : Nat) (rs : Nat → Value) (KV IV : Nat → Nat → Value) (lo : Nat → Nat), k ≤ M ∧ i = .int .i64 k ∧ Rows2 w2.heap.size wr o k (PL vs) rs KV IV lo ∧ Below w2.heap.size w2 wr) (fun _ i _ => M - (intOf i).toNat)
      case atStart => exact ⟨0, _, _, _, _, Nat.zero_le _, rfl, HR0.out, Below.refl _ _⟩
      case round =>
        obtain ⟨k, rs, KV, IV, lo, hk, rfl, hrows, hbl⟩ := hrel
        have HR := hideIt hrows
        have zs := hbl.size
        obtain ⟨ao, co, eo⟩ := own_slice hrows.row
        subst eo
        clear hrows
        by_cases hlt : k < M
        · obtain ⟨b, rfl, hbB, hc⟩ := HX.out (by omega)
          obtain ⟨tk, xk, hck, htk⟩ := hc k hlt
          obtain ⟨q, hq1, hq2, hqf⟩ := HTK.out k hlt
          have hw : ∀ c, c < w1.heap.size → wr.heap[c]? = w1.heap[c]? := fun c hcc => (hbl.block c (by omega)).trans (HB2.out.block c hcc)
          have hck' : wr.cell? ⟨b, k, none⟩ = some (.iface tk xk) := (World.cell?_of_block (hw b hbB)).trans hck
          rw [hq1] at htk
          have HT := hideIt (TreeAt.keep hw (Nat.le_refl _) htk)
          have HL := hideIt (HLP.out q hqf)
          have HQ2 := hideIt hq2
          clear hc hck htk hq1 hq2 hw
          go_wp2_with fail
          refine (withNodes_any w1.heap.size wr.heap.size (by omega) f (treeOf vs f q) (.iface tk xk) (.slice none 0 0) [] (fun _ => undef) (fun _ => undef) wr (Nest.nil _ _ _ _) HT.out (Nat.le_refl _) (by have := HL.out; simp only [List.length_nil, Nat.zero_add, this.1]; omega)).mono ?_
          rintro e w3 ⟨r, K, I, rfl, hl3⟩
          have hn3 : Nest wr.heap.size w3 r (PL vs k) K I := by have := hl3.1; rw [List.nil_append, List.length_nil, HL.out.1, ← HQ2.out] at this; exact this
          have hb3 : Below wr.heap.size wr w3 := (Below.refl _ _).grown hl3.2.1 (Nat.le_refl _) (fun k hk => by simp [Value.ownBlock] at hk)
          have HN3 := hideIt hn3
          obtain ⟨ar, cr, er⟩ := own_slice hn3.row
          obtain ⟨Lk, hLk⟩ : ∃ Lk, (PL vs k).length = Lk := ⟨_, rfl⟩
          rw [hLk] at er
          subst er
          have HB3 := hideIt hb3
          have z3 := hb3.size
          have HROW := hideIt (HR.out.below hb3).row
          clear hn3 hb3 hLk hl3
          go_wp2_with (at_builtin; refine wpList_append_own_at _ rfl _ _ 33 rfl w2.heap.size 24 i0 (.slice none 0 0) 1 24 Tryz.underlying33 hi0 hz0 hs0 hy0 rfl (by decide) _ _ _ rfl (HROW.out.alloc _) ⟨w3.heap.size, 0, none⟩ 1 1 [.slice ar Lk cr] rfl rfl ?c1 ?c2 ?c3 ?c4 ?c5 ?_)
          case c1 => exact cell_one_new _ _ _
          case c2 => intro u hu; simp at hu; subst hu; rfl
          case c3 => unfold maxLen; omega
          case c4 => omega
          case c5 => simp; omega
          intro v' w5 hown hgrow _ _
          have HR5 := hideIt (HR.out.snoc HB3.out HN3.out hown hgrow)
          have HB5 : Hid (Below w2.heap.size w2 w5) := ((hbl.trans (HB3.out.mono zs)).alloc (by omega) _).grown hgrow (by simp; omega) (fun x hx => (HROW.out.lt x hx).1)
          clear hown hgrow
          go_wp2_with fail
          go_roundw
          case rel => exact ⟨k + 1, _, _, _, _, by omega, by go_num, HR5.out, HB5.out⟩
          case measure => simp [intOf]; omega
        · obtain rfl : k = M := by omega
          go_wp2_with fail
          go_ret
          exact ⟨_, w2.heap.size, _, _, _, _, rfl, by omega, by rw [HPN1.out]; exact HR.out, (HB1.out.trans (HB2.out.mono z1)).trans (hbl.mono (by omega))⟩
    · cases e
      rw [hM2] at hi
      obtain ⟨_, ai, ci, rfl, hx⟩ := hi
      obtain ⟨_, _, aS, cS, rfl, _⟩ := hs
      have HX := hideIt hx
      clear hx hM2
      go_wp2_with fail
      refine (parts6_any _ _ _ _ _ _ _).mono ?_
      rintro e w2 ⟨rfl, hb2⟩
      have z2 := hb2.size
      have HB2 := hideIt hb2
      have HR0 := hideIt (Rows2.start (base := w2.heap.size) (World.ownsRow_nil _ _ _ _) (Nat.le_refl _) (PL vs))
      clear hb2
      go_wp2_with fail
      go_loopw [5, 18] (fun o i wr => ∃ (k : Nat) (rs : Nat → Value) (KV IV : Nat → Nat → Value) (lo : Nat → Nat), k ≤ M ∧ i = .int .i64 k ∧ Rows2 w2.heap.size wr o k (PL vs) rs KV IV lo ∧ Below w2.heap.size w2 wr) (fun _ i _ => M - (intOf i).toNat)
      case atStart => exact ⟨0, _, _, _, _, Nat.zero_le _, rfl, HR0.out, Below.refl _ _⟩
      case round =>
        obtain ⟨k, rs, KV, IV, lo, hk, rfl, hrows, hbl⟩ := hrel
        have HR := hideIt hrows
        have zs := hbl.size
        obtain ⟨ao, co, eo⟩ := own_slice hrows.row
        subst eo
        clear hrows
        by_cases hlt : k < M
        · obtain ⟨b, rfl, hbB, hc⟩ := HX.out (by omega)
          obtain ⟨tk, xk, hck, htk⟩ := hc k hlt
          obtain ⟨q, hq1, hq2, hqf⟩ := HTK.out k hlt
          have hw : ∀ c, c < w1.heap.size → wr.heap[c]? = w1.heap[c]? := fun c hcc => (hbl.block c (by omega)).trans (HB2.out.block c hcc)
          have hck' : wr.cell? ⟨b, k, none⟩ = some (.iface tk xk) := (World.cell?_of_block (hw b hbB)).trans hck
          rw [hq1] at htk
          have HT := hideIt (TreeAt.keep hw (Nat.le_refl _) htk)
          have HL := hideIt (HLP.out q hqf)
          have HQ2 := hideIt hq2
          clear hc hck htk hq1 hq2 hw
          go_wp2_with fail
          refine (withNodes_any w1.heap.size wr.heap.size (by omega) f (treeOf vs f q) (.iface tk xk) (.slice none 0 0) [] (fun _ => undef) (fun _ => undef) wr (Nest.nil _ _ _ _) HT.out (Nat.le_refl _) (by have := HL.out; simp only [List.length_nil, Nat.zero_add, this.1]; omega)).mono ?_
          rintro e w3 ⟨r, K, I, rfl, hl3⟩
          have hn3 : Nest wr.heap.size w3 r (PL vs k) K I := by have := hl3.1; rw [List.nil_append, List.length_nil, HL.out.1, ← HQ2.out] at this; exact this
          have hb3 : Below wr.heap.size wr w3 := (Below.refl _ _).grown hl3.2.1 (Nat.le_refl _) (fun k hk => by simp [Value.ownBlock] at hk)
          have HN3 := hideIt hn3
          obtain ⟨ar, cr, er⟩ := own_slice hn3.row
          obtain ⟨Lk, hLk⟩ : ∃ Lk, (PL vs k).length = Lk := ⟨_, rfl⟩
          rw [hLk] at er
          subst er
          have HB3 := hideIt hb3
          have z3 := hb3.size
          have HROW := hideIt (HR.out.below hb3).row
          clear hn3 hb3 hLk hl3
          go_wp2_with (at_builtin; refine wpList_append_own_at _ rfl _ _ 33 rfl w2.heap.size 24 i0 (.slice none 0 0) 1 24 Tryz.underlying33 hi0 hz0 hs0 hy0 rfl (by decide) _ _ _ rfl (HROW.out.alloc _) ⟨w3.heap.size, 0, none⟩ 1 1 [.slice ar Lk cr] rfl rfl ?c1 ?c2 ?c3 ?c4 ?c5 ?_)
          case c1 => exact cell_one_new _ _ _
          case c2 => intro u hu; simp at hu; subst hu; rfl
          case c3 => unfold maxLen; omega
          case c4 => omega
          case c5 => simp; omega
          intro v' w5 hown hgrow _ _
          have HR5 := hideIt (HR.out.snoc HB3.out HN3.out hown hgrow)
          have HB5 : Hid (Below w2.heap.size w2 w5) := ((hbl.trans (HB3.out.mono zs)).alloc (by omega) _).grown hgrow (by simp; omega) (fun x hx => (HROW.out.lt x hx).1)
          clear hown hgrow
          go_wp2_with fail
          go_roundw
          case rel => exact ⟨k + 1, _, _, _, _, by omega, by go_num, HR5.out, HB5.out⟩
          case measure => simp [intOf]; omega
        · obtain rfl : k = M := by omega
          go_wp2_with fail
          go_ret
          exact ⟨_, w2.heap.size, _, _, _, _, rfl, by omega, by rw [HPN1.out]; exact HR.out, (HB1.out.trans (HB2.out.mono z1)).trans (hbl.mono (by omega))⟩
end Go.Proofs.YtcidjhnogldgmaaGreatDoor
