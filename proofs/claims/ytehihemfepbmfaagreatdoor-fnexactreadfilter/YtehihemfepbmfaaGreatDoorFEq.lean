/-
  The program's check of a whole value: it answers as the specification's.
-/
import Derived.Test.YtehihemfepbmfaaGreatDoorImp1
import Derived.Test.YtehihemfepbmfaaGreatDoorImp2
import Derived.Test.YtehihemfepbmfaaGreatDoorVAt
import Derived.Test.YtehihemfepbmfaaGreatDoorEq
namespace Go.Proofs.YtehihemfepbmfaaGreatDoor
open Go.RowKit
set_option linter.unusedSimpArgs false
set_option linter.unusedVariables false

theorem infoSl : (Tryz.prog.info? 49).map (fun i => (i.zero, i.size, i.bytes)) = some (some (.slice none 0 0), 1, 24) := by kernel_rfl

def fillV (KV : Nat → Value) (k j : Nat) : Value := if j < k then KV j else .slice none 0 0
theorem fillV_step {w : World} {b t n k : Nat} {KV : Nat → Value} {v : Value} (h : w.rowIs b t n (fillV KV k)) : (w.setCell ⟨b, k, none⟩ v).rowIs b t n (fillV (fun j => if j = k then v else KV j) (k + 1)) := by
  refine (h.set k _).congr fun i _ => ?_
  unfold fillV
  by_cases e : i = k
  · subst e; rw [if_pos rfl, if_pos (by omega)]; simp
  · rw [if_neg e]; by_cases g : i < k
    · rw [if_pos g, if_pos (by omega)]; simp [e]
    · rw [if_neg g, if_neg (by omega)]

theorem tabB_all {vs : List VN} (h1 : 1 ≤ vs.length) (h2 : vs.length ≤ 80) (h : ∀ k, k < vs.length → nodeB (nodeAt vs k) = true) : tabB vs = standB (kidsOf vs) vs.length 8 := by
  unfold tabB
  rw [show ((List.range vs.length).all fun i => nodeB (nodeAt vs i)) = true from ?_]
  · rw [show sizeB vs = true by simp [sizeB, h1, h2], Bool.true_and, Bool.true_and, standB]
    have hr : rootB vs = rootK (kidsOf vs) vs.length 8 := by
      unfold rootB rootK
      cases tr (kidsOf vs) (vs.length - 1) with
      | none => rfl
      | some p =>
        have : ((p.2 : Int) ≤ 8) ↔ p.2 ≤ 8 := by omega
        simp only [this]
    rw [hr]
  · rw [List.all_eq_true]
    exact fun k hk => h k (List.mem_range.1 hk)

set_option maxRecDepth 100000 in
set_option maxHeartbeats 3200000 in
theorem implOk_any (B : Nat) (v : Value) (vs : List VN) (w : World) (h : NodesAt B w v vs) (hB : B ≤ w.heap.size) :
    Calls Tryz.prog 100 #[v] w fun e w' => e = .returned (.bool (okB vs)) ∧ Below w.heap.size w w' := by
  have HE : Hid (tabB vs = okB vs) := okB_eq vs
  obtain ⟨hlen, a, cap, rfl, hcell⟩ := h
  by_cases h1 : vs.length < 1
  · have HO : Hid (okB vs = false) := okB_size (Or.inl h1)
    have h1' : (vs.length : Int) < 1 := by omega
    go_enter Tryz.func100, Tryz.ntmps100
    go_wp2_with fail
    go_ret
    exact ⟨ret_bool HO.out.symm, Below.refl _ _⟩
  by_cases h2 : 80 < vs.length
  · have HO : Hid (okB vs = false) := okB_size (Or.inr h2)
    have h1' : ¬ (vs.length : Int) < 1 := by omega
    have h2' : (80 : Int) < (vs.length : Int) := by omega
    go_enter Tryz.func100, Tryz.ntmps100
    go_wp2_with fail
    go_ret
    exact ⟨ret_bool HO.out.symm, Below.refl _ _⟩
  have h1' : ¬ (vs.length : Int) < 1 := by omega
  have h2' : ¬ (80 : Int) < (vs.length : Int) := by omega
  obtain ⟨b0, o0, rfl, hb0, hc⟩ := hcell (by omega)
  clear hcell
  have hmk := run_make_row' (P := Tryz.prog) 46 49 (.slice none 0 0) 24 Tryz.underlying46 infoSl rfl .i64 .i64 vs.length (by omega) (by omega)
  go_enter Tryz.func100, Tryz.ntmps100
  go_wp2_with fail
  clear hmk
  have hr0 : (w.alloc (.cells (madeCells #[Value.slice none 0 0] vs.length) 49)).rowIs w.heap.size 49 vs.length (fillV (fun _ => undef) 0) := (World.rowIs_made w _ _ _).congr fun i _ => by simp [fillV]
  have hbz : Below w.heap.size w (w.alloc (.cells (madeCells #[Value.slice none 0 0] vs.length) 49)) := (Below.refl _ _).alloc (Nat.le_refl _) _
  go_loopw [19] (fun i wr => ∃ (k : Nat) (KV : Nat → Value), k ≤ vs.length ∧ i = .int .i64 k ∧ wr.rowIs w.heap.size 49 vs.length (fillV KV k) ∧ (∀ j, j < k → nodeB (nodeAt vs j) = true ∧ IntsAt B w (KV j) (kidsOf vs j)) ∧ Below w.heap.size w wr) (fun i _ => vs.length - (intOf i).toNat)
  case atStart => exact ⟨0, _, Nat.zero_le _, rfl, hr0, fun j hj => by omega, hbz⟩
  case round =>
    obtain ⟨k, KV, hk, rfl, hrow, hall, hbel⟩ := hrel
    have HA := hideIt hall
    have HC := hideIt hc
    clear hall hr0 hbz hc
    by_cases hlt : k < vs.length
    · obtain ⟨ka, ki, hn⟩ := HC.out k hlt
      have hn' := hn.below (hbel.mono hB) hb0
      have c0 := hn'.c0
      have c1 := hn'.c1
      have c2 := hn'.c2
      have c3 := hn'.c3
      have c4 := hn'.c4
      have hin := hideIt hn'.inn
      have hinw := hideIt hn.inn.kids
      have hsize := hbel.size
      have hlt0 := hrow.lt
      obtain ⟨_, _, aK, cK, eK, _⟩ := hn'.inn.keys
      obtain ⟨_, _, aI, cI, eI, _⟩ := hn'.inn.kids
      subst eK eI
      have HR := hideIt hrow
      clear hn hn' hrow
      have hbx : Below w.heap.size w (wr.alloc (.cells #[.int .i64 (nodeAt vs k).kind, .int .i64 (nodeAt vs k).n, .string (nodeAt vs k).s, .slice aK (nodeAt vs k).keys.length cK, .slice aI (nodeAt vs k).kids.length cI] 102)) := hbel.alloc hsize _
      have hba : Below wr.heap.size wr (wr.alloc (.cells #[.int .i64 (nodeAt vs k).kind, .int .i64 (nodeAt vs k).n, .string (nodeAt vs k).s, .slice aK (nodeAt vs k).keys.length cK, .slice aI (nodeAt vs k).kids.length cI] 102)) := (Below.refl _ _).alloc (Nat.le_refl _) _
      have hinx := hideIt (hin.out.below (hba.mono (by omega)))
      by_cases hu : unnamedB (nodeAt vs k) = true
      · go_wp2_with fail
        refine (unnamedZero_any B (nodeAt vs k) _ _ _ hinx.out).mono ?_
        rintro e w1 ⟨rfl, hb1⟩
        have hc1 : ∀ o, w1.cell? ⟨wr.heap.size, o, none⟩ = (wr.alloc (.cells #[.int .i64 (nodeAt vs k).kind, .int .i64 (nodeAt vs k).n, .string (nodeAt vs k).s, .slice aK (nodeAt vs k).keys.length cK, .slice aI (nodeAt vs k).kids.length cI] 102)).cell? ⟨wr.heap.size, o, none⟩ := fun o => hb1.cell (p := ⟨wr.heap.size, o, none⟩) (by simp)
        have hz1 := hb1.size
        simp only [World.size_alloc] at hz1
        have hbx1 : Below w.heap.size w w1 := hbx.trans (hb1.mono (by simp; omega))
        have hinx1 := hideIt (hinx.out.below (hb1.mono (by simp; omega)))
        by_cases hm : namedB (nodeAt vs k) = true
        · have HN : Hid (nodeB (nodeAt vs k) = true) := by rw [Hid, nodeB, hu, hm]; rfl
          go_wp2_with fail
          refine (namedOk_any B (nodeAt vs k) _ _ _ hinx1.out (by omega)).mono ?_
          rintro e w2 ⟨rfl, hb2⟩
          have hc2 : ∀ o, w2.cell? ⟨wr.heap.size, o, none⟩ = (wr.alloc (.cells #[.int .i64 (nodeAt vs k).kind, .int .i64 (nodeAt vs k).n, .string (nodeAt vs k).s, .slice aK (nodeAt vs k).keys.length cK, .slice aI (nodeAt vs k).kids.length cI] 102)).cell? ⟨wr.heap.size, o, none⟩ := fun o => (hb2.cell (p := ⟨wr.heap.size, o, none⟩) (by show wr.heap.size < w1.heap.size; omega)).trans (hc1 o)
          have hbx2 : Below w.heap.size w w2 := hbx1.trans (hb2.mono (by omega))
          have hrow2 : w2.rowIs w.heap.size 49 vs.length (fillV KV k) := rowIs_below (rowIs_below (HR.out.alloc _) hb1 (by simp; omega)) hb2 (by omega)
          have hcs := hrow2.cell hlt
          have hfs := hrow2.frozen k
          have hnew := hideIt (fillV_step (v := .slice aI (nodeAt vs k).kids.length cI) hrow2)
          have hbn := hideIt (hbx2.setCell (p := ⟨w.heap.size, k, none⟩) (Nat.le_refl _) (.slice aI (nodeAt vs k).kids.length cI))
          have HA2 : Hid (∀ j, j < k + 1 → nodeB (nodeAt vs j) = true ∧ IntsAt B w (if j = k then .slice aI (nodeAt vs k).kids.length cI else KV j) (kidsOf vs j)) := fun j hj => by
            by_cases e : j = k
            · subst e; rw [if_pos rfl]; exact ⟨HN.out, hinw.out⟩
            · rw [if_neg e]; exact HA.out j (by omega)
          clear hrow2
          go_wp2_with fail
          go_roundw
          case rel => exact ⟨k + 1, _, by omega, by go_num, hnew.out, HA2.out, hbn.out⟩
          case measure => simp [intOf]; omega
        · have hm' : namedB (nodeAt vs k) = false := by simpa using hm
          have HO : Hid (okB vs = false) := okB_node hlt (by rw [nodeB, hm', Bool.and_false])
          clear hm
          go_wp2_with fail
          refine (namedOk_any B (nodeAt vs k) _ _ _ hinx1.out (by omega)).mono ?_
          rintro e w2 ⟨rfl, hb2⟩
          go_wp2_with fail
          go_ret
          exact ⟨ret_bool HO.out.symm, hbx1.trans (hb2.mono (by omega))⟩
      · have hu' : unnamedB (nodeAt vs k) = false := by simpa using hu
        have HO : Hid (okB vs = false) := okB_node hlt (by rw [nodeB, hu', Bool.false_and])
        clear hu
        go_wp2_with fail
        refine (unnamedZero_any B (nodeAt vs k) _ _ _ hinx.out).mono ?_
        rintro e w1 ⟨rfl, hb1⟩
        go_wp2_with fail
        go_ret
        exact ⟨ret_bool HO.out.symm, hbx.trans (hb1.mono (by simp; omega))⟩
    · obtain rfl : k = vs.length := by omega
      have HO : Hid (okB vs = standB (kidsOf vs) vs.length 8) := HE.out.symm.trans (tabB_all (by omega) (by omega) (fun j hj => (HA.out j hj).1))
      have hlt0 := hrow.lt
      have HR := hideIt hrow
      clear hrow
      go_wp2_with fail
      refine (nodesStand_any 8 (w.heap.size + 1) w.heap.size vs.length (kidsOf vs) KV _ (by omega) (by omega) (by omega) (by omega) (fun i hi => ⟨?_, ?_⟩)).mono ?_
      · rw [HR.out.cell hi, fillV, if_pos hi]
      · exact ((HA.out i hi).2.below (hbel.mono hB)).wide (by omega)
      · rintro e w1 ⟨rfl, hb1⟩
        go_wp2_with fail
        go_ret
        exact ⟨ret_bool HO.out.symm, hbel.trans (hb1.mono (by omega))⟩
end Go.Proofs.YtehihemfepbmfaaGreatDoor

/-
  impl.valueOf: the value of right nodes.
-/
namespace Go.Proofs.YtehihemfepbmfaaGreatDoor
open Go.RowKit
set_option linter.unusedSimpArgs false
set_option linter.unusedVariables false

end Go.Proofs.YtehihemfepbmfaaGreatDoor

/-
  Nodes of filters: what makes one right (plain mathematics), and how rows of them lie in memory.
-/
namespace Go.Proofs.YtehihemfepbmfaaGreatDoor
open Go.RowKit
set_option linter.unusedSimpArgs false
set_option linter.unusedVariables false

/-- A node of a filter. -/
structure FN where
  kind : Int
  name : ByteArray
  place : Int
  cst : List VN
  names : List ByteArray
  kids : List Int

def FN.zero : FN := ⟨0, ByteArray.empty, 0, [], [], []⟩
def fnAt (fs : List FN) (i : Nat) : FN := fs.getD i FN.zero
def fkids (fs : List FN) (i : Nat) : List Int := (fnAt fs i).kids

def letN (c : Nat) : Bool := (decide (97 ≤ c) && decide (c ≤ 122)) || ((decide (65 ≤ c) && decide (c ≤ 90)) || decide (c = 95))
def digN (c : Nat) : Bool := decide (48 ≤ c) && decide (c ≤ 57)
def byteAt (s : ByteArray) (j : Nat) : Nat := (s.data.getD j 0).toNat
def nameB (s : ByteArray) : Bool := decide (0 < s.size) && decide (s.size ≤ 60) && letN (byteAt s 0) && (List.range s.size).all fun j => letN (byteAt s j) || digN (byteAt s j)

theorem byteAt_get {s : ByteArray} {j : Nat} (h : j < s.size) : s[j].toNat = byteAt s j := by
  unfold byteAt
  have h' : j < s.data.size := h
  rw [show s.data.getD j 0 = s.data[j] by unfold Array.getD; exact dif_pos h']
  rfl

theorem nameB_text {s : ByteArray} (h : nameB s = true) : textB s = true := by
  unfold nameB at h
  simp only [Bool.and_eq_true, decide_eq_true_eq, List.all_eq_true, List.mem_range] at h
  unfold textB
  rw [Bool.and_eq_true, List.all_eq_true]
  refine ⟨by simp [h.1.1.2], fun c hc => ?_⟩
  obtain ⟨j, hj, rfl⟩ := List.getElem_of_mem hc
  have hj' : j < s.size := by simpa using hj
  have := h.2 j hj'
  rw [← byteAt_get hj'] at this
  rw [decide_eq_true_eq]
  show s[j].toNat ≤ 127
  unfold letN digN at this
  simp only [Bool.or_eq_true, Bool.and_eq_true, decide_eq_true_eq] at this
  omega

def nriseAt (l : List ByteArray) (j : Nat) : Bool := nameB (keyAt l j) && (decide (j = 0) || lessB (keyAt l (j - 1)) (keyAt l j))
def nriseB (l : List ByteArray) : Bool := (List.range l.length).all (nriseAt l)
def namesB (l : List ByteArray) : Bool := decide (l.length ≤ 5) && nriseB l

theorem nriseB_eq (l : List ByteArray) : nriseB l = (((List.range l.length).all fun j => nameB (keyAt l j)) && riseB l) := by
  rw [Bool.eq_iff_iff]
  unfold nriseB riseB
  simp only [Bool.and_eq_true, List.all_eq_true, List.mem_range]
  constructor
  · intro h
    refine ⟨fun j hj => ?_, fun j hj => ?_⟩
    · have := h j hj
      unfold nriseAt at this
      rw [Bool.and_eq_true] at this
      exact this.1
    · have := h j hj
      unfold nriseAt at this
      rw [Bool.and_eq_true] at this
      unfold riseAt
      rw [nameB_text this.1, Bool.true_and]
      exact this.2
  · rintro ⟨h1, h2⟩ j hj
    have := h2 j hj
    unfold riseAt at this
    rw [Bool.and_eq_true] at this
    unfold nriseAt
    rw [h1 j hj, Bool.true_and]
    exact this.2

theorem nriseB_false {l : List ByteArray} {k : Nat} (hk : k < l.length) (h : nriseAt l k = false) : nriseB l = false := by
  unfold nriseB
  rw [List.all_eq_false]
  exact ⟨k, List.mem_range.2 hk, by simp [h]⟩

theorem nriseB_true {l : List ByteArray} (h : ∀ j, j < l.length → nriseAt l j = true) : nriseB l = true := by
  unfold nriseB
  rw [List.all_eq_true]
  exact fun j hj => h j (List.mem_range.1 hj)

/-- A constant: one node, right, no list and no map. -/
def cstB (v : List VN) : Bool := decide (v.length = 1) && okB v && decide ((nodeAt v 0).kind ≠ 5) && decide ((nodeAt v 0).kind ≠ 6)

def zeroF (x : FN) : Bool :=
  !(decide (x.kind ≠ 2) && decide (x.name.toList ≠ [])) && !(decide (x.kind ≠ 3) && decide (x.place ≠ 0)) &&
  !(decide (x.kind ≠ 5) && decide (0 < x.cst.length)) && !(decide (x.kind ≠ 9) && decide (0 < x.names.length))
def ownF (x : FN) : Bool :=
  if x.kind = 2 then nameB x.name
  else if x.kind = 3 then decide (-80 ≤ x.place) && decide (x.place ≤ 80)
  else if x.kind = 5 then cstB x.cst
  else if x.kind = 9 then namesB x.names
  else true
/-- How many kids a kind has; -1: it may have more or fewer. -/
def kidsN (k : Int) : Int :=
  if k = 6 ∨ k = 7 ∨ k = 15 ∨ k = 16 ∨ k = 17 ∨ k = 18 ∨ k = 19 ∨ k = 20 ∨ k = 21 then 2
  else if k = 10 ∨ k = 23 then 1
  else if k = 22 then 3
  else if k = 8 ∨ k = 9 then -1
  else 0
def fitF (x : FN) : Bool :=
  if x.kind = 8 then decide (x.kids.length ≤ 1)
  else if x.kind = 9 then decide (x.kids.length = x.names.length)
  else decide (1 ≤ x.kind) && decide (x.kind ≤ 23) && decide ((x.kids.length : Int) = kidsN x.kind)
def fnodeB (x : FN) : Bool := zeroF x && ownF x && fitF x

/-! ### Right filters, said twice -/
def fkidsIn (fs : List FN) (i : Nat) : Bool := (fkids fs i).all fun k => decide (0 ≤ k) && decide (k ≤ (i : Int) - 1)
def fsizeB (fs : List FN) : Bool := decide (1 ≤ fs.length) && decide (fs.length ≤ 40)
def okF (fs : List FN) : Bool := fsizeB fs && ((List.range fs.length).all fun i => fnodeB (fnAt fs i) && fkidsIn fs i) && rootK (fkids fs) fs.length 12
def tabF (fs : List FN) : Bool := fsizeB fs && ((List.range fs.length).all fun i => fnodeB (fnAt fs i)) && standB (fkids fs) fs.length 12

theorem okF_eq (fs : List FN) : tabF fs = okF fs := by
  rw [Bool.eq_iff_iff]
  unfold tabF okF standB
  simp only [Bool.and_eq_true, List.all_eq_true, List.mem_range]
  constructor
  · rintro ⟨⟨h1, h2⟩, h3, h4⟩
    refine ⟨⟨h1, fun i hi => ⟨h2 i hi, ?_⟩⟩, h4⟩
    obtain ⟨p, hp⟩ := Option.isSome_iff_exists.1 (h3 i hi)
    unfold fkidsIn
    simp only [List.all_eq_true, Bool.and_eq_true, decide_eq_true_eq]
    exact tr_kids hp
  · rintro ⟨⟨h1, h2⟩, h3⟩
    refine ⟨⟨h1, fun i hi => (h2 i hi).1⟩, fun i hi => ?_, h3⟩
    unfold rootK at h3
    cases hr : tr (fkids fs) (fs.length - 1) with
    | none => rw [hr] at h3; cases h3
    | some p =>
      rw [hr] at h3
      simp at h3
      obtain ⟨q, hq⟩ := tr_span _ _ hr i (by omega) (by omega)
      rw [hq]
      rfl

theorem okF_size {fs : List FN} (h : fs.length < 1 ∨ 40 < fs.length) : okF fs = false := by
  have : fsizeB fs = false := by simp [fsizeB]; omega
  simp [okF, this]

theorem okF_node {fs : List FN} {k : Nat} (hk : k < fs.length) (h : fnodeB (fnAt fs k) = false) : okF fs = false := by
  unfold okF
  rw [show ((List.range fs.length).all fun i => fnodeB (fnAt fs i) && fkidsIn fs i) = false from ?_, Bool.and_false, Bool.false_and]
  rw [List.all_eq_false]
  exact ⟨k, List.mem_range.2 hk, by simp [h]⟩

theorem okF_kid {fs : List FN} {k j : Nat} (hk : k < fs.length) (hj : j < (fnAt fs k).kids.length) (h : inB (intAt (fnAt fs k).kids j) 0 ((k : Int) - 1) = false) : okF fs = false := by
  unfold okF
  rw [show ((List.range fs.length).all fun i => fnodeB (fnAt fs i) && fkidsIn fs i) = false from ?_, Bool.and_false, Bool.false_and]
  rw [List.all_eq_false]
  refine ⟨k, List.mem_range.2 hk, ?_⟩
  have : fkidsIn fs k = false := by
    unfold fkidsIn
    rw [List.all_eq_false]
    refine ⟨intAt (fnAt fs k).kids j, ?_, by simpa [inB] using h⟩
    unfold fkids
    rw [intAt_get hj]
    exact List.getElem_mem _
  simp [this]

theorem fkidsIn_of {fs : List FN} {k : Nat} (h : ∀ j, j < (fnAt fs k).kids.length → inB (intAt (fnAt fs k).kids j) 0 ((k : Int) - 1) = true) : fkidsIn fs k = true := by
  unfold fkidsIn
  rw [List.all_eq_true]
  intro x hx
  obtain ⟨j, hj, rfl⟩ := List.getElem_of_mem hx
  have hj' : j < (fnAt fs k).kids.length := hj
  have := h j hj'
  rw [intAt_get hj'] at this
  exact this

theorem okF_of {fs : List FN} (h1 : 1 ≤ fs.length) (h2 : fs.length ≤ 40) (h : ∀ k, k < fs.length → fnodeB (fnAt fs k) = true ∧ fkidsIn fs k = true) : okF fs = rootK (fkids fs) fs.length 12 := by
  unfold okF
  rw [show ((List.range fs.length).all fun i => fnodeB (fnAt fs i) && fkidsIn fs i) = true from ?_]
  · simp [fsizeB, h1, h2]
  · rw [List.all_eq_true]
    intro k hk
    have := h k (List.mem_range.1 hk)
    simp [this.1, this.2]

theorem tabF_all {fs : List FN} (h1 : 1 ≤ fs.length) (h2 : fs.length ≤ 40) (h : ∀ k, k < fs.length → fnodeB (fnAt fs k) = true) : tabF fs = standB (fkids fs) fs.length 12 := by
  unfold tabF
  rw [show ((List.range fs.length).all fun i => fnodeB (fnAt fs i)) = true from ?_]
  · rw [show fsizeB fs = true by simp [fsizeB, h1, h2], Bool.true_and, Bool.true_and]
  · rw [List.all_eq_true]
    exact fun k hk => h k (List.mem_range.1 hk)

/-! ### Memory -/
structure FNodeIn (B : Nat) (w : World) (x : FN) (kc kn ki : Value) : Prop where
  cst : NodesAt B w kc x.cst
  names : StrsAt B w kn x.names
  kids : IntsAt B w ki x.kids
  size : x.name.size ≤ 140737488355328
  klo : -9223372036854775808 ≤ x.kind
  khi : x.kind ≤ 9223372036854775807
  nlo : -9223372036854775808 ≤ x.place
  nhi : x.place ≤ 9223372036854775807

structure FNodeAt (B : Nat) (w : World) (b o : Nat) (x : FN) (kc kn ki : Value) : Prop where
  c0 : w.cell? ⟨b, o, none⟩ = some (.int .i64 x.kind)
  c1 : w.cell? ⟨b, o + 1, none⟩ = some (.string x.name)
  c2 : w.cell? ⟨b, o + 2, none⟩ = some (.int .i64 x.place)
  c3 : w.cell? ⟨b, o + 3, none⟩ = some kc
  c4 : w.cell? ⟨b, o + 4, none⟩ = some kn
  c5 : w.cell? ⟨b, o + 5, none⟩ = some ki
  inn : FNodeIn B w x kc kn ki

def FNodesAt (B : Nat) (w : World) (v : Value) (fs : List FN) : Prop :=
  fs.length ≤ 1048576 ∧ ∃ a cap, v = .slice a fs.length cap ∧ (0 < fs.length → ∃ b o, a = some ⟨b, o, none⟩ ∧ b < B ∧ ∀ i, i < fs.length → ∃ kc kn ki, FNodeAt B w b (o + i * 6) (fnAt fs i) kc kn ki)

theorem FNodeIn.below {B : Nat} {w w' : World} {x : FN} {kc kn ki : Value} (h : FNodeIn B w x kc kn ki) (hb : Below B w w') : FNodeIn B w' x kc kn ki :=
  { h with cst := h.cst.below hb, names := h.names.below hb, kids := h.kids.below hb }

theorem FNodeAt.below {B : Nat} {w w' : World} {b o : Nat} {x : FN} {kc kn ki : Value} (h : FNodeAt B w b o x kc kn ki) (hb : Below B w w') (hB : b < B) : FNodeAt B w' b o x kc kn ki :=
  ⟨(below_cell hb hB).trans h.c0, (below_cell hb hB).trans h.c1, (below_cell hb hB).trans h.c2, (below_cell hb hB).trans h.c3, (below_cell hb hB).trans h.c4, (below_cell hb hB).trans h.c5, h.inn.below hb⟩

theorem FNodesAt.below {B : Nat} {w w' : World} {v : Value} {fs : List FN} (h : FNodesAt B w v fs) (hb : Below B w w') : FNodesAt B w' v fs := by
  obtain ⟨h1, a, cap, e, h3⟩ := h
  refine ⟨h1, a, cap, e, fun hl => ?_⟩
  obtain ⟨b, o, ea, hbB, hc⟩ := h3 hl
  refine ⟨b, o, ea, hbB, fun i hi => ?_⟩
  obtain ⟨kc, kn, ki, hn⟩ := hc i hi
  exact ⟨kc, kn, ki, hn.below hb hbB⟩

theorem FNodeIn.wide {B B' : Nat} {w : World} {x : FN} {kc kn ki : Value} (h : FNodeIn B w x kc kn ki) (hb : B ≤ B') : FNodeIn B' w x kc kn ki :=
  { h with cst := h.cst.wide hb, names := h.names.wide hb, kids := h.kids.wide hb }

theorem FNodesAt.wide {B B' : Nat} {w : World} {v : Value} {fs : List FN} (h : FNodesAt B w v fs) (hb : B ≤ B') : FNodesAt B' w v fs := by
  obtain ⟨h1, a, cap, e, h3⟩ := h
  refine ⟨h1, a, cap, e, fun hl => ?_⟩
  obtain ⟨b, o, ea, hbB, hc⟩ := h3 hl
  refine ⟨b, o, ea, by omega, fun i hi => ?_⟩
  obtain ⟨kc, kn, ki, hn⟩ := hc i hi
  exact ⟨kc, kn, ki, hn.c0, hn.c1, hn.c2, hn.c3, hn.c4, hn.c5, hn.inn.wide hb⟩
end Go.Proofs.YtehihemfepbmfaaGreatDoor

/-
  The functions that hold two nodes, two rows of nodes of filters against each other: of what holds the same they say true.
-/
namespace Go.Proofs.YtehihemfepbmfaaGreatDoor
open Go.RowKit
set_option linter.unusedSimpArgs false
set_option linter.unusedVariables false

set_option maxHeartbeats 3200000 in
theorem eqFNode_any (B : Nat) (x : FN) (kc kn ki kc' kn' ki' : Value) (w : World) (h : FNodeIn B w x kc kn ki) (h' : FNodeIn B w x kc' kn' ki') (hB : B ≤ w.heap.size) :
    Calls Tryz.prog 47 #[.agg #[.int .i64 x.kind, .string x.name, .int .i64 x.place, kc, kn, ki], .agg #[.int .i64 x.kind, .string x.name, .int .i64 x.place, kc', kn', ki']] w fun e w' => e = .returned (.bool true) ∧ Below w.heap.size w w' := by
  have H := hideIt h
  have H' := hideIt h'
  obtain ⟨_, a0, c0, e0, _⟩ := h.cst
  obtain ⟨_, _, a1, c1, e1, _⟩ := h.names
  obtain ⟨_, _, a2, c2, e2, _⟩ := h.kids
  obtain ⟨_, a3, c3, e3, _⟩ := h'.cst
  obtain ⟨_, _, a4, c4, e4, _⟩ := h'.names
  obtain ⟨_, _, a5, c5, e5, _⟩ := h'.kids
  have f1 : (x.kind != x.kind) = false := by simp
  have f2 : (x.place != x.place) = false := by simp
  have f3 : (x.name.toList == x.name.toList) = true := by simp
  subst e0 e1 e2 e3 e4 e5
  clear h h'
  obtain ⟨W1, hW1⟩ : ∃ W1, W1 = (w.alloc (.cells #[.int .i64 x.kind, .string x.name, .int .i64 x.place, .slice a0 x.cst.length c0, .slice a1 x.names.length c1, .slice a2 x.kids.length c2] 51)).alloc (.cells #[.int .i64 x.kind, .string x.name, .int .i64 x.place, .slice a3 x.cst.length c3, .slice a4 x.names.length c4, .slice a5 x.kids.length c5] 51) := ⟨_, rfl⟩
  have d3 : W1.cell? ⟨w.heap.size, 3, none⟩ = some (.slice a0 x.cst.length c0) := by rw [hW1]; simp
  have d4 : W1.cell? ⟨w.heap.size, 4, none⟩ = some (.slice a1 x.names.length c1) := by rw [hW1]; simp
  have d5 : W1.cell? ⟨w.heap.size, 5, none⟩ = some (.slice a2 x.kids.length c2) := by rw [hW1]; simp
  have g3 : W1.cell? ⟨w.heap.size + 1, 3, none⟩ = some (.slice a3 x.cst.length c3) := by rw [hW1]; simp
  have g4 : W1.cell? ⟨w.heap.size + 1, 4, none⟩ = some (.slice a4 x.names.length c4) := by rw [hW1]; simp
  have g5 : W1.cell? ⟨w.heap.size + 1, 5, none⟩ = some (.slice a5 x.kids.length c5) := by rw [hW1]; simp
  have HZ : Hid (W1.heap.size = w.heap.size + 1 + 1) := by rw [Hid, hW1]; simp
  have HBW : Hid (Below w.heap.size w W1) := by rw [Hid, hW1]; exact ((Below.refl _ _).alloc (Nat.le_refl _) _).alloc (by simp) _
  have HW1 := hideIt hW1
  clear hW1
  go_enter Tryz.func47, Tryz.ntmps47
  go_wp2_with fail
  rw [← HW1.out]
  refine (eqVNodeS_any B _ _ x.cst W1 (H.out.cst.below (HBW.out.mono hB)) (H'.out.cst.below (HBW.out.mono hB)) (by rw [HZ.out]; omega)).mono ?_
  rintro e w2 ⟨rfl, hb2⟩
  have j4 := (below_cell hb2 (show w.heap.size < W1.heap.size by rw [HZ.out]; omega)).trans d4
  have j5 := (below_cell hb2 (show w.heap.size < W1.heap.size by rw [HZ.out]; omega)).trans d5
  have k4 := (below_cell hb2 (show w.heap.size + 1 < W1.heap.size by rw [HZ.out]; omega)).trans g4
  have k5 := (below_cell hb2 (show w.heap.size + 1 < W1.heap.size by rw [HZ.out]; omega)).trans g5
  have z2 := hb2.size
  rw [HZ.out] at z2
  have HB2 : Hid (Below w.heap.size w w2) := HBW.out.trans (hb2.mono (by rw [HZ.out]; omega))
  clear hb2 d3 d4 d5 g3 g4 g5
  go_wp2_with fail
  refine (eqStringS_any B _ _ x.names _ (H.out.names.below (HB2.out.mono hB)) (H'.out.names.below (HB2.out.mono hB)) (by omega)).mono ?_
  rintro e w3 ⟨rfl, hb3⟩
  have l5 := (below_cell hb3 (show w.heap.size < w2.heap.size by omega)).trans j5
  have m5 := (below_cell hb3 (show w.heap.size + 1 < w2.heap.size by omega)).trans k5
  have z3 := hb3.size
  have HB3 : Hid (Below w.heap.size w w3) := HB2.out.trans (hb3.mono (by omega))
  clear hb3 j4 j5 k4 k5
  go_wp2_with fail
  refine (eqInt64S_any B _ _ x.kids _ (H.out.kids.below (HB3.out.mono hB)) (H'.out.kids.below (HB3.out.mono hB)) (by omega)).mono ?_
  rintro e w4 ⟨rfl, hb4⟩
  have HB4 : Hid (Below w.heap.size w w4) := HB3.out.trans (hb4.mono (by omega))
  clear hb4
  go_wp2_with fail
  go_ret
  exact ⟨rfl, HB4.out⟩

set_option maxHeartbeats 3200000 in
theorem eqFNodeS_any (B : Nat) (v1 v2 : Value) (fs : List FN) (w : World) (h1 : FNodesAt B w v1 fs) (h2 : FNodesAt B w v2 fs) (hB : B ≤ w.heap.size) :
    Calls Tryz.prog 19 #[v1, v2] w fun e w' => e = .returned (.bool true) ∧ Below w.heap.size w w' := by
  obtain ⟨hlen, a1, cap1, rfl, hcell1⟩ := h1
  obtain ⟨_, a2, cap2, rfl, hcell2⟩ := h2
  have hne : ((fs.length : Int) != (fs.length : Int)) = false := by simp
  have HC1 := hideIt hcell1
  have HC2 := hideIt hcell2
  clear hcell1 hcell2
  go_enter Tryz.func19, Tryz.ntmps19
  go_wp2_with fail
  go_loopw [5] (fun i wr => ∃ k : Nat, k ≤ fs.length ∧ i = .int .i64 k ∧ Below w.heap.size w wr) (fun i _ => fs.length - (intOf i).toNat)
  case atStart => exact ⟨0, Nat.zero_le _, rfl, Below.refl _ _⟩
  case round =>
    obtain ⟨k, hk, rfl, hbel⟩ := hrel
    by_cases hlt : k < fs.length
    · obtain ⟨b1, o1, rfl, hb1, hc1⟩ := HC1.out (by omega)
      obtain ⟨b2, o2, rfl, hb2, hc2⟩ := HC2.out (by omega)
      obtain ⟨kc, kn, ki, hn⟩ := hc1 k hlt
      obtain ⟨kc', kn', ki', hn'⟩ := hc2 k hlt
      have g := hn.below (hbel.mono hB) hb1
      have g' := hn'.below (hbel.mono hB) hb2
      have c0 := g.c0
      have c1 := g.c1
      have c2 := g.c2
      have c3 := g.c3
      have c4 := g.c4
      have c5 := g.c5
      have d0 := g'.c0
      have d1 := g'.c1
      have d2 := g'.c2
      have d3 := g'.c3
      have d4 := g'.c4
      have d5 := g'.c5
      have hin := g.inn
      have hin' := g'.inn
      have hsize := hbel.size
      clear hc1 hc2 hn hn' g g'
      go_wp2_with fail
      go_region_with (go_at_call 47; refine (eqFNode_any B (fnAt fs k) kc kn ki kc' kn' ki' _ ?_ ?_ ?_).mono ?_; exact hin.below (bsame rfl rfl rfl rfl); exact hin'.below (bsame rfl rfl rfl rfl); exact (by simp; omega); rintro e w1 ⟨rfl, hq⟩)
      all_goals
        have hb2 : Below w.heap.size w w1 := hbel.drew.trans (hq.mono (by simpa using hsize))
        go_wp2_with fail
        go_roundw
        case rel => exact ⟨k + 1, by omega, by go_num, hb2⟩
        case measure => simp [intOf]; omega
    · go_wp2_with fail
      go_ret
      exact ⟨rfl, hbel⟩
end Go.Proofs.YtehihemfepbmfaaGreatDoor
