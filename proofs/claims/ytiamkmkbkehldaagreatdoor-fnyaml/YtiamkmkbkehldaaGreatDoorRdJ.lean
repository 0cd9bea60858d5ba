/-
  The program's YAML: the lines of a text.
-/
import Derived.Test.YtiamkmkbkehldaaGreatDoorYmP
import Derived.Test.YtiamkmkbkehldaaGreatDoorStbM
import Derived.Test.YtiamkmkbkehldaaGreatDoorRdI
namespace Go.Proofs.YtiamkmkbkehldaaGreatDoor
open Go.RowKit
set_option linter.unusedSimpArgs false
set_option linter.unusedVariables false

theorem infoYL : (Tryz.prog.info? 128).map (fun i => (i.zero, i.size, i.bytes)) = some (some (.agg #[.int .i64 0, .int .i64 0, .string ⟨#[]⟩, .string ⟨#[]⟩]), 4, 48) := by kernel_rfl
/-- The cells of lines. -/
def ylCells : List YL → List Value
  | [] => []
  | x :: r => [.int .i64 (x.ahead : Int), .int .i64 x.kind, .string (txt x.key), .string (txt x.rest)] ++ ylCells r
theorem ylCells_snoc (l : List YL) (x : YL) : ylCells (l ++ [x]) = ylCells l ++ [.int .i64 (x.ahead : Int), .int .i64 x.kind, .string (txt x.key), .string (txt x.rest)] := by
  induction l with
  | nil => rfl
  | cons y l ih => rw [List.cons_append, ylCells, ylCells, ih, List.append_assoc]
theorem news4_of (w : World) (b : Nat) (c0 c1 c2 c3 : Value) (hb : w.heap.size = b) : ∀ j u, [c0, c1, c2, c3][j]? = some u → (w.alloc (.cells #[c0, c1, c2, c3] 128)).cell? ((⟨b, 0, none⟩ : Addr).add j) = some u := by
  subst hb; exact World.news_of_block (cs := #[c0, c1, c2, c3]) (heap_alloc_new w _)
theorem mem_tw {p : UInt8 → Bool} : ∀ {r : List UInt8} {c : UInt8}, c ∈ r.takeWhile p → p c = true := by
  intro r
  induction r with
  | nil => intro c h; cases h
  | cons a r ih =>
    intro c h
    rw [List.takeWhile_cons] at h
    split at h
    · rename_i ha
      rcases List.mem_cons.1 h with rfl | h
      · exact ha
      · exact ih h
    · cases h
theorem line_split {r : List UInt8} (h : (10 : UInt8) ∈ r) : r = r.takeWhile (· != 10) ++ 10 :: (r.dropWhile (· != 10)).drop 1 ∧ ∀ c ∈ r.takeWhile (· != 10), c ≠ 10 := by
  have h1 := List.takeWhile_append_dropWhile (p := (· != (10 : UInt8))) (l := r)
  have h2 : r.dropWhile (· != 10) ≠ [] := by
    intro e
    rw [e, List.append_nil] at h1
    rw [← h1] at h
    have := mem_tw h
    simp at this
  refine ⟨?_, fun c hc => by have := mem_tw hc; simpa using this⟩
  cases e : r.dropWhile (· != 10) with
  | nil => exact absurd e h2
  | cons c q =>
    have h3 : c = 10 := by
      have := List.head?_dropWhile_not (p := (· != (10 : UInt8))) (l := r)
      rw [e] at this
      simpa using this
    rw [e, h3] at h1
    simp only [List.drop_one, List.tail_cons]
    exact h1.symm
theorem said_le (l : List UInt8) : (saidY l).length ≤ l.length := by
  unfold saidY Lib.trimLeftB
  exact (List.dropWhile_sublist _).length_le
theorem grownBelow {B : Nat} {w a b : World} {row : Option Nat} (h : Below B w a) (hg : a.grownBy b row) (hr : ∀ x, row = some x → B ≤ x) (hB : B ≤ a.heap.size) : Below B w b :=
  ⟨hg.os.trans h.os, hg.tape.trans h.tape, hg.output.trans h.output, Nat.le_trans h.size hg.size, fun c hc => (hg.block c (by omega) (fun e => by have := hr c e.symm; omega)).trans (h.block c hc)⟩

set_option maxRecDepth 100000 in
set_option maxHeartbeats 6400000 in
theorem yamlLines_yes {s : ByteArray} {ls : List YL} (hs : s.size ≤ 4000) (h : linesY s.data.toList = some ls) (w : World) :
    Calls Tryz.prog 45 #[.string s] w fun e w' => ∃ v, e = .returned v ∧ w'.ownsRow w.heap.size 128 4 v ls.length (ylCells ls) ∧ Below w.heap.size w w' := by
  obtain ⟨i0, hi0, hz0, hs0, hy0⟩ := info_parts infoYL
  have HL := hideIt h
  have HLN := hideB (len_is s)
  clear h
  go_enter Tryz.func45, Tryz.ntmps45
  go_wp2_with fail
  go_loopw [0, 3, 4, 5, 6, 7] (fun sv av _ _ _ _ wr => ∃ (S : ByteArray) (dn zs : List YL), sv = .string S ∧ S.size ≤ s.size ∧ Hid (linesY S.data.toList = some zs) ∧ Hid (ls = dn ++ zs) ∧ dn.length + S.size ≤ s.size ∧ wr.ownsRow w.heap.size 128 4 av dn.length (ylCells dn) ∧ Below w.heap.size w wr) (fun sv _ _ _ _ _ _ => match sv with | .string S => S.size | _ => 0)
  case atStart => exact ⟨s, [], ls, rfl, Nat.le_refl _, HL.out, rfl, by simp, World.ownsRow_nil _ _ _ _, Below.refl _ _⟩
  case round =>
    obtain ⟨S, dn, zs, rfl, hSs, HZ, HD, hds, hrow, hbw⟩ := hrel
    have HROW := hideIt hrow
    have HBW := hideIt hbw
    have zr := hbw.size
    obtain ⟨aa, ca, ea⟩ := own_slice hrow
    obtain ⟨k, hk⟩ : ∃ k, dn.length = k := ⟨_, rfl⟩
    rw [hk] at ea hds HROW
    subst ea
    have HK := hideIt hk
    have hdl : S.data.toList = S.toList := (ByteArray.toList_eq S).symm
    clear hrow hbw hk
    by_cases he : S.toList.isEmpty = true
    · have HE : Hid (zs = []) := by
        have h0 : S.data.toList = [] := by rw [hdl]; exact List.isEmpty_iff.1 he
        have := HZ.out
        rw [h0, linesY_nil] at this
        exact (Option.some.inj this).symm
      clear hdl
      go_wp2_with fail
      go_ret
      exact ⟨_, rfl, by rw [HD.out, HE.out, List.append_nil, HK.out]; exact HROW.out, HBW.out⟩
    · have he' : S.toList.isEmpty = false := by simpa using he
      have hne : S.data.toList ≠ [] := by rw [hdl]; intro e; rw [e] at he'; cases he'
      have h10 : (10 : UInt8) ∈ S.data.toList := by
        apply Classical.byContradiction
        intro hn
        have h1 := linesY_open (l := S.data.toList) (fun c hc e => hn (e ▸ hc)) hne
        rw [HZ.out] at h1; cases h1
      obtain ⟨hsp, hcl⟩ := line_split h10
      have HCT := hideIt (cut_any (s := S) 10 (by omega) wr)
      rw [cutB, if_pos h10] at HCT
      obtain ⟨l, hl⟩ : ∃ l, S.data.toList.takeWhile (· != 10) = l := ⟨_, rfl⟩
      obtain ⟨r, hr⟩ : ∃ r, (S.data.toList.dropWhile (· != 10)).drop 1 = r := ⟨_, rfl⟩
      rw [hl, hr] at hsp HCT
      rw [hl] at hcl
      dsimp only at HCT
      have hlen : S.size = l.length + 1 + r.length := by rw [← len_is S, hsp, List.length_append, List.length_cons]; omega
      have HLL := hideIt (linesY_line (l := l) (r := r) hcl)
      rw [hsp, HLL.out] at HZ
      have hsl := said_le l
      have HTR := hideIt (fun w => Tryz.strings_TrimLeft_one (txt l) 32 (by decide) w)
      simp only [bytes_txt] at HTR
      obtain ⟨T, hT⟩ : ∃ T, saidY l = T := ⟨_, rfl⟩
      have hT2 : (⟨(Lib.trimLeftB l 32).toArray⟩ : ByteArray) = txt T := by rw [← hT]; rfl
      simp only [hT2] at HTR
      rw [hT] at HZ hsl
      obtain ⟨LB, hLB⟩ : ∃ LB, txt l = LB := ⟨_, rfl⟩
      obtain ⟨RB, hRB⟩ : ∃ RB, txt r = RB := ⟨_, rfl⟩
      obtain ⟨TB, hTB⟩ : ∃ TB, txt T = TB := ⟨_, rfl⟩
      have hls : LB.size = l.length := by rw [← hLB, txt_size]
      have hrs : RB.size = r.length := by rw [← hRB, txt_size]
      have hts : TB.size = T.length := by rw [← hTB, txt_size]
      have HTD : Hid (TB.data.toList = T) := by rw [Hid, ← hTB, bytes_txt]
      have HRD : Hid (RB.data.toList = r) := by rw [Hid, ← hRB, bytes_txt]
      have htl : TB.toList = T := by rw [ByteArray.toList_eq, HTD.out]
      rw [hLB, hRB] at HCT
      simp only [hLB, hTB] at HTR
      have hR1 : RB.size + 1 ≤ S.size := by omega
      have hT1 : TB.size ≤ LB.size := by omega
      have hL1 : LB.size ≤ 4000 := by omega
      have HTS := hideIt hts
      have HLS := hideIt hls
      have HTL := hideIt htl
      clear he hne h10 hsp hcl hl hr HLL hT hT2 hLB hRB hTB hdl hls hrs hts hlen htl hsl
      go_wp2_with fail
      refine HCT.out.mono ?_
      rintro e w2 ⟨rfl, hb2⟩
      have HB2 := hideIt (HBW.out.trans (hb2.mono zr))
      have HROW2 := hideIt (own_from HROW.out ⟨hb2.size, fun c _ h => hb2.block c h⟩)
      have z2 := HB2.out.size
      clear hb2
      go_wp2_with fail
      refine (HTR.out w2).mono ?_
      rintro e w3 ⟨rfl, rfl⟩
      by_cases hsay : T = [] ∨ byAt T 0 = 35
      · rw [if_pos hsay] at HZ
        have HZ2 : Hid (linesY RB.data.toList = some zs) := by rw [Hid, HRD.out]; exact HZ.out
        rcases Classical.em (T = []) with hT0 | hT0
        · have hte : TB.toList.isEmpty = true := by rw [HTL.out, hT0]; rfl
          clear hsay hT0
          go_wp2_with fail
          go_roundw
          case rel => exact ⟨RB, dn, zs, rfl, by omega, HZ2.out, HD.out, by rw [HK.out]; omega, by rw [HK.out]; exact HROW2.out, HB2.out⟩
          case measure => show RB.size < S.size; omega
        · have hte : TB.toList.isEmpty = false := by rw [HTL.out]; cases T with | nil => exact absurd rfl hT0 | cons _ _ => rfl
          have hpos : 0 < TB.size := by rw [HTS.out]; cases T with | nil => exact absurd rfl hT0 | cons _ _ => simp
          have hb35 : ((TB[0].toNat : Nat) : Int) = 35 := by
            have h1 : byAt TB.data.toList 0 = TB[0].toNat := getB hpos
            rw [HTD.out] at h1
            rcases hsay with h2 | h2
            · exact absurd h2 hT0
            · omega
          have hb35' : (((TB[0].toNat : Nat) : Int) != 35) = false := by simp [hb35]
          clear hsay hT0
          go_wp2_with fail
          go_roundw
          case rel => exact ⟨RB, dn, zs, rfl, by omega, HZ2.out, HD.out, by rw [HK.out]; omega, by rw [HK.out]; exact HROW2.out, HB2.out⟩
          case measure => show RB.size < S.size; omega
      · rw [if_neg hsay] at HZ
        have hT0 : T ≠ [] := fun e => hsay (.inl e)
        have hte : TB.toList.isEmpty = false := by rw [HTL.out]; cases T with | nil => exact absurd rfl hT0 | cons _ _ => rfl
        have hpos : 0 < TB.size := by rw [HTS.out]; cases T with | nil => exact absurd rfl hT0 | cons _ _ => simp
        have hb35 : ¬ ((TB[0].toNat : Nat) : Int) = 35 := by
          have h1 : byAt TB.data.toList 0 = TB[0].toNat := getB hpos
          rw [HTD.out] at h1
          intro e
          exact hsay (.inr (by omega))
        have hb35' : (((TB[0].toNat : Nat) : Int) != 35) = true := by simpa using hb35
        cases eL : lineY T with
        | none => exfalso; have := HZ.out; simp only [eL] at this; cases this
        | some y =>
          obtain ⟨kd, key, rest⟩ := y
          cases eR : linesY r with
          | none => exfalso; have := HZ.out; simp only [eL, eR] at this; cases this
          | some z =>
            obtain ⟨A, hA⟩ : ∃ A, l.length - T.length = A := ⟨_, rfl⟩
            have HZS : Hid (zs = ⟨A, kd, key, rest⟩ :: z) := by
              have := HZ.out
              simp only [eL, eR, Option.some.injEq, hA] at this
              exact this.symm
            have HZ2 : Hid (linesY RB.data.toList = some z) := by rw [Hid, HRD.out]; exact eR
            have hAA : ((A : Nat) : Int) = (LB.size : Int) - (TB.size : Int) := by have := HTS.out; have := HLS.out; omega
            have HLO := hideIt (yamlLineOf_yes (s := TB) (k := kd) (key := key) (rest := rest) (by omega) hpos (by rw [HTD.out]; exact eL) A w3)
            rw [ylV_eq] at HLO
            dsimp only at HLO
            rw [hAA] at HLO
            obtain ⟨KB, hKB⟩ : ∃ KB, txt key = KB := ⟨_, rfl⟩
            obtain ⟨EB, hEB⟩ : ∃ EB, txt rest = EB := ⟨_, rfl⟩
            rw [hKB, hEB] at HLO
            have HCE : Hid (ylCells (dn ++ [⟨A, kd, key, rest⟩]) = ylCells dn ++ [.int .i64 ((LB.size : Int) - (TB.size : Int)), .int .i64 kd, .string KB, .string EB]) := by rw [Hid, ylCells_snoc, hKB, hEB, ← hAA]
            have HDN : Hid (ls = (dn ++ [⟨A, kd, key, rest⟩]) ++ z) := by rw [Hid, HD.out, HZS.out, List.append_assoc]; rfl
            clear hsay hT0 HZ eL eR hA hAA hKB hEB
            go_wp2_with fail
            refine HLO.out.mono ?_
            rintro e w4 ⟨rfl, hb4⟩
            have HB4 := hideIt (HB2.out.trans (hb4.mono z2))
            have HROW4 := hideIt (own_from HROW2.out ⟨hb4.size, fun c _ h => hb4.block c h⟩)
            have z4 := HB4.out.size
            have HLT : Hid (∀ b, (Value.slice aa k ca).ownBlock = some b → w.heap.size ≤ b) := fun b hb => (HROW4.out.lt b hb).1
            clear hb4
            go_wp2_with (at_builtin; refine wpList_append_own_at _ rfl _ _ 66 rfl w.heap.size 128 i0 (.agg #[.int .i64 0, .int .i64 0, .string ⟨#[]⟩, .string ⟨#[]⟩]) 4 48 Tryz.underlying66 hi0 hz0 hs0 hy0 rfl (by decide) _ _ _ rfl (HROW4.out.alloc _) ⟨w4.heap.size, 0, none⟩ 1 1 [.int .i64 ((LB.size : Int) - (TB.size : Int)), .int .i64 kd, .string KB, .string EB] rfl rfl ?c1 ?c2 ?c3 ?c4 ?c5 ?_)
            case c1 => exact news4_of _ _ _ _ _ _ (by simp)
            case c2 => intro u hu; simp at hu; rcases hu with rfl | rfl | rfl | rfl <;> rfl
            case c3 => unfold maxLen; omega
            case c4 => omega
            case c5 => simp; omega
            intro v' w6 hown hgrow _ hat
            have HOWN : Hid (w6.ownsRow w.heap.size 128 4 v' (k + 1) (ylCells (dn ++ [⟨A, kd, key, rest⟩]))) := by rw [Hid, HCE.out]; exact hown
            have hga := (World.grownBy_alloc w4 (.cells #[.int .i64 ((LB.size : Int) - (TB.size : Int)), .int .i64 kd, .string KB, .string EB] 128) (Value.slice aa k ca).ownBlock).trans hgrow
            have HB6 := hideIt (grownBelow HB4.out hga HLT.out z4)
            clear hown hgrow hat hga
            go_wp2_with fail
            go_roundw
            case rel => exact ⟨RB, dn ++ [⟨A, kd, key, rest⟩], z, rfl, by omega, HZ2, HDN, by rw [List.length_append, HK.out]; simp; omega, by rw [List.length_append, HK.out]; exact HOWN.out, HB6.out⟩
            case measure => show RB.size < S.size; omega
end Go.Proofs.YtiamkmkbkehldaaGreatDoor

/-
  The program's readPairs, over whatever reads a value.
-/
namespace Go.Proofs.YtiamkmkbkehldaaGreatDoor
open Go.RowKit
set_option linter.unusedSimpArgs false
set_option linter.unusedVariables false

theorem tw_null_text (x : Value) (w : World) : (Instr.typeAssert (.iface 170 x) 45 110 true).run Tryz.prog w = .ok (.tuple #[.agg #[.string ByteArray.empty], .bool false]) w := by kernel_rfl
theorem tw_bool_text (x : Value) (w : World) : (Instr.typeAssert (.iface 163 x) 45 110 true).run Tryz.prog w = .ok (.tuple #[.agg #[.string ByteArray.empty], .bool false]) w := by kernel_rfl
theorem tw_int_text (x : Value) (w : World) : (Instr.typeAssert (.iface 164 x) 45 110 true).run Tryz.prog w = .ok (.tuple #[.agg #[.string ByteArray.empty], .bool false]) w := by kernel_rfl
/-- Is it a text? -/
theorem TreeP.text {P : Nat → Prop} {w : World} {f : Nat} {t : VT} {v : Value} (h : TreeP P w f t v) : (∃ z, textOf t = some z ∧ v = .iface 110 (.agg #[.string z])) ∨ (textOf t = none ∧ ∀ w, (Instr.typeAssert v 45 110 true).run Tryz.prog w = .ok (.tuple #[.agg #[.string ByteArray.empty], .bool false]) w) := by
  cases f with
  | zero => exact h.elim
  | succ f =>
    obtain ⟨kind, n, s, keys, kids⟩ := t
    rcases h with ⟨rfl, _, _, _, _, rfl⟩ | ⟨rfl, _, _, _, rfl⟩ | ⟨rfl, _, _, _, rfl⟩ | ⟨rfl, _, _, _, rfl⟩ | ⟨rfl, _, _, _, _, rfl, _⟩ | ⟨rfl, _, _, _, _, rfl, _⟩
    · exact .inr ⟨rfl, tw_null_text _⟩
    · exact .inr ⟨rfl, tw_bool_text _⟩
    · exact .inr ⟨rfl, tw_int_text _⟩
    · exact .inl ⟨s, rfl, rfl⟩
    · exact .inr ⟨rfl, tw_list_text _⟩
    · exact .inr ⟨rfl, tw_map_text _⟩
theorem getD_vals {xs : List Value} {n j : Nat} {ty : TypeId} {x : Value} (h : xs[j]? = some (.iface ty x)) : xs.getD j .nilIface = .iface ty x := by rw [List.getD_eq_getElem?_getD, h]; rfl
/-- The rows as sortedMap reads them. -/
theorem Its.strs {w wr : World} {f : Nat} {it kv : Value} {ts : List VT} {xs : List Value} {ks : List ByteArray} (h : Its w wr f it kv ts xs ks) (hn : ks.length ≤ 100000) (hz : ∀ i, i < ks.length → (keyAt ks i).size ≤ 100000) : StrsAt wr.heap.size wr kv ks := by
  obtain ⟨a, c, e⟩ := own_slice h.krow
  refine ⟨by omega, fun i hi => by have := hz i hi; omega, a, c, e, fun hp => ?_⟩
  obtain ⟨g, cap, e2, hge, hlt⟩ := h.krow.form hp
  have ea : a = some ⟨g, 0, none⟩ := by rw [e2] at e; injection e with e _ _; exact e.symm
  refine ⟨g, 0, ea, hlt, fun i hi => ?_⟩
  have := h.krow
  rw [e2] at this
  rw [Nat.zero_add, this.cellAt i (by omega), List.getElem?_map, List.getElem?_eq_getElem hi]
  simp [keyAt, hi]
theorem Its.its {w wr : World} {f : Nat} {it kv : Value} {ts : List VT} {xs : List Value} {ks : List ByteArray} (h : Its w wr f it kv ts xs ks) : ItsAt wr it ts.length (fun j => xs.getD j .nilIface) := by
  obtain ⟨a, c, e⟩ := own_slice h.row
  refine ⟨a, c, e, fun hp => ?_⟩
  obtain ⟨g, cap, e2, hge, hlt⟩ := h.row.form hp
  have ea : a = some ⟨g, 0, none⟩ := by rw [e2] at e; injection e with e _ _; exact e.symm
  refine ⟨g, ea, hlt, fun j hj => ?_⟩
  obtain ⟨ty, x, h1, _⟩ := h.trees j hj
  have := h.row
  rw [e2] at this
  have e9 : (fun j => xs.getD j Value.nilIface) j = .iface ty x := getD_vals (n := 0) h1
  rw [this.cellAt j (by omega), h1, e9]
  exact ⟨rfl, ty, x, rfl⟩
theorem keysTo_at {l : List ByteArray} {g : Nat → Int} {n i : Nat} (h : i < n) : (keysTo l g n)[i]? = some (.string (keyAt l (g i).toNat)) := by simp [keysTo, h]
theorem itemsTo_at {V : Nat → Value} {g : Nat → Int} {n i : Nat} (h : i < n) : (itemsTo V g n)[i]? = some (V (g i).toNat) := by simp [itemsTo, h]
/-- The map of what was gathered. -/
theorem Its.map {w wr w' : World} {f : Nat} {it kv k2 i2 : Value} {ts : List VT} {xs : List Value} {ks : List ByteArray} {g : Nat → Int} (h : Its w wr f it kv ts xs ks) (hl : ks.length = ts.length) (hw : w.heap.size ≤ wr.heap.size) (hn : ts.length ≤ 100000) (hz : ∀ i, i < ks.length → (keyAt ks i).size ≤ 100000)
    (hg : Blk (RK ks) (fun p => (p : Int)) g 0 ks.length) (hk : w'.ownsRow wr.heap.size 9 1 k2 ks.length (keysTo ks g ks.length)) (hi : w'.ownsRow wr.heap.size 45 1 i2 ks.length (itemsTo (fun j => xs.getD j .nilIface) g ks.length)) (hb : Below wr.heap.size wr w') :
    TreeP (NewB w w') w' (f + 1) (mapT ks ts) (.iface 119 (.agg #[k2, i2])) := by
  have hsl := srt_len ks
  have hgj : ∀ j, j < ks.length → (g j).toNat = (srt ks).getD j 0 := fun j hj => by rw [blk_at hg hj, Int.toNat_natCast]
  refine .inr (.inr (.inr (.inr (.inr ⟨rfl, rfl, rfl, k2, i2, rfl, ?_, ?_⟩))))
  · obtain ⟨a, c, e⟩ := own_slice hk
    have hat : ∀ j, j < ks.length → keyAt ((srt ks).map (keyAt ks)) j = keyAt ks ((srt ks).getD j 0) := fun j hj => by
      conv => lhs; unfold keyAt
      rw [List.getD_eq_getElem?_getD, List.getElem?_map, List.getElem?_eq_getElem (by omega), List.getD_eq_getElem?_getD (l := srt ks), List.getElem?_eq_getElem (show j < (srt ks).length by omega)]
      rfl
    refine ⟨by rw [List.length_map, hsl]; omega, fun i hi' => ?_, a, c, by rw [List.length_map, hsl]; exact e, fun hp => ?_⟩
    · rw [List.length_map, hsl] at hi'
      rw [hat i hi']
      have := hz _ (srt_lt hi')
      omega
    · rw [List.length_map, hsl] at hp
      obtain ⟨b, cap, e2, hge, hlt⟩ := hk.form hp
      have ea : a = some ⟨b, 0, none⟩ := by rw [e2] at e; injection e with e _ _; exact e.symm
      refine ⟨b, 0, ea, ⟨Nat.le_trans hw hge, hlt⟩, fun i hi' => ?_⟩
      rw [List.length_map, hsl] at hi'
      rw [hat i hi']
      have := hk
      rw [e2] at this
      rw [Nat.zero_add, this.cellAt i (by omega), keysTo_at hi', hgj i hi']
  · rw [List.length_map, hsl]
    obtain ⟨a, c, e⟩ := own_slice hi
    refine ⟨by omega, a, c, e, fun hp => ?_⟩
    obtain ⟨b, cap, e2, hge, hlt⟩ := hi.form hp
    have ea : a = some ⟨b, 0, none⟩ := by rw [e2] at e; injection e with e _ _; exact e.symm
    refine ⟨b, ea, ⟨Nat.le_trans hw hge, hlt⟩, fun j hj => ?_⟩
    have hsj := srt_lt hj
    obtain ⟨ty, x, h1, h2⟩ := h.trees ((srt ks).getD j 0) (by omega)
    refine ⟨ty, x, ?_, ?_⟩
    · have := hi
      rw [e2] at this
      rw [this.cellAt j (by omega), itemsTo_at hj, hgj j hj, getD_vals (n := 0) h1]
    · show TreeP (NewB w w') w' f (kidT ((srt ks).map (kidT ts)) j) (.iface ty x)
      rw [kid_srt hj]
      exact h2.keep (fun b hb' => hb.block b hb'.1.2) (fun b hb' => ⟨hb'.1.1, Nat.lt_of_lt_of_le hb'.1.2 hb.size⟩)

end Go.Proofs.YtiamkmkbkehldaaGreatDoor
