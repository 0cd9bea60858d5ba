/-
  Plain: the signs behind a filter: the program's one loop and the specification's levels; both readers answer the same.
-/
import Derived.Test.YtehihemfepbmfaaGreatDoorSgJ
import Derived.Test.YtehihemfepbmfaaGreatDoorDecB
namespace Go.Proofs.YtehihemfepbmfaaGreatDoor
open Go.RowKit
set_option linter.unusedSimpArgs false
set_option linter.unusedVariables false
set_option linter.unusedSectionVars false

def nextS (m : Nat) : Nat := if m = 6 ∨ m = 5 ∨ m = 2 then m else m - 1
/-- The levels from m down to 'least', one behind the other. -/
def loopS (S : RD) (L : List UInt8) (W : WP) (least : Nat) : Nat → Nat → Int → List FN → Nat → RF
  | 0, _, _, _, _ => none
  | G + 1, m, n, fs, p => if m < least then some (n, fs, p) else match jntF L p with
    | none => loopS S L W least G (m - 1) n fs p
    | some (k, len) => if levF k = (m : Int) then bindF (eatF S L W k len n fs p) fun n fs q => loopS S L W least G (nextS m) n fs q
      else loopS S L W least G (m - 1) n fs p
theorem bindF_congr {a : RF} {k k' : Int → List FN → Nat → RF} (h : ∀ n fs q, a = some (n, fs, q) → k n fs q = k' n fs q) : bindF a k = bindF a k' := by
  cases a with
  | none => rfl
  | some r => obtain ⟨n, fs, q⟩ := r; exact h n fs q rfl
theorem bindF_assoc {a : RF} {k k' : Int → List FN → Nat → RF} : bindF (bindF a k) k' = bindF a fun n fs q => bindF (k n fs q) k' := by cases a <;> rfl
section
variable {S : RD} {L : List UInt8} {W : WP}
theorem loopS_done {least G m : Nat} {n : Int} {fs : List FN} {p : Nat} (h : m < least) (hG : 0 < G) : loopS S L W least G m n fs p = some (n, fs, p) := by
  cases G with
  | zero => omega
  | succ G => rw [loopS, if_pos h]
/-- No sign of these levels stands there. -/
theorem loopS_stop {least : Nat} (hl : 1 ≤ least) {n : Int} {fs : List FN} {p : Nat} : ∀ (m G : Nat), m < G → (∀ k len, jntF L p = some (k, len) → levF k < (least : Int) ∨ (m : Int) < levF k) → loopS S L W least G m n fs p = some (n, fs, p) := by
  intro m
  induction m with
  | zero => intro G hG _; exact loopS_done (by omega) hG
  | succ m ih =>
    intro G hG hk
    by_cases h : m + 1 < least
    · exact loopS_done h (by omega)
    · obtain ⟨G', rfl⟩ : ∃ G', G = G' + 1 := ⟨G - 1, by omega⟩
      rw [loopS, if_neg h]
      cases hj : jntF L p with
      | none => exact ih _ (by omega) (fun k len e => by rw [hj] at e; cases e)
      | some kl =>
        obtain ⟨k, len⟩ := kl
        have h1 := hk k len hj
        simp only
        rw [if_neg (by omega)]
        exact ih _ (by omega) (fun k' len' e => by rw [hj] at e; cases e; omega)
/-- Down to the sign's own level. -/
theorem loopS_down {least : Nat} {n : Int} {fs : List FN} {p : Nat} {k : Int} {len l : Nat} (hj : jntF L p = some (k, len)) (hk : levF k = (l : Int)) (hl : least ≤ l) : ∀ m G, l ≤ m → m < G → ∃ G', G = G' + (m - l) + 1 ∧ loopS S L W least G m n fs p = bindF (eatF S L W k len n fs p) fun n fs q => loopS S L W least G' (nextS l) n fs q := by
  intro m
  induction m with
  | zero =>
    intro G h1 h2
    obtain ⟨G', rfl⟩ : ∃ G', G = G' + 1 := ⟨G - 1, by omega⟩
    have hl0 : l = 0 := by omega
    subst hl0
    refine ⟨G', by omega, ?_⟩
    rw [loopS, if_neg (by omega), hj]
    simp only
    rw [if_pos hk]
  | succ m ih =>
    intro G h1 h2
    obtain ⟨G', rfl⟩ : ∃ G', G = G' + 1 := ⟨G - 1, by omega⟩
    by_cases e : l = m + 1
    · subst e
      refine ⟨G', by omega, ?_⟩
      rw [loopS, if_neg (by omega), hj]
      simp only
      rw [if_pos hk]
    · obtain ⟨G2, hG2, h⟩ := ih G' (by omega) (by omega)
      refine ⟨G2, by omega, ?_⟩
      rw [loopS, if_neg (by omega), hj]
      simp only
      rw [if_neg (by rw [hk]; omega)]
      exact h
variable (HG : Goes L S)
include HG
theorem loopS_sgn {l : Nat} (hl : 1 ≤ l) (h6 : l ≤ 6) : ∀ G g n fs p, p ≤ L.length → 7 * (L.length - p) + l < G → L.length - p < g → loopS S L W l G l n fs p = sgnS S L W l g n fs p := by
  intro G
  induction G with
  | zero => intro g n fs p _ h; omega
  | succ G ih =>
    intro g n fs p hp hG hg
    obtain ⟨g', rfl⟩ : ∃ g', g = g' + 1 := ⟨g - 1, by omega⟩
    rw [loopS, sgnS, if_neg (by omega)]
    cases hj : jntF L p with
    | none => exact loopS_done (by omega) (by omega)
    | some kl =>
      obtain ⟨k, len⟩ := kl
      obtain ⟨j1, j2, -, -⟩ := jnt_says hj
      simp only
      by_cases e : levF k = (l : Int)
      · rw [if_pos e, if_pos e]
        refine bindF_congr fun n1 fs1 q1 h1 => ?_
        have w1 := eat_went HG j1 j2 h1
        have := w1.lt; have := w1.le
        unfold nextS
        split
        · exact ih _ _ _ _ w1.le (by omega) (by omega)
        · exact loopS_done (by omega) (by omega)
      · rw [if_neg e, if_neg e]
        exact loopS_done (by omega) (by omega)
theorem loopS_nest {l : Nat} (hl : 1 ≤ l) : ∀ G m g n fs p, l ≤ m → m ≤ 6 → p ≤ L.length → 7 * (L.length - p) + m < G → L.length - p < g → loopS S L W l G m n fs p = bindF (loopS S L W (l + 1) G m n fs p) (sgnS S L W l g) := by
  intro G
  induction G with
  | zero => intro m g n fs p _ _ _ h; omega
  | succ G ih =>
    intro m g n fs p hm h6 hp hG hg
    by_cases e : m = l
    · subst e
      rw [loopS_sgn HG hl h6 (G + 1) g n fs p hp hG hg, loopS_done (least := m + 1) (by omega) (by omega), bindF_some]
    · rw [loopS, loopS, if_neg (by omega), if_neg (by omega)]
      cases hj : jntF L p with
      | none => exact ih _ _ _ _ _ (by omega) (by omega) hp (by omega) hg
      | some kl =>
        obtain ⟨k, len⟩ := kl
        obtain ⟨j1, j2, -, -⟩ := jnt_says hj
        simp only
        by_cases e2 : levF k = (m : Int)
        · rw [if_pos e2, if_pos e2, bindF_assoc]
          refine bindF_congr fun n1 fs1 q1 h1 => ?_
          have w1 := eat_went HG j1 j2 h1
          have := w1.lt; have := w1.le
          exact ih _ _ _ _ _ (by unfold nextS; split <;> omega) (by unfold nextS; split <;> omega) w1.le (by unfold nextS; split <;> omega) (by omega)
        · rw [if_neg e2, if_neg e2]
          exact ih _ _ _ _ _ (by omega) (by omega) hp (by omega) hg
theorem lvS_loop (HW : WGood W L) : ∀ d, d ≤ 5 → ∀ fs p, p ≤ L.length → lvS S L W d fs p = bindF (wholeF W S L fs p) fun n fs q => loopS S L W (6 - d) (7 * L.length + 8) 6 n fs q := by
  intro d
  induction d with
  | zero =>
    intro _ fs p hp
    rw [lvS]
    refine bindF_congr fun n1 fs1 q1 h1 => ?_
    have w1 := whole_went HG HW hp h1
    exact (loopS_sgn HG (by decide) (by decide) _ _ _ _ _ w1.le (by omega) (by omega)).symm
  | succ d ih =>
    intro hd fs p hp
    rw [lvS, ih (by omega) fs p hp, bindF_assoc]
    refine bindF_congr fun n1 fs1 q1 h1 => ?_
    have w1 := whole_went HG HW hp h1
    rw [loopS_nest HG (l := 6 - (d + 1)) (by omega) _ 6 (L.length + 1) _ _ _ (by omega) (by decide) w1.le (by omega) (by omega), show 6 - (d + 1) + 1 = 6 - d by omega, show 6 - (d + 1) = 5 - d by omega]
end

/-! ### The program's loop and the levels -/
theorem jnt_kinds {L : List UInt8} {p : Nat} {k : Int} {len : Nat} (h : jntF L p = some (k, len)) : k = 6 ∨ k = 7 ∨ k = 21 ∨ k = 17 ∨ k = 18 ∨ k = 20 ∨ k = 19 ∨ k = 15 ∨ k = 16 ∨ k = 23 := by
  unfold jntF at h
  repeat' split at h
  all_goals first
    | (cases h; done)
    | (simp only [Option.some.injEq, Prod.mk.injEq] at h; obtain ⟨rfl, rfl⟩ := h; decide)
/-- How much was bound last, and the level that comes next. -/
def StF (L : List UInt8) (bind : Int) (m p : Nat) : Prop :=
  (∀ k len, jntF L p = some (k, len) → lftK k ≤ bind ∧ levF k ≤ (m : Int)) ∨ (cmpAt L p ∧ bind = 4 ∧ m ≤ 3)
theorem stF_top {L : List UInt8} {bind : Int} {p : Nat} (h : 6 ≤ bind) : StF L bind 6 p := by
  refine .inl fun k len hj => ?_
  have h1 : lftK k ≤ 6 ∧ levF k ≤ 6 := by
    rcases jnt_kinds hj with rfl | rfl | rfl | rfl | rfl | rfl | rfl | rfl | rfl | rfl <;> decide
  exact ⟨by omega, h1.2⟩
theorem stF_next {L : List UInt8} {p0 p : Nat} {k : Int} {len : Nat} (hj0 : jntF L p0 = some (k, len)) (hk : k ≠ 23) (hs : stopAt L (rgtF k) p) : StF L (levF k) (nextS (levF k).toNat) p := by
  have key : ∀ k' len', jntF L p = some (k', len') → (lftK k' ≤ levF k ∧ levF k' ≤ (nextS (levF k).toNat : Int)) ∨ (levF k' = 4 ∧ levF k = 4) := by
    intro k' len' hj
    have h1 := hs k' len' hj
    rcases jnt_kinds hj0 with rfl | rfl | rfl | rfl | rfl | rfl | rfl | rfl | rfl | rfl <;> rcases jnt_kinds hj with rfl | rfl | rfl | rfl | rfl | rfl | rfl | rfl | rfl | rfl <;> first | (exact absurd rfl hk) | (exact .inl (by decide)) | (exact .inr (by decide)) | (exfalso; revert h1; decide)
  cases hj : jntF L p with
  | none => exact .inl fun k' len' e => by rw [hj] at e; cases e
  | some kl =>
    obtain ⟨k', len'⟩ := kl
    rcases key k' len' hj with h | h
    · exact .inl fun k2 len2 e => by rw [hj] at e; cases e; exact h
    · refine .inr ⟨⟨k', len', hj, h.1⟩, h.2, ?_⟩
      rw [h.2]; decide
theorem relWX_bind {L : List UInt8} {least : Int} {a b : RF} {k k' : Int → List FN → Nat → RF} (h : RelW a b) (hk : ∀ n fs q, b = some (n, fs, q) → RelX L least (k n fs q) (k' n fs q)) (hp : ∀ n fs q, PreF fs (k n fs q)) : RelX L least (bindF a k) (bindF b k') := by
  cases b with
  | some r => obtain ⟨n, fs, q⟩ := r; rw [show a = some (n, fs, q) from h, bindF_some, bindF_some]; exact hk n fs q rfl
  | none =>
    rw [bindF_none]
    intro n' fs' q' e
    obtain ⟨n1, fs1, q1, h1, h2⟩ := bindF_inv e
    obtain ⟨m, rfl⟩ := hp _ _ _ _ _ _ h2
    exact doomF_more (h _ _ _ h1)
section
variable {W W' : WP} {L : List UInt8} (H : WRel W W' L) {R S : RD} (HP : PreR R) (HR : RelAll L R S) (HG : Goes L S)
include H HP HR HG
theorem rel_loop {least : Nat} (h1 : 1 ≤ least) (h6 : least ≤ 6) : ∀ g G bind m n fs p, p ≤ L.length → L.length - p < g → 7 * (L.length - p) + m < G → m ≤ 6 → StF L bind m p →
    RelX L (least : Int) (loopF R L W g (least : Int) bind n fs p) (loopS S L W' least G m n fs p) := by
  intro g
  induction g with
  | zero => intro G bind m n fs p _ h; omega
  | succ g ih =>
    intro G bind m n fs p hp hg hG hm hst
    rcases hst with hst | ⟨hc, hb, hm3⟩
    · cases hj : jntF L p with
      | none =>
        rw [loopS_stop h1 m G (by omega) (fun k len e => by rw [hj] at e; cases e), loopF, hj]
        exact .inl ⟨rfl, fun k len e => by rw [hj] at e; cases e⟩
      | some kl =>
        obtain ⟨k, len⟩ := kl
        obtain ⟨j1, j2, j3, j4⟩ := jnt_says hj
        obtain ⟨s1, s2⟩ := hst k len hj
        by_cases hlow : levF k < (least : Int)
        · rw [loopS_stop h1 m G (by omega) (fun k2 len2 e => by rw [hj] at e; cases e; exact .inl hlow), loopF, hj]
          simp only
          rw [if_pos hlow]
          exact .inl ⟨rfl, fun k2 len2 e => by rw [hj] at e; cases e; exact hlow⟩
        · obtain ⟨l, hl⟩ : ∃ l : Nat, levF k = (l : Int) := ⟨(levF k).toNat, by omega⟩
          obtain ⟨G', hG', hS⟩ := loopS_down (S := S) (W := W') (n := n) (fs := fs) hj hl (by omega : least ≤ l) m G (by omega) (by omega)
          rw [hS, loopF, hj]
          simp only
          rw [if_neg hlow, if_neg (by omega)]
          have hgo : ∀ n1 fs1 q1, eatF S L W' k len n fs p = some (n1, fs1, q1) → StF L (levF k) (nextS l) q1 → RelX L (least : Int) (loopF R L W g (least : Int) (levF k) n1 fs1 q1) (loopS S L W' least G' (nextS l) n1 fs1 q1) := fun n1 fs1 q1 e hst1 => by
            have w1 := eat_went HG j1 j2 e
            have := w1.lt; have := w1.le
            have hn6 : nextS l ≤ 6 := by unfold nextS; split <;> omega
            exact ih G' _ _ _ _ _ w1.le (by omega) (by omega) hn6 hst1
          by_cases h23 : k = 23
          · subst h23
            refine relWX_bind ?_ (fun n1 fs1 q1 e => hgo n1 fs1 q1 e ?_) (fun _ _ _ => preF_loop HP _ _ _ _ _ _)
            · unfold eatF; rw [if_pos rfl, if_pos rfl]; exact rel_add H _ _ _
            · have hl6 : l = 6 := by have : levF 23 = 6 := by decide
                                     omega
              subst hl6
              exact stF_top (by decide)
          · have hlk : l = (levF k).toNat := by omega
            have hr16 : 1 ≤ rgtF k ∧ rgtF k ≤ 6 := by
              rcases jnt_kinds hj with rfl | rfl | rfl | rfl | rfl | rfl | rfl | rfl | rfl | rfl <;> first | (exact absurd rfl h23) | decide
            have hx := HR (rgtF k) fs _ hr16.1 hr16.2 (skF_le j2)
            have hePs : eatF S L W' k len n fs p = bindF (S (rgtF k) fs (skF L (p + len))) fun b fs q => addF W' (nodeR k [n, b]) fs q := by unfold eatF; rw [if_neg h23]
            have hePp : eatF R L W k len n fs p = bindF (R (rgtF k) fs (skF L (p + len))) fun b fs q => addF W (nodeR k [n, b]) fs q := by unfold eatF; rw [if_neg h23]
            cases hs : S (rgtF k) fs (skF L (p + len)) with
            | none =>
              rw [hs] at hx hePs
              rw [bindF_none] at hePs
              rw [hePs, bindF_none]
              intro n' fs' q' e
              rw [hePp, bindF_assoc] at e
              obtain ⟨n1, fs1, q1, e1, e2⟩ := bindF_inv e
              obtain ⟨mm, rfl⟩ := preF_bind preF_add (fun _ _ _ => preF_loop HP _ _ _ _ _ _) _ _ _ e2
              exact doomF_more ((show ∀ n fs q, _ = some (n, fs, q) → DoomF fs from hx) _ _ _ e1)
            | some r =>
              obtain ⟨b, fs1, q1⟩ := r
              rw [hs] at hx hePs
              rw [bindF_some] at hePs
              rcases (show _ ∨ _ from hx) with ⟨x1, x2⟩ | ⟨x1, x2, x3⟩
              · rw [x1, bindF_some] at hePp
                refine relWX_bind ?_ (fun n2 fs2 q2 e => hgo n2 fs2 q2 e ?_) (fun _ _ _ => preF_loop HP _ _ _ _ _ _)
                · rw [hePs, hePp]; exact rel_add H _ _ _
                · have hq : q2 = q1 := by rw [hePs] at e; exact (addF_inv e).2.2
                  rw [hq, hlk]
                  exact stF_next hj h23 x2
              · rw [x1, bindF_none] at hePp
                rw [hePp, bindF_none]
                cases ha : eatF S L W' k len n fs p with
                | none => rw [bindF_none]; intro _ _ _ e; cases e
                | some r2 =>
                  obtain ⟨n2, fs2, q2⟩ := r2
                  have w2 := eat_went HG j1 j2 ha
                  have hq : q2 = q1 := by rw [hePs] at ha; exact (addF_inv ha).2.2
                  have hl3 : l ≤ 3 := by
                    have : levF k ≤ 3 := by
                      rcases jnt_kinds hj with rfl | rfl | rfl | rfl | rfl | rfl | rfl | rfl | rfl | rfl <;> first | (exact absurd rfl h23) | decide | (exfalso; revert x2; decide)
                    omega
                  rw [bindF_some, hq]
                  have hn3 : nextS l ≤ 3 := by unfold nextS; split <;> omega
                  rw [loopS_stop h1 (nextS l) G' (by have := w2.lt; omega) (fun k2 len2 e => ?_)]
                  · exact .inr ⟨rfl, by omega, x3⟩
                  · obtain ⟨k3, len3, e3, e4⟩ := x3
                    rw [e3] at e
                    cases e
                    exact .inr (by omega)
    · obtain ⟨k, len, hj, hk4⟩ := hc
      have hlft : lftK k = 5 := by
        rcases jnt_kinds hj with rfl | rfl | rfl | rfl | rfl | rfl | rfl | rfl | rfl | rfl <;> first | decide | (exfalso; revert hk4; decide)
      rw [loopS_stop h1 m G (by omega) (fun k2 len2 e => by rw [hj] at e; cases e; exact .inr (by omega)), loopF, hj]
      simp only
      by_cases hlow : levF k < (least : Int)
      · rw [if_pos hlow]
        exact .inl ⟨rfl, fun k2 len2 e => by rw [hj] at e; cases e; exact hlow⟩
      · rw [if_neg hlow, if_pos (by omega)]
        exact .inr ⟨rfl, by omega, k, len, hj, hk4⟩
end
theorem rel_read {W W' : WP} {L : List UInt8} (H : WRel W W' L) (HW' : WGood W' L) : ∀ f, RelAll L (readP W L f) (readS W' L f) := by
  intro f
  induction f with
  | zero => intro least fs p _ _ _; intro _ _ _ e; cases e
  | succ f ih =>
    intro least fs p h1 h6 hp
    have HG := readS_goes HW' f
    have HP := preR_readP W L f
    rw [readP, readS, lvS_loop HG HW' _ (by omega) fs p hp]
    obtain ⟨l, rfl⟩ : ∃ l : Nat, least = (l : Int) := ⟨least.toNat, by omega⟩
    rw [show 6 - (6 - (l : Int).toNat) = l by omega]
    refine relWX_bind (rel_whole H HP ih HG fs hp) (fun n1 fs1 q1 e => ?_) (fun _ _ _ => preF_loop HP _ _ _ _ _ _)
    have w1 := whole_went HG HW' hp e
    exact rel_loop H HP ih HG (by omega) (by omega) _ _ _ _ _ _ _ w1.le (by omega) (by omega) (by decide) (stF_top (by decide))
/-- The two readers answer the same. -/
theorem same_filter {W W' : WP} {L : List UInt8} (H : WRel W W' L) (HW' : WGood W' L) (f : Nat) : allF (readP W L f) L = allF (readS W' L f) L := by
  have h := rel_read H HW' f 1 [] (skF L 0) (by decide) (by decide) (skF_le (by omega))
  unfold allF
  cases hs : readS W' L f 1 [] (skF L 0) with
  | some r =>
    obtain ⟨n, fs, q⟩ := r
    rw [hs] at h
    rcases (show _ ∨ _ from h) with ⟨x1, x2⟩ | ⟨x1, x2, x3⟩
    · rw [x1]
    · rw [x1]
      have := (cmp_byte x3).1
      simp only
      rw [if_neg (by omega)]
  | none =>
    rw [hs] at h
    cases hr : readP W L f 1 [] (skF L 0) with
    | none => rfl
    | some r =>
      obtain ⟨n, fs, q⟩ := r
      have h2 := (show ∀ n fs q, _ = some (n, fs, q) → DoomF fs from h) _ _ _ hr []
      rw [List.append_nil] at h2
      simp only
      rw [if_neg (by rw [h2]; simp)]
end Go.Proofs.YtehihemfepbmfaaGreatDoor

/-
  Plain: where the program and the specification part in reading a filter: numbers, names, texts; that they come to the same.
-/
namespace Go.Proofs.YtehihemfepbmfaaGreatDoor
open Go.RowKit
set_option linter.unusedSimpArgs false
set_option linter.unusedVariables false
set_option linter.unusedSectionVars false

def decW (l : List UInt8) : Option Int := match Lib.parseIntB 64 l with
  | .ok v => if Lib.itoa v = l then some v else none
  | _ => none
def txS (L : List UInt8) (p : Nat) : Option (List UInt8 × Nat) := match txJ L p with
  | none => none
  | some (l, q) => if l.length ≤ 60 then some (l, q) else none
/-- The program's. -/
def WPr : WP := ⟨decW, fun L p => nmJ L p, fun L p => txJ L p, false⟩
/-- The specification's. -/
def WSp : WP := ⟨intT, fun L p => if letAt L p = true then nmJ L p else p, txS, true⟩

theorem snoc_of {d : List UInt8} {n : Nat} (h : d.length = n + 1) : ∃ d' c, d = d' ++ [c] ∧ d'.length = n := by
  refine ⟨d.take n, d[n]'(by omega), ?_, by rw [List.length_take]; omega⟩
  have : d.take (n + 1) = d := List.take_of_length_le (by omega)
  rw [List.take_add_one, List.getElem?_eq_getElem (by omega)] at this
  exact this.symm
theorem byAt_app {d : List UInt8} {c : UInt8} {j : Nat} (h : j < d.length) : byAt (d ++ [c]) j = byAt d j := by
  unfold byAt; rw [List.getD_eq_getElem?_getD, List.getD_eq_getElem?_getD, List.getElem?_append_left h]
theorem byAt_last {d : List UInt8} {c : UInt8} : byAt (d ++ [c]) d.length = c.toNat := by
  unfold byAt; rw [List.getD_eq_getElem?_getD]; simp
theorem valF_app {d : List UInt8} {c : UInt8} : ∀ k, k ≤ d.length → valF (d ++ [c]) 0 k = valF d 0 k := by
  intro k
  induction k with
  | zero => intro _; rfl
  | succ k ih => intro h; rw [valF, valF, ih (by omega), Nat.zero_add, byAt_app (by omega)]
/-- Digits are those of their number. -/
theorem digs_dec : ∀ (n : Nat) (d : List UInt8), d.length = n + 1 → digsI d → (n = 0 ∨ byAt d 0 ≠ 48) → Lib.decDigits (valF d 0 (n + 1)) = d := by
  intro n
  induction n with
  | zero =>
    intro d hl hd _
    match d, hl with
    | [c], _ =>
      have h0 := hd 0 (by simp)
      have hb : byAt [c] 0 = c.toNat := rfl
      rw [hb] at h0
      unfold digC at h0
      simp only [decide_eq_true_eq] at h0
      have hv : valF [c] 0 1 = c.toNat - 48 := by rw [valF, valF, Nat.zero_add, hb]; try omega
      rw [hv, Lib.decDigits, dif_pos (by omega), show 48 + (c.toNat - 48) = c.toNat by omega]
      simp
  | succ n ih =>
    intro d hl hd h0
    obtain ⟨d', c, rfl, hl'⟩ := snoc_of hl
    have hne : byAt (d' ++ [c]) 0 ≠ 48 := by rcases h0 with h0 | h0; omega; exact h0
    rw [byAt_app (by omega)] at hne
    have hd' : digsI d' := fun j hj => by have := hd j (by simp; omega); rwa [byAt_app hj] at this
    have hc := hd d'.length (by simp)
    rw [byAt_last] at hc
    unfold digC at hc
    simp only [decide_eq_true_eq] at hc
    have h1 := ih d' hl' hd' (.inr hne)
    have h48 := hd' 0 (by omega)
    unfold digC at h48
    simp only [decide_eq_true_eq] at h48
    have hlow := valF_low (L := d') (q := 0) (k := n) (by omega)
    have hpow : 1 ≤ 10 ^ n := Nat.pos_of_ne_zero (by simp)
    have hv : valF (d' ++ [c]) 0 (n + 1 + 1) = 10 * valF d' 0 (n + 1) + (c.toNat - 48) := by
      rw [valF, valF_app _ (by omega), Nat.zero_add, ← hl', byAt_last]
    rw [hv, Lib.decDigits, dif_neg (by omega)]
    have e1 : (10 * valF d' 0 (n + 1) + (c.toNat - 48)) / 10 = valF d' 0 (n + 1) := by omega
    have e2 : (10 * valF d' 0 (n + 1) + (c.toNat - 48)) % 10 = c.toNat - 48 := by omega
    rw [e1, e2, h1, show 48 + (c.toNat - 48) = c.toNat by omega]
    simp
theorem intD_some {neg : Bool} {d : List UInt8} {v : Int} (h : intD neg d = some v) : ∃ n, d.length = n + 1 ∧ digsI d ∧ (n = 0 ∨ byAt d 0 ≠ 48) ∧ (neg = true → byAt d 0 ≠ 48) ∧ valF d 0 (n + 1) ≤ 1000000000000000 ∧ v = if neg = true then -((valF d 0 (n + 1) : Nat) : Int) else ((valF d 0 (n + 1) : Nat) : Int) := by
  unfold intD at h
  split at h
  · cases h
  · rename_i hc
    simp only [not_or, not_and, Nat.not_lt, Decidable.not_not] at hc
    obtain ⟨h1, h2, h3, h4, h5⟩ := hc
    simp only [Option.some.injEq] at h
    refine ⟨d.length - 1, by omega, h4, ?_, ?_, by rw [show d.length - 1 + 1 = d.length by omega]; exact h5, by rw [show d.length - 1 + 1 = d.length by omega]; exact h.symm⟩
    · by_cases e : byAt d 0 = 48
      · left; have := (h3 e).1; omega
      · exact .inr e
    · intro hn e; exact (h3 e).2 hn
theorem intT_itoa {l : List UInt8} {v : Int} (h : intT l = some v) : Lib.itoa v = l ∧ -1000000000000000 ≤ v ∧ v ≤ 1000000000000000 := by
  unfold intT at h
  split at h
  · rename_i hn
    obtain ⟨n, h1, h2, h3, h4, h5, h6⟩ := intD_some h
    have hd := digs_dec n _ h1 h2 h3
    have hne := h4 rfl
    rw [if_pos rfl] at h6
    have h48 := h2 0 (by omega)
    unfold digC at h48
    simp only [decide_eq_true_eq] at h48
    have hlow := valF_low (L := l.drop 1) (q := 0) (k := n) (by omega)
    have hpow : 1 ≤ 10 ^ n := Nat.pos_of_ne_zero (by simp)
    unfold negI at hn
    simp only [decide_eq_true_eq] at hn
    refine ⟨?_, by omega, by omega⟩
    unfold Lib.itoa
    rw [if_pos (by omega), h6, Int.natAbs_neg, Int.natAbs_natCast, hd]
    have hl : 0 < l.length := by omega
    match l, hl with
    | c :: r, _ =>
      have : c.toNat = 45 := hn.2
      have e : c = 45 := UInt8.toNat_inj.1 this
      rw [e]; rfl
  · obtain ⟨n, h1, h2, h3, h4, h5, h6⟩ := intD_some h
    have hd := digs_dec n _ h1 h2 h3
    rw [if_neg (by decide)] at h6
    refine ⟨?_, by omega, by omega⟩
    unfold Lib.itoa
    rw [if_neg (by omega), h6, Int.toNat_natCast, hd]
theorem sit_self (l : List UInt8) : Sit l 0 l := ⟨Nat.zero_le _, [], by simp⟩
theorem itoa_intT {v : Int} (h1 : -1000000000000000 ≤ v) (h2 : v ≤ 1000000000000000) : intT (Lib.itoa v) = some v := by
  have hj := itoa_sit (L := Lib.itoa v) (p := 0) h1 h2 (sit_self _) (by intro e; omega)
  rw [Nat.zero_add] at hj
  obtain ⟨n1, n2⟩ := numW_int (L := Lib.itoa v) (p := 0) (Nat.zero_le _)
  have hw : numW (Lib.itoa v) 0 = Lib.itoa v := by
    have hq : dgJ (Lib.itoa v) (numAt (Lib.itoa v) 0) = (Lib.itoa v).length := by
      have : numJ (Lib.itoa v) 0 = some (v, (Lib.itoa v).length) := hj
      unfold numJ at this
      split at this
      · cases this
      · simp only [Option.some.injEq, Prod.mk.injEq] at this; exact this.2
    unfold numW
    rw [hq, List.drop_zero, Nat.sub_zero, List.take_length]
  have hne : Lib.itoa v ≠ [45, 48] := by
    unfold Lib.itoa
    split
    · intro e
      have e2 : Lib.decDigits v.natAbs = [48] := by simpa using e
      have := dec_sit (L := Lib.decDigits v.natAbs) v.natAbs v.natAbs 0 (Nat.le_refl _) (sit_self _)
      refine this.2.2.1 (by omega) ?_
      rw [e2]; rfl
    · intro e
      have := dec_all _ v.toNat (Nat.le_refl _) 45 (by rw [e]; simp)
      revert this; decide
  have h3 := n2 (by rw [hw]; exact hne)
  rw [hj, hw] at h3
  cases h4 : intT (Lib.itoa v) with
  | none => rw [h4] at h3; cases h3
  | some u => rw [h4] at h3; simp only [Option.some.injEq, Prod.mk.injEq] at h3; rw [h3.1]
theorem wrel (L : List UInt8) : WRel WPr WSp L where
  cap := rfl
  cap' := rfl
  dec := fun l v h => by
    obtain ⟨h1, h2, h3⟩ := intT_itoa (show intT l = some v from h)
    show decW l = some v
    unfold decW
    rw [← h1, itoa_back h2 h3]
    simp
  dec' := fun l v h h' => by
    have h1 : decW l = some v := h'
    unfold decW at h1
    split at h1
    · rename_i u e
      split at h1
      · rename_i e2
        simp only [Option.some.injEq] at h1
        subst h1
        by_cases hb : -1000000000000000 ≤ u ∧ u ≤ 1000000000000000
        · have := itoa_intT hb.1 hb.2
          rw [e2] at this
          rw [show WSp.dec l = intT l from rfl, this] at h
          cases h
        · omega
      · cases h1
    · cases h1
  nam := fun p => rfl
  nam' := fun p => rfl
  tex := fun p r h => by
    have h1 : txS L p = some r := h
    show txJ L p = some r
    unfold txS at h1
    split at h1
    · cases h1
    · rename_i l q e
      split at h1
      · rw [e]; exact h1
      · cases h1
  tex' := fun p t q h h' => by
    have h1 : txS L p = none := h
    have h2 : txJ L p = some (t, q) := h'
    unfold txS at h1
    rw [h2] at h1
    simp only at h1
    split at h1
    · cases h1
    · omega
theorem wgoodP (L : List UInt8) (hx : ∀ p t q, p ≤ L.length → txJ L p = some (t, q) → p ≤ q ∧ q ≤ L.length) : WGood WPr L where
  nam := fun p hp => ⟨runJ_ge _ _ _, nm_le hp⟩
  tex := fun p t q hp h => hx p t q hp h
theorem wgoodS (L : List UInt8) (hx : ∀ p t q, p ≤ L.length → txJ L p = some (t, q) → p ≤ q ∧ q ≤ L.length) : WGood WSp L where
  nam := fun p hp => by
    show p ≤ (if letAt L p = true then nmJ L p else p) ∧ (if letAt L p = true then nmJ L p else p) ≤ L.length
    split
    · exact ⟨runJ_ge _ _ _, nm_le hp⟩
    · exact ⟨Nat.le_refl _, hp⟩
  tex := fun p t q hp h => hx p t q hp ((wrel L).tex p _ h)
end Go.Proofs.YtehihemfepbmfaaGreatDoor

/-
  Plain: what is read of a filter is small: names, numbers, kids.
-/
namespace Go.Proofs.YtehihemfepbmfaaGreatDoor
open Go.RowKit
set_option linter.unusedSimpArgs false
set_option linter.unusedVariables false
set_option linter.unusedSectionVars false

/-- A node that is small in all its parts. -/
structure FitF (x : FN) : Prop where
  kind : 0 ≤ x.kind ∧ x.kind ≤ 100
  name : x.name.size ≤ 100000
  place : -9223372036854775808 ≤ x.place ∧ x.place ≤ 9223372036854775807
  cst : x.cst.length ≤ 1 ∧ ∀ v ∈ x.cst, v.keys = [] ∧ v.kids = [] ∧ v.s.size ≤ 100000 ∧ 0 ≤ v.kind ∧ v.kind ≤ 100 ∧ -9223372036854775808 ≤ v.n ∧ v.n ≤ 9223372036854775807
  names : x.names.length ≤ 100000 ∧ ∀ z ∈ x.names, z.size ≤ 100000
  kids : x.kids.length ≤ 100000 ∧ ∀ k ∈ x.kids, 0 ≤ k ∧ k ≤ 100000
def AllF (fs : List FN) : Prop := ∀ x ∈ fs, FitF x
theorem allF_nil : AllF [] := fun x hx => absurd hx (by simp)
theorem allF_snoc {fs : List FN} {x : FN} (h : AllF fs) (hx : FitF x) : AllF (fs ++ [x]) := fun y hy => by
  rcases List.mem_append.1 hy with h' | h'
  · exact h y h'
  · rw [List.mem_singleton] at h'; subst h'; exact hx
/-- The parts in which readers part. -/
structure WFit (W : WP) (L : List UInt8) : Prop where
  dec : ∀ l v, W.dec l = some v → -9223372036854775808 ≤ v ∧ v ≤ 9223372036854775807
  tex : ∀ p t q, p ≤ L.length → W.tex L p = some (t, q) → t.length ≤ L.length
/-- A reading of such nodes gives such nodes. -/
def FitR (L : List UInt8) (fs : List FN) (p : Nat) (r : RF) : Prop := AllF fs → fs.length ≤ p → p ≤ L.length → ∀ n fs' q, r = some (n, fs', q) → AllF fs'
def FitD (L : List UInt8) (R : RD) : Prop := ∀ least fs p, FitR L fs p (R least fs p)
theorem e0F : ByteArray.empty.size ≤ 100000 := by decide
theorem p0F : (-9223372036854775808 : Int) ≤ 0 ∧ (0 : Int) ≤ 9223372036854775807 := by decide
theorem c0F : ([] : List VN).length ≤ 1 ∧ ∀ v ∈ ([] : List VN), v.keys = [] ∧ v.kids = [] ∧ v.s.size ≤ 100000 ∧ 0 ≤ v.kind ∧ v.kind ≤ 100 ∧ -9223372036854775808 ≤ v.n ∧ v.n ≤ 9223372036854775807 := ⟨by decide, fun v hv => absurd hv (by simp)⟩
theorem n0F : ([] : List ByteArray).length ≤ 100000 ∧ ∀ z ∈ ([] : List ByteArray), z.size ≤ 100000 := ⟨by decide, fun v hv => absurd hv (by simp)⟩
theorem k0F : ([] : List Int).length ≤ 100000 ∧ ∀ k ∈ ([] : List Int), 0 ≤ k ∧ k ≤ 100000 := ⟨by decide, fun v hv => absurd hv (by simp)⟩
theorem fit_K (k : Int) (h : 0 ≤ k ∧ k ≤ 100) : FitF (nodeK k) := ⟨h, e0F, p0F, c0F, n0F, k0F⟩
theorem fit_R (k : Int) (ks : List Int) (h : 0 ≤ k ∧ k ≤ 100) (hn : ks.length ≤ 100000) (hk : ∀ x ∈ ks, 0 ≤ x ∧ x ≤ 100000) : FitF (nodeR k ks) := ⟨h, e0F, p0F, c0F, n0F, ⟨hn, hk⟩⟩
theorem fit_M (names : List ByteArray) (kids : List Int) (hn : names.length ≤ 100000 ∧ ∀ z ∈ names, z.size ≤ 100000) (hk : kids.length ≤ 100000 ∧ ∀ x ∈ kids, 0 ≤ x ∧ x ≤ 100000) : FitF (nodeM names kids) := ⟨⟨show (0 : Int) ≤ 9 by decide, show (9 : Int) ≤ 100 by decide⟩, e0F, p0F, c0F, hn, hk⟩
theorem fit_C (k n : Int) (s : ByteArray) (h : 0 ≤ k ∧ k ≤ 100) (hn : -9223372036854775808 ≤ n ∧ n ≤ 9223372036854775807) (hs : s.size ≤ 100000) : FitF (nodeC ⟨k, n, s, [], []⟩) := ⟨⟨show (0 : Int) ≤ 5 by decide, show (5 : Int) ≤ 100 by decide⟩, e0F, p0F, ⟨Nat.le_refl 1, fun v hv => by simp [nodeC] at hv; subst hv; exact ⟨rfl, rfl, hs, h.1, h.2, hn.1, hn.2⟩⟩, n0F, k0F⟩
theorem fit_P (n : Int) (h : -9223372036854775808 ≤ n ∧ n ≤ 9223372036854775807) : FitF ⟨3, ByteArray.empty, n, [], [], []⟩ := ⟨⟨show (0 : Int) ≤ 3 by decide, show (3 : Int) ≤ 100 by decide⟩, e0F, h, c0F, n0F, k0F⟩
theorem fit_N (s : ByteArray) (h : s.size ≤ 100000) : FitF ⟨2, s, 0, [], [], []⟩ := ⟨⟨show (0 : Int) ≤ 2 by decide, show (2 : Int) ≤ 100 by decide⟩, h, p0F, c0F, n0F, k0F⟩
theorem fit_add {W : WP} {x : FN} {fs : List FN} {q : Nat} {n : Int} {fs' : List FN} {q' : Nat} (hx : FitF x) (h : AllF fs) (e : addF W x fs q = some (n, fs', q')) : AllF fs' := by
  obtain ⟨-, rfl, -⟩ := addF_inv e; exact allF_snoc h hx
theorem cut_size {L : List UInt8} {p m : Nat} : (txt ((L.drop p).take m)).size ≤ L.length := by rw [txt_size, List.length_take, List.length_drop]; omega

section
variable {W : WP} {L : List UInt8} {R : RD} (HG : Goes L R) (HW : WGood W L) (HT : WFit W L) (HF : FitD L R) (hL : L.length ≤ 5000)
include HG HW HT HF hL
theorem fit_place {fs : List FN} {p : Nat} (ha : AllF fs) {n : Int} {fs' : List FN} {q : Nat} (h : placeF W L fs p = some (n, fs', q)) : AllF fs' := by
  have _ := HG; have _ := HW; have _ := HF; have _ := hL
  unfold placeF at h
  split at h
  · exact fit_add (fit_K 4 (by decide)) ha h
  · obtain ⟨v, hd, h⟩ := decF_inv h
    obtain ⟨-, h⟩ := mustF_inv h
    exact fit_add (fit_P v (HT.dec _ _ hd)) ha h
theorem fit_point {fs : List FN} {p : Nat} (ha : AllF fs) {n : Int} {fs' : List FN} {q : Nat} (h : pointF W L fs p = some (n, fs', q)) : AllF fs' := by
  unfold pointF at h
  split at h
  · exact fit_add (fit_N _ (by have := cut_size (L := L) (p := p) (m := nmJ L p - p); unfold nameF; omega)) ha h
  · split at h
    · exact fit_place HG HW HT HF hL ha h
    · exact fit_add (fit_K 1 (by decide)) ha h
theorem kid_ok {least : Int} {fs : List FN} {p : Nat} (hl : fs.length ≤ p) (hp : p ≤ L.length) {n : Int} {fs' : List FN} {q : Nat} (h : R least fs p = some (n, fs', q)) : (0 ≤ n ∧ n ≤ 100000) ∧ fs'.length ≤ q ∧ q ≤ L.length ∧ p < q := by
  have _ := HW; have _ := HT; have _ := HF
  have wt := HG _ _ _ _ _ _ hp h
  have := wt.cnt; have := wt.n0; have := wt.n1; have := wt.le
  exact ⟨⟨by omega, by omega⟩, by omega, by omega, wt.lt⟩
theorem fit_around {c : Nat} {fs : List FN} {p : Nat} (ha : AllF fs) (hl : fs.length ≤ p) (hp : p ≤ L.length) {n : Int} {fs' : List FN} {q : Nat} (h : aroundF R L c fs p = some (n, fs', q)) : AllF fs' ∧ (0 ≤ n ∧ n ≤ 100000) := by
  unfold aroundF at h
  obtain ⟨n1, fs1, q1, h1, h2⟩ := bindF_inv h
  obtain ⟨-, h3⟩ := mustF_inv h2
  simp only [Option.some.injEq, Prod.mk.injEq] at h3
  obtain ⟨rfl, rfl, rfl⟩ := h3
  exact ⟨HF _ _ _ ha hl hp _ _ _ h1, (kid_ok HG HW HT HF hL hl hp h1).1⟩
theorem fit_list {fs : List FN} {p : Nat} (ha : AllF fs) (hl : fs.length ≤ p) (hp : p ≤ L.length) {n : Int} {fs' : List FN} {q : Nat} (h : listF W R L fs p = some (n, fs', q)) : AllF fs' := by
  unfold listF at h
  split at h
  · exact fit_add (fit_K 8 (by decide)) ha h
  · obtain ⟨n1, fs1, q1, h1, h2⟩ := bindF_inv h
    obtain ⟨-, h3⟩ := mustF_inv h2
    have k := (kid_ok HG HW HT HF hL hl hp h1).1
    exact fit_add (fit_R 8 [n1] (by decide) (by simp) (fun x hx => by simp at hx; subst hx; exact k)) (HF _ _ _ ha hl hp _ _ _ h1) h3
theorem fit_rows : ∀ g names kids fs p, AllF fs → fs.length ≤ p → p ≤ L.length → names.length ≤ p → (∀ z ∈ names, z.size ≤ 100000) → kids.length ≤ p → (∀ k ∈ kids, (0 : Int) ≤ k ∧ k ≤ 100000) → ∀ n fs' q, rowsF W R L g names kids fs p = some (n, fs', q) → AllF fs' := by
  intro g
  induction g with
  | zero => intro names kids fs p _ _ _ _ _ _ _ n fs' q h; cases h
  | succ g ih =>
    intro names kids fs p ha hl hp hn1 hn2 hk1 hk2 n fs' q h
    rw [rowsF] at h
    obtain ⟨e, h⟩ := mustF_inv h
    obtain ⟨n1, fs1, q1, h1, h2⟩ := bindF_inv h
    have e1 := (isAt_yes.1 e).1
    have e2 := skF_ge L (W.nam L p)
    have e3 := (HW.nam p hp).1
    have e4 := skF_ge L (skF L (W.nam L p) + 1)
    have hq : skF L (skF L (W.nam L p) + 1) ≤ L.length := skF_le (by omega)
    have k := kid_ok HG HW HT HF hL (by omega) hq h1
    have ha1 := HF _ _ _ ha (by omega) hq _ _ _ h1
    have hz : ∀ z ∈ names ++ [txt ((L.drop p).take (W.nam L p - p))], z.size ≤ 100000 := fun z hz => by
      rcases List.mem_append.1 hz with h' | h'
      · exact hn2 z h'
      · rw [List.mem_singleton] at h'; subst h'; have := cut_size (L := L) (p := p) (m := W.nam L p - p); omega
    have hk : ∀ x ∈ kids ++ [n1], (0 : Int) ≤ x ∧ x ≤ 100000 := fun x hx => by
      rcases List.mem_append.1 hx with h' | h'
      · exact hk2 x h'
      · rw [List.mem_singleton] at h'; subst h'; exact k.1
    split at h2
    · exact fit_add (fit_M _ _ ⟨by simp; omega, hz⟩ ⟨by simp; omega, hk⟩) ha1 h2
    · obtain ⟨e5, h3⟩ := mustF_inv h2
      have e6 := (isAt_yes.1 e5).1
      have e7 := skF_ge L (q1 + 1)
      exact ih _ _ _ _ ha1 (by omega) (skF_le (by omega)) (by simp; omega) hz (by simp; omega) hk _ _ _ h3
theorem fit_map {fs : List FN} {p : Nat} (ha : AllF fs) (hl : fs.length ≤ p) (hp : p ≤ L.length) {n : Int} {fs' : List FN} {q : Nat} (h : mapF W R L fs p = some (n, fs', q)) : AllF fs' := by
  unfold mapF at h
  split at h
  · exact fit_add (fit_K 9 (by decide)) ha h
  · exact fit_rows HG HW HT HF hL _ _ _ _ _ ha hl hp (by simp) (fun z hz => absurd hz (by simp)) (by simp) (fun z hz => absurd hz (by simp)) _ _ _ h
theorem fit_sel {fs : List FN} {p : Nat} (ha : AllF fs) (hl : fs.length ≤ p) {n : Int} {fs' : List FN} {q : Nat} (h : selF W R L fs p = some (n, fs', q)) : AllF fs' := by
  unfold selF at h
  obtain ⟨e, h⟩ := mustF_inv h
  have e1 := (isAt_yes.1 e).1
  have e2 := skF_ge L (p + 1)
  obtain ⟨n1, fs1, q1, h1, h2⟩ := bindF_inv h
  obtain ⟨a1, k⟩ := fit_around HG HW HT HF hL ha (by omega) (skF_le (by omega)) h1
  exact fit_add (fit_R 10 [n1] (by decide) (by simp) (fun x hx => by simp at hx; subst hx; exact k)) a1 h2
theorem fit_if {fs : List FN} {p : Nat} (ha : AllF fs) (hl : fs.length ≤ p) (hp : p ≤ L.length) {n : Int} {fs' : List FN} {q : Nat} (h : ifF W R L fs p = some (n, fs', q)) : AllF fs' := by
  unfold ifF at h
  obtain ⟨n1, fs1, q1, h1, h⟩ := bindF_inv h
  have k1 := kid_ok HG HW HT HF hL hl hp h1
  have a1 := HF _ _ _ ha hl hp _ _ _ h1
  obtain ⟨-, h⟩ := wordF_inv h
  have x1 : q1 ≤ nmJ L q1 := runJ_ge _ _ _
  have x2 := skF_ge L (nmJ L q1)
  have l2 : skF L (nmJ L q1) ≤ L.length := skF_le (nm_le k1.2.2.1)
  obtain ⟨n2, fs2, q2, h2, h⟩ := bindF_inv h
  have k2 := kid_ok HG HW HT HF hL (by omega) l2 h2
  have a2 := HF _ _ _ a1 (by omega) l2 _ _ _ h2
  obtain ⟨-, h⟩ := wordF_inv h
  have y1 : q2 ≤ nmJ L q2 := runJ_ge _ _ _
  have y2 := skF_ge L (nmJ L q2)
  have l3 : skF L (nmJ L q2) ≤ L.length := skF_le (nm_le k2.2.2.1)
  obtain ⟨n3, fs3, q3, h3, h⟩ := bindF_inv h
  have k3 := kid_ok HG HW HT HF hL (by omega) l3 h3
  have a3 := HF _ _ _ a2 (by omega) l3 _ _ _ h3
  obtain ⟨-, h⟩ := wordF_inv h
  exact fit_add (fit_R 22 [n1, n2, n3] (by decide) (by simp) (fun x hx => by simp at hx; rcases hx with rfl | rfl | rfl; exact k1.1; exact k2.1; exact k3.1)) a3 h
theorem fit_named {w : List UInt8} {fs : List FN} {p : Nat} (ha : AllF fs) (hl : fs.length ≤ p) (hp : p ≤ L.length) {n : Int} {fs' : List FN} {q : Nat} (h : namedF W R L w fs p = some (n, fs', q)) : AllF fs' := by
  unfold namedF at h
  split at h
  · exact fit_add (fit_C 1 0 _ (by decide) (by decide) (by decide)) ha h
  split at h
  · exact fit_add (fit_C 2 1 _ (by decide) (by decide) (by decide)) ha h
  split at h
  · exact fit_add (fit_C 2 0 _ (by decide) (by decide) (by decide)) ha h
  split at h
  · exact fit_sel HG HW HT HF hL ha hl h
  split at h
  · exact fit_if HG HW HT HF hL ha hl hp h
  split at h
  · exact fit_add (fit_K 11 (by decide)) ha h
  split at h
  · exact fit_add (fit_K 12 (by decide)) ha h
  split at h
  · exact fit_add (fit_K 13 (by decide)) ha h
  split at h
  · exact fit_add (fit_K 14 (by decide)) ha h
  · cases h
theorem fit_whole {fs : List FN} {p : Nat} (ha : AllF fs) (hl : fs.length ≤ p) (hp : p ≤ L.length) {n : Int} {fs' : List FN} {q : Nat} (h : wholeF W R L fs p = some (n, fs', q)) : AllF fs' := by
  have hs := skF_ge L (p + 1)
  unfold wholeF at h
  split at h
  · exact fit_point HG HW HT HF hL ha h
  split at h
  · rename_i e; have := (isAt_yes.1 e).1; exact (fit_around HG HW HT HF hL ha (by omega) (skF_le (by omega)) h).1
  split at h
  · rename_i e; have := (isAt_yes.1 e).1; exact fit_list HG HW HT HF hL ha (by omega) (skF_le (by omega)) h
  split at h
  · rename_i e; have := (isAt_yes.1 e).1; exact fit_map HG HW HT HF hL ha (by omega) (skF_le (by omega)) h
  split at h
  · rename_i e
    have h1 := (isAt_yes.1 e).1
    split at h
    · cases h
    · rename_i t q1 et
      have h2 := HT.tex _ _ _ (by omega) et
      exact fit_add (fit_C 4 0 _ (by decide) (by decide) (by rw [txt_size]; omega)) ha h
  split at h
  · have x1 : p ≤ nmJ L p := runJ_ge _ _ _
    have x2 := skF_ge L (nmJ L p)
    exact fit_named HG HW HT HF hL ha (by omega) (skF_le (nm_le hp)) h
  split at h
  · obtain ⟨v, hd, h⟩ := decF_inv h
    exact fit_add (fit_C 3 v _ (by decide) (HT.dec _ _ hd) (by decide)) ha h
  · cases h
theorem fit_eat {k : Int} {len : Nat} {n0 : Int} {fs : List FN} {p : Nat} (hk : 0 ≤ k ∧ k ≤ 100) (hn0 : 0 ≤ n0 ∧ n0 < (fs.length : Int)) (ha : AllF fs) (hl : fs.length ≤ p) (hp : p + len ≤ L.length) {n : Int} {fs' : List FN} {q : Nat} (h : eatF R L W k len n0 fs p = some (n, fs', q)) : AllF fs' := by
  have hs := skF_ge L (p + len)
  unfold eatF at h
  split at h
  · exact fit_add (fit_R 23 [n0] (by decide) (by simp) (fun x hx => by simp at hx; subst hx; omega)) ha h
  · obtain ⟨n1, fs1, q1, h1, h2⟩ := bindF_inv h
    have k1 := kid_ok HG HW HT HF hL (by omega) (skF_le hp) h1
    exact fit_add (fit_R k [n0, n1] hk (by simp) (fun x hx => by simp at hx; rcases hx with rfl | rfl; omega; exact k1.1)) (HF _ _ _ ha (by omega) (skF_le hp) _ _ _ h1) h2
theorem jnt_kind {p : Nat} {k : Int} {len : Nat} (h : jntF L p = some (k, len)) : 0 ≤ k ∧ k ≤ 100 := by
  have _ := HG; have _ := HW; have _ := HT; have _ := HF; have _ := hL
  rcases jnt_kinds h with rfl | rfl | rfl | rfl | rfl | rfl | rfl | rfl | rfl | rfl <;> decide
theorem fit_loop (least : Int) : ∀ g bind n0 fs p, AllF fs → fs.length ≤ p → p ≤ L.length → 0 ≤ n0 → n0 < (fs.length : Int) → ∀ n fs' q, loopF R L W g least bind n0 fs p = some (n, fs', q) → AllF fs' := by
  intro g
  induction g with
  | zero => intro bind n0 fs p _ _ _ _ _ n fs' q h; cases h
  | succ g ih =>
    intro bind n0 fs p ha hl hp h0 h1 n fs' q h
    rw [loopF] at h
    cases hj : jntF L p with
    | none => simp only [hj, Option.some.injEq, Prod.mk.injEq] at h; obtain ⟨rfl, rfl, rfl⟩ := h; exact ha
    | some kl =>
      obtain ⟨k, len⟩ := kl
      obtain ⟨j1, j2, -, -⟩ := jnt_says hj
      simp only [hj] at h
      split at h
      · simp only [Option.some.injEq, Prod.mk.injEq] at h; obtain ⟨rfl, rfl, rfl⟩ := h; exact ha
      split at h
      · cases h
      · obtain ⟨n1, fs1, q1, e1, e2⟩ := bindF_inv h
        have wt := eat_went HG j1 j2 e1
        have := wt.cnt; have := wt.le
        exact ih _ _ _ _ (fit_eat HG HW HT HF hL (jnt_kind HG HW HT HF hL hj) ⟨h0, h1⟩ ha hl j2 e1) (by omega) wt.le wt.n0 wt.n1 _ _ _ e2
theorem fit_sgn (l : Nat) : ∀ g n0 fs p, AllF fs → fs.length ≤ p → p ≤ L.length → 0 ≤ n0 → n0 < (fs.length : Int) → ∀ n fs' q, sgnS R L W l g n0 fs p = some (n, fs', q) → AllF fs' := by
  intro g
  induction g with
  | zero => intro n0 fs p _ _ _ _ _ n fs' q h; cases h
  | succ g ih =>
    intro n0 fs p ha hl hp h0 h1 n fs' q h
    rw [sgnS] at h
    cases hj : jntF L p with
    | none => simp only [hj, Option.some.injEq, Prod.mk.injEq] at h; obtain ⟨rfl, rfl, rfl⟩ := h; exact ha
    | some kl =>
      obtain ⟨k, len⟩ := kl
      obtain ⟨j1, j2, -, -⟩ := jnt_says hj
      simp only [hj] at h
      split at h
      · obtain ⟨n1, fs1, q1, e1, e2⟩ := bindF_inv h
        have wt := eat_went HG j1 j2 e1
        have := wt.cnt; have := wt.le
        have a1 := fit_eat HG HW HT HF hL (jnt_kind HG HW HT HF hL hj) ⟨h0, h1⟩ ha hl j2 e1
        split at e2
        · exact ih _ _ _ a1 (by omega) wt.le wt.n0 wt.n1 _ _ _ e2
        · simp only [Option.some.injEq, Prod.mk.injEq] at e2; obtain ⟨rfl, rfl, rfl⟩ := e2; exact a1
      · simp only [Option.some.injEq, Prod.mk.injEq] at h; obtain ⟨rfl, rfl, rfl⟩ := h; exact ha
theorem fit_lv : ∀ d fs p, AllF fs → fs.length ≤ p → p ≤ L.length → ∀ n fs' q, lvS R L W d fs p = some (n, fs', q) → AllF fs' := by
  intro d
  induction d with
  | zero =>
    intro fs p ha hl hp n fs' q h
    rw [lvS] at h
    obtain ⟨n1, fs1, q1, h1, h2⟩ := bindF_inv h
    have wt := whole_went HG HW hp h1
    have := wt.cnt
    exact fit_sgn HG HW HT HF hL 6 _ _ _ _ (fit_whole HG HW HT HF hL ha hl hp h1) (by omega) wt.le wt.n0 wt.n1 _ _ _ h2
  | succ d ih =>
    intro fs p ha hl hp n fs' q h
    rw [lvS] at h
    obtain ⟨n1, fs1, q1, h1, h2⟩ := bindF_inv h
    have wt := lvS_went HG HW _ _ _ _ _ _ hp h1
    have := wt.cnt
    exact fit_sgn HG HW HT HF hL _ _ _ _ _ (ih _ _ ha hl hp _ _ _ h1) (by omega) wt.le wt.n0 wt.n1 _ _ _ h2
end
theorem fit_readP {W : WP} {L : List UInt8} (HW : WGood W L) (HT : WFit W L) (hL : L.length ≤ 5000) : ∀ f, FitD L (readP W L f) := by
  intro f
  induction f with
  | zero => intro least fs p _ _ _ n fs' q h; cases h
  | succ f ih =>
    intro least fs p ha hl hp n fs' q h
    rw [readP] at h
    obtain ⟨n1, fs1, q1, h1, h2⟩ := bindF_inv h
    have HG := readP_goes HW f
    have wt := whole_went HG HW hp h1
    have := wt.cnt
    exact fit_loop HG HW HT ih hL least _ _ _ _ _ (fit_whole HG HW HT ih hL ha hl hp h1) (by omega) wt.le wt.n0 wt.n1 _ _ _ h2
theorem fit_readS {W : WP} {L : List UInt8} (HW : WGood W L) (HT : WFit W L) (hL : L.length ≤ 5000) : ∀ f, FitD L (readS W L f) := by
  intro f
  induction f with
  | zero => intro least fs p _ _ _ n fs' q h; cases h
  | succ f ih =>
    intro least fs p ha hl hp n fs' q h
    rw [readS] at h
    exact fit_lv (readS_goes HW f) HW HT ih hL _ _ _ ha hl hp _ _ _ h
theorem tx_in {L : List UInt8} : ∀ p t q, p ≤ L.length → txJ L p = some (t, q) → p ≤ q ∧ q ≤ L.length := fun p t q _ h => by
  obtain ⟨h1, h2, -, -⟩ := txJ_says _ _ _ _ (Nat.le_refl _) h; exact ⟨by omega, h2⟩
theorem wfitP (L : List UInt8) : WFit WPr L where
  dec := fun l v h => by
    have h1 : decW l = some v := h
    unfold decW at h1
    split at h1
    · rename_i u e
      split at h1
      · simp only [Option.some.injEq] at h1
        subst h1
        have := Lib.parseIntB_bounds e
        omega
      · cases h1
    · cases h1
  tex := fun p t q hp h => by
    obtain ⟨h1, h2, h3, -⟩ := txJ_says _ _ _ _ (Nat.le_refl _) (show txJ L p = some (t, q) from h); omega
theorem wfitS (L : List UInt8) : WFit WSp L where
  dec := fun l v h => by have := (intT_itoa (show intT l = some v from h)).2; omega
  tex := fun p t q hp h => (wfitP L).tex p t q hp ((wrel L).tex p _ h)
theorem goodP (L : List UInt8) : WGood WPr L := wgoodP L tx_in
theorem goodS (L : List UInt8) : WGood WSp L := wgoodS L tx_in
end Go.Proofs.YtehihemfepbmfaaGreatDoor
