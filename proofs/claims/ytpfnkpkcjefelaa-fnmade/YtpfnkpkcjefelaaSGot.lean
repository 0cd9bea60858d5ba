/-
  spec.Got: the nodes of the part to which the steps lead.
-/
import Derived.Test.YtpfnkpkcjefelaaWn5
import Derived.Test.YtpfnkpkcjefelaaPsP
import Derived.Test.YtpfnkpkcjefelaaSpc3
import Derived.Test.YtpfnkpkcjefelaaSPart
import Derived.Test.YtpfnkpkcjefelaaTVal
import Derived.Deep.RegionWith
namespace Go.Proofs.Ytpfnkpkcjefelaa
open Go.RowKit
set_option linter.unusedSimpArgs false
set_option linter.unusedVariables false

def kidR (o : Option Nat) : Int := match o with
  | none => -1
  | some k => k

/-- The nodes that come of it. -/
def gotPart (vs : List VN) (o : Option Nat) : List VN := match o with
  | none => []
  | some q => partOf vs q
def gotB (vs : List VN) (ps : List PS) : Bool := okB vs && pathB ps && (gotN vs (vs.length - 1) ps).isSome
def gotNs (vs : List VN) (ps : List PS) : List VN := if okB vs && pathB ps then (gotPart vs (gotN vs (vs.length - 1) ps)) else []

theorem pathB_steps {ps : List PS} (h : pathB ps = true) : ∀ k, k < ps.length → stepB (stepAt ps k) = true := by
  unfold pathB at h
  simp only [Bool.and_eq_true, List.all_eq_true] at h
  exact fun k hk => h.2 k (List.mem_range.2 hk)

theorem stepB_nonneg {x : PS} (h : stepB x = true) : x.named = true ∨ 0 ≤ x.pl := by
  unfold stepB at h
  cases hnm : x.named
  · right; simp [hnm] at h; omega
  · exact Or.inl rfl

end Go.Proofs.Ytpfnkpkcjefelaa
