/- The plain side of RefsBack: counts of one variable at the nodes 1 to 3. -/
import Derived.Test.YtkpbmnaghepddabRG
namespace Go.Proofs.Ytkpbmnaghepddab
/-- One variable has so many at each node. -/
def cntF (v : Nm) (c : Int → Int) : Hk → Int := fun y => if y.1 = v then c y.2 else 0
def upC (c : Int → Int) (n t : Int) : Int → Int := fun m => if m = n then c n + t else c m
theorem wrap_small (x : Int) (h1 : -1000 ≤ x) (h2 : x ≤ 1000) : IntKind.i64.wrap x = x := by
  simp only [IntKind.wrap, IntKind.bits, IntKind.signed]; simp; omega
theorem cntF_add (v : Nm) (c : Int → Int) (n t : Int) (h1 : -1000 ≤ c n + t) (h2 : c n + t ≤ 1000) : addF (cntF v c) (v, n) t = cntF v (upC c n t) := by
  funext y
  obtain ⟨y1, y2⟩ := y
  unfold addF cntF upC
  by_cases e : y1 = v
  · subst e
    by_cases e2 : y2 = n
    · subst e2; simp [wrap_small _ h1 h2]
    · have : ¬ ((y1, y2) = (y1, n)) := fun h => e2 (Prod.mk.inj h).2
      simp [this, e2]
  · have : ¬ ((y1, y2) = (v, n)) := fun h => e (Prod.mk.inj h).1
    simp [this, e]
theorem cntF_zero (v : Nm) : cntF v (fun _ => 0) = fun _ => 0 := by funext y; simp [cntF]
theorem sentF_one (f : Hk → Int) (to : Int) (x : Nm) : sentF f to [x] = addF f (x, to) 1 := rfl
theorem exp_cnt (v : Nm) (c : Int → Int) (h0 : c 0 = 0) : expB (cntF v c) 4 v = (!decide (c 1 = 0) || !decide (c 2 = 0) || !decide (c 3 = 0)) := by
  have e : List.range 4 = [0, 1, 2, 3] := by decide
  unfold expB
  rw [e]
  simp [cntF, h0, Bool.or_assoc]
end Go.Proofs.Ytkpbmnaghepddab
