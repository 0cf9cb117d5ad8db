/- Two ways of the same steps that always take the least thing are one. -/
import Derived.Test.YtfdappdcihljdaaDoorSweep
import Derived.Test.YtfdappdcihljdaaDoorWay
namespace Go.Proofs.YtfdappdcihljdaaDoor

/-- Two such ways are one. -/
theorem WayTo.one {m : Nat} {rows : List Nat} {b d : Nat} {V W : Nat → Nat} (h : WayTo m rows b d d V) (g : WayTo m rows b d d W) (h0 : V 0 = W 0) : ∀ i, i ≤ d → V i = W i
  | 0, _ => h0
  | i + 1, hi => by
    have ih := WayTo.one h g h0 i (by omega)
    have h1 := h.on i (by omega)
    have g1 := g.on i (by omega)
    have h2 := h.first i (by omega) (W (i + 1)) (by rw [ih]; exact g1) (g.far (i + 1) hi)
    have g2 := g.first i (by omega) (V (i + 1)) (by rw [← ih]; exact h1) (h.far (i + 1) hi)
    omega
end Go.Proofs.YtfdappdcihljdaaDoor
