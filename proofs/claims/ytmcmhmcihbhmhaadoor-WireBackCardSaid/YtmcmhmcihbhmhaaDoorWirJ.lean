/-
  A list that came in: its length is at most its capacity.
-/
import Derived.Test.YtmcmhmcihbhmhaaDoorWirK
namespace Go.Proofs.YtmcmhmcihbhmhaaDoor
open Go.ChangeShapes Go.WideShapes Go.ChangeAt Go.RowKit Go

set_option maxRecDepth 100000 in
theorem ints_cap {H : Type} {enc : TypeId × Value → H} {W : World} {v : Value} {d : DataW H} {p : List MemPlace}
    (h0 : DataW.Trod enc Tryd.prog W 0 (fun _ => true) true 22 v d p) : ∀ a len cap, v = .slice a len cap → len ≤ cap := by
  intro a0 len cap e
  subst e
  obtain ⟨fuel, hf⟩ := id h0
  rcases open_ints Tryd.underlying22 Tryd.underlying3 cells3 hf with ⟨hcs, hx⟩ | ⟨a, len', cap', zs, hcs, _, hl, hm, hz, hx, hcell, hwz⟩
  · simp [Value.cells] at hcs
    omega
  · simp [Value.cells] at hcs
    omega
end Go.Proofs.YtmcmhmcihbhmhaaDoor
