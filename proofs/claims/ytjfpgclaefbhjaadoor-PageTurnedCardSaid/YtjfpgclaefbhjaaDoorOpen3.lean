/- An argument of three ints, opened. -/
import Derived.OpenShut
import Derived.ChangeArms
import Derived.WideShapes
import Derived.Test.YtjfpgclaefbhjaaDoorKit
namespace Go.Proofs.YtjfpgclaefbhjaaDoor
open Go.ChangeShapes Go.WideShapes Go.RowKit

section
variable {H : Type} {enc : TypeId × Value → H} {P : Program}
theorem open_three {t e : TypeId} {base : Nat} {W : World} {v : Value} {d : DataW H} {ps : List MemPlace} (ht : P.underlying t = some (.array 3 e)) (he : P.underlying e = some (.int .i64)) (ct : P.cellsOf t = 3) (ce : P.cellsOf e = 1)
    (hok : Value.okWide P W .any base t v) (h : DataW.Trod enc P W 0 (fun _ => true) true t v d ps) : ∃ z0 z1 z2, v = .agg #[.int .i64 z0, .int .i64 z1, .int .i64 z2] := by
  unfold Value.okWide at hok
  rw [ht] at hok
  obtain ⟨cs, rfl, hsz, -⟩ := hok
  rw [ct] at hsz
  obtain ⟨fuel, hf⟩ := h
  obtain ⟨xs, m, -, -, -, hlen, hel⟩ := DataW.trod_array ht hf
  obtain ⟨c0, c1, c2, rfl⟩ : ∃ c0 c1 c2, cs = #[c0, c1, c2] := by
    match cs, hsz with
    | ⟨[c0, c1, c2]⟩, _ => exact ⟨c0, c1, c2, rfl⟩
  have hget : ∀ i (hi : i < 3) (c : Value), (([c0, c1, c2].drop (i * P.cellsOf e)).take (P.cellsOf e)) = [c] → ∃ z, c = .int .i64 z := fun i hi c hc => by
    have h1 := hel i hi
    rw [show (Value.agg #[c0, c1, c2]).cells.toList = [c0, c1, c2] from rfl, hc, List.getElem?_eq_getElem (by omega)] at h1
    obtain ⟨z, hz, -, -⟩ := DataW.trod_int he h1
    exact ⟨z, by simpa using hz⟩
  obtain ⟨z0, rfl⟩ := hget 0 (by decide) c0 (by rw [ce]; rfl)
  obtain ⟨z1, rfl⟩ := hget 1 (by decide) c1 (by rw [ce]; rfl)
  obtain ⟨z2, rfl⟩ := hget 2 (by decide) c2 (by rw [ce]; rfl)
  exact ⟨z0, z1, z2, rfl⟩
end
end Go.Proofs.YtjfpgclaefbhjaaDoor
