/- Bytes of the call's own, of which bits are turned one by one. -/
import Derived.WalkKit
import Derived.Test.YtjfpgclaefbhjaaDoorBytes
import Derived.Test.YtjfpgclaefbhjaaDoorCrcBits
namespace Go.Proofs.YtjfpgclaefbhjaaDoor
open Go.RowKit

/-- The slice at ac, of the call's own, holds cl. -/
def CTo (n₁ : Nat) (W : World) (ac : Option Addr) (cl : List UInt8) : Prop := cl ≠ [] → ∃ g, ac = some ⟨g, 0, none⟩ ∧ n₁ ≤ g ∧ g < W.heap.size ∧
  ∀ j, j < cl.length → W.cell? ⟨g, j, none⟩ = some (.int .u8 ((cl[j]?.getD 0).toNat : Int)) ∧ W.frozen? ⟨g, j, none⟩ = false
theorem CTo.of_own {n₁ : Nat} {W : World} {v : Value} {cl : List UInt8} (h : OwnB W n₁ v cl) : ∃ ac cc, v = .slice ac cl.length cc ∧ cl.length ≤ cc ∧ cc ≤ maxLen ∧ CTo n₁ W ac cl := by
  rcases h.bytes with ⟨rfl, rfl⟩ | ⟨g, cc, rfl, h1, h2, h3, h4, _, h5⟩
  · exact ⟨none, 0, rfl, Nat.le_refl _, Nat.zero_le _, fun hne => absurd rfl hne⟩
  · exact ⟨_, cc, rfl, h3, h4, fun _ => ⟨g, rfl, h1, h2, h5⟩⟩
theorem CTo.bytes {n₁ : Nat} {W : World} {ac : Option Addr} {cl : List UInt8} (h : CTo n₁ W ac cl) : BytesAt W.heap.size W ac cl := fun hne => by
  obtain ⟨g, rfl, _, h2, h3⟩ := h hne
  exact ⟨g, 0, rfl, h2, fun j hj => by rw [Nat.zero_add]; exact (h3 j hj).1⟩
theorem flip_get (cl : List UInt8) (m : Nat) (hm : m < 8 * cl.length) (j : Nat) (hj : j < cl.length) : (flipB cl (m : Int))[j]?.getD 0 = if j = m / 8 then (cl[j]?.getD 0) ^^^ UInt8.ofNat (2 ^ (m % 8)) else cl[j]?.getD 0 := by
  unfold flipB
  rw [if_pos (by omega), Int.toNat_natCast]
  have hu := unit_get cl.length m j hj
  have hlen : j < (unit cl.length m).length := by rw [unit_length]; exact hj
  have e : (xor2 cl (unit cl.length m))[j]?.getD 0 = (cl[j]?.getD 0) ^^^ ((unit cl.length m)[j]?.getD 0) := by
    have h2 : j < (xor2 cl (unit cl.length m)).length := by simp [xor2, unit_length]; omega
    rw [List.getElem?_eq_getElem h2, List.getElem?_eq_getElem hj, List.getElem?_eq_getElem hlen]
    simp [xor2]
  rw [e, hu]
  split
  · rfl
  · simp
theorem CTo.set {n₁ g : Nat} {W : World} {cl : List UInt8} {m v : Nat} (h : CTo n₁ W (some ⟨g, 0, none⟩) cl) (hm : m < 8 * cl.length) (hv : v = ((cl[m / 8]?.getD 0) ^^^ UInt8.ofNat (2 ^ (m % 8))).toNat) :
    CTo n₁ (W.setCell ⟨g, m / 8, none⟩ (.int .u8 (v : Int))) (some ⟨g, 0, none⟩) (flipB cl (m : Int)) := fun _ => by
  obtain ⟨g', e, h1, h2, h3⟩ := h (by rintro rfl; simp at hm)
  cases e
  refine ⟨g, rfl, h1, by simpa [World.setCell] using h2, fun j hj => ?_⟩
  rw [flipB_length] at hj
  refine ⟨?_, by rw [World.frozen?_setCell]; exact (h3 j hj).2⟩
  rw [flip_get cl m hm j hj]
  by_cases e : j = m / 8
  · subst e
    rw [if_pos rfl, ← hv]
    exact World.cell?_setCell_same' _ _ _ (by rw [(h3 _ hj).1]; rfl)
  · rw [if_neg e, World.cell?_setCell_other _ _ _ _ (fun h => e (by cases h; rfl))]
    exact (h3 j hj).1

/-- The three numbers; the bytes when k of them have been gone over. -/
def zz (z0 z1 z2 : Int) (k : Nat) : Int := if k = 0 then z0 else if k = 1 then z1 else z2
def flips (l : List UInt8) (z0 z1 z2 : Int) : Nat → List UInt8
  | 0 => l
  | k + 1 => flipB (flips l z0 z1 z2 k) (zz z0 z1 z2 k)
theorem flips_length (l : List UInt8) (z0 z1 z2 : Int) : ∀ k, (flips l z0 z1 z2 k).length = l.length
  | 0 => rfl
  | k + 1 => by rw [flips, flipB_length]; exact flips_length l z0 z1 z2 k

end Go.Proofs.YtjfpgclaefbhjaaDoor
