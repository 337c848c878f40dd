/- The contract of the statements' own 'joined': parts, one behind the other, or that they are too many, or too long. -/
import Derived.WalkKit
import Derived.Outline
import Derived.LoopTactic
import Derived.Lib.Hide
import Derived.Test.YtjpjijjnkjomnaaDoorBytes
import Derived.Test.YtjpjijjnkjomnaaDoorCrcSum
namespace Go.Proofs.YtjpjijjnkjomnaaDoor
open Go.RowKit

/-- An argument of parts: PartsAt, and each part as Go has it. -/
def ArgParts (n₀ : Nat) (W : World) (a : Option Addr) (ls : List (List UInt8)) : Prop := ls ≠ [] → ∃ b off, a = some ⟨b, off, none⟩ ∧ b < n₀ ∧
  ∀ j, j < ls.length → (ls[j]?.getD []).length ≤ 9223372036854775807 ∧ ∃ ai ci, W.cell? ⟨b, off + j, none⟩ = some (.slice ai (ls[j]?.getD []).length ci) ∧ BytesAt n₀ W ai (ls[j]?.getD []) ∧ (ls[j]?.getD []).length ≤ ci ∧ (ai = none → ci = 0)
theorem ArgParts.parts {n₀ : Nat} {A : World} {a : Option Addr} {l : List (List UInt8)} (k : ArgParts n₀ A a l) : PartsAt n₀ A a l := fun hl => by
  obtain ⟨b, off, rfl, hb, hc⟩ := k hl
  exact ⟨b, off, rfl, hb, fun j hj => by obtain ⟨h1, ai, ci, h2, h3, _⟩ := hc j hj; exact ⟨h1, ai, ci, h2, h3⟩⟩
theorem ArgParts.below {n₀ : Nat} {A B : World} {a : Option Addr} {l : List (List UInt8)} (h : Below n₀ A B) (k : ArgParts n₀ A a l) : ArgParts n₀ B a l := fun hl => by
  obtain ⟨b, off, rfl, hb, hc⟩ := k hl
  refine ⟨b, off, rfl, hb, fun j hj => ?_⟩
  obtain ⟨h1, ai, ci, h2, h3, h4⟩ := hc j hj
  exact ⟨h1, ai, ci, (h.cell (p := ⟨b, off + j, none⟩) hb).trans h2, h3.below h, h4⟩

/-- What 'joined' says. -/
def JoinedPost (w : World) (ls : List (List UInt8)) (e : Ending) (w' : World) : Prop :=
  Below w.heap.size w w' ∧ ((e = .returned (.tuple #[.slice none 0 0, .bool false])) ∨ ∃ v, e = .returned (.tuple #[v, .bool false]) ∨ (e = .returned (.tuple #[v, .bool true]) ∧ OwnB w' w.heap.size v ls.flatten ∧ ls.flatten.length ≤ 3000 ∧ ls.length ≤ 20))

theorem OwnB.form {w : World} {base : Nat} {v : Value} {l : List UInt8} (h : OwnB w base v l) : ∃ a cap, v = .slice a l.length cap ∧ BytesAt w.heap.size w a l ∧ l.length ≤ cap ∧ cap ≤ maxLen ∧ (a = none → cap = 0) ∧ (∀ b off s, a = some ⟨b, off, s⟩ → base ≤ b) := by
  rcases h.bytes with ⟨rfl, rfl⟩ | ⟨g, cap, rfl, h1, _, h2, h3, h4, _⟩
  · exact ⟨none, 0, rfl, .nil, Nat.le_refl _, Nat.zero_le _, fun _ => rfl, fun _ _ _ e => by cases e⟩
  · exact ⟨_, cap, rfl, h4, h2, h3, (fun e => by cases e), (fun b off s e => by cases e; exact h1)⟩

set_option maxHeartbeats 4000000 in
set_option maxRecDepth 100000 in
theorem joined_any (a : Option Addr) (cap : Nat) (ls : List (List UInt8)) (hls : ls.length ≤ 9223372036854775807) (w : World) (hc : ArgParts w.heap.size w a ls) :
    Calls Tryd.prog 9 #[.slice a ls.length cap] w fun e w' => JoinedPost w ls e w' := by
  go_enter Tryd.func9, Tryd.ntmps9
  go_wp2
  go_loopw [4, 5] (fun v i wr => ∃ k : Nat, k ≤ ls.length ∧ k ≤ 20 ∧ i = .int .i64 k ∧ OwnB wr w.heap.size v (ls.take k).flatten ∧ (ls.take k).flatten.length ≤ 6000 ∧ Below w.heap.size w wr) (fun _ i _ => ls.length - (intOf i).toNat)
  case atStart => exact ⟨0, Nat.zero_le _, Nat.zero_le _, rfl, OwnB.nil _ _, by simp, Below.refl _ _⟩
  case round =>
    obtain ⟨k, hk, hk20, rfl, hO, hle, hB⟩ := hrel
    obtain ⟨av, cv, rfl, hbv, hcv1, hcv2, hnv, -⟩ := hO.form
    have HNV := Lib.hid hnv
    clear hnv
    by_cases hlt : k < ls.length
    · obtain ⟨b, off, rfl, hb, hcs⟩ := hc (by rintro rfl; simp at hlt)
      obtain ⟨hpl, ai, ci, hcx, hba, hci, hni⟩ := hcs k hlt
      have hcx' := (hB.cell (p := ⟨b, off + k, none⟩) hb).trans hcx
      have hba' := hba.below hB
      have HF := Lib.hid (flat_succ hlt)
      have HNI := Lib.hid hni
      have hszB := hB.size
      obtain ⟨pt, hpt⟩ : ∃ pt, ls[k]?.getD [] = pt := ⟨_, rfl⟩
      obtain ⟨fl, hfl⟩ : ∃ fl, (ls.take k).flatten = fl := ⟨_, rfl⟩
      rw [hpt] at hcx' hba' hpl HF hci
      rw [hfl] at HF hO hle hbv hcv1 ⊢
      clear hpt hcs hcx hni hfl hba
      by_cases h1 : 3000 < pt.length
      · go_wp2_with fail
        go_ret2
        exact ⟨hB, .inl rfl⟩
      · by_cases h2 : 20 ≤ k
        · go_wp2_with fail
          go_ret2
          exact ⟨hB, .inl rfl⟩
        · by_cases h3 : 3000 < fl.length
          · go_wp2_with fail
            go_ret2
            exact ⟨hB, .inl rfl⟩
          · have q1 : fl.length + pt.length ≤ 1099511627776 := by omega
            go_wp2_with (at_builtin; refine wpList_append_bytes rfl _ _ rfl w.heap.size w.heap.size _ _ rfl hO ai pt ci rfl HNI.out hci hba' q1 hszB ?_; intro v1 w1 O1 g1; have B1 := Lib.hid (hO.grown g1 hB (Nat.le_refl _) hszB); clear g1)
            go_roundw
            case rel => exact ⟨k + 1, by omega, by omega, by go_num, by rw [HF.out]; exact O1, by rw [HF.out, List.length_append]; omega, B1.out⟩
            case measure => simp [intOf]; omega
    · obtain rfl : k = ls.length := by omega
      rw [List.take_length] at hO hle hbv hcv1 ⊢
      obtain ⟨fl, hfl⟩ : ∃ fl, ls.flatten = fl := ⟨_, rfl⟩
      rw [hfl] at hO hle hbv hcv1 ⊢
      have HFL := Lib.hid hfl
      clear hfl
      by_cases h3 : 3000 < fl.length
      · go_wp2_with fail
        go_ret2
        have hd : decide ((fl.length : Int) ≤ 3000) = false := decide_eq_false (by omega)
        exact ⟨hB, .inr ⟨.slice av fl.length cv, .inl (by show Ending.returned (Value.tuple #[_, Value.bool (decide ((fl.length : Int) ≤ 3000))]) = _; rw [hd]; rfl)⟩⟩
      · go_wp2_with fail
        go_ret2
        have hd : decide ((fl.length : Int) ≤ 3000) = true := decide_eq_true (by omega)
        exact ⟨hB, .inr ⟨_, .inr ⟨by show Ending.returned (Value.tuple #[_, Value.bool (decide ((fl.length : Int) ≤ 3000))]) = _; rw [hd], by rw [HFL.out]; exact hO, by rw [HFL.out]; omega, hk20⟩⟩⟩
end Go.Proofs.YtjpjijjnkjomnaaDoor
