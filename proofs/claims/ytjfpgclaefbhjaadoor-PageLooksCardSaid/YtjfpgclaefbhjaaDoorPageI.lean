/- Layer 4: the document's number at a place of the bytes. -/
import Derived.Test.YtjfpgclaefbhjaaDoorPageH
import Derived.Test.YtjfpgclaefbhjaaDoorPageM
import Derived.Test.YtjfpgclaefbhjaaDoorRefRead
import Derived.Test.YtjfpgclaefbhjaaDoorCrcRef
namespace Go.Proofs.YtjfpgclaefbhjaaDoor
open Go.RowKit

set_option maxRecDepth 100000 in
set_option maxHeartbeats 1000000 in
/-- The document's read. -/
theorem dread_any (a : Option Addr) (b : List UInt8) (c at' many n₁ : Nat) (w : World) (hm : BytesAt n₁ w a b) (hb : b.length = 256) (hc : 256 ≤ c) (h8 : many ≤ 8) (hat : at' + many ≤ 256) :
    Calls Tryd.prog 29 #[.slice a 256 c, .int .i64 at', .int .i64 many] w fun e w' => e = .returned (.int .i64 (wrap64 (numOf ((b.drop at').take many)))) ∧ w = w' := by
  have hsl := sliceFrom w a 256 c at' (by omega)
  have hr := refRead_any (slFrom a c at') (b.drop at') (c - at') many n₁ h8 w (rest_at hm (by omega)) (by rw [List.length_drop]; omega)
  rw [List.length_drop, hb] at hr
  have hP : ∀ e w', RefReadPost w (b.drop at') many e w' → e = .returned (.tuple #[.int .u64 (numOf ((b.drop at').take many) : Nat), .bool true]) ∧ w = w' := fun e w' h => by
    unfold RefReadPost at h
    rw [if_neg (by rw [List.length_drop]; omega)] at h
    exact h
  have hr := hr.mono hP
  obtain ⟨v, hv⟩ : ∃ v, numOf ((b.drop at').take many) = v := ⟨_, rfl⟩
  rw [hv] at hr ⊢
  have hv2 : v < 18446744073709551616 := by
    have h1 := numOf_lt ((b.drop at').take many)
    rw [hv] at h1
    have h2 : 256 ^ ((b.drop at').take many).length ≤ 256 ^ 8 := Nat.pow_le_pow_right (by decide) (by rw [List.length_take]; omega)
    have h3 : (256 : Nat) ^ 8 = 18446744073709551616 := by decide
    omega
  obtain ⟨a2, ha2⟩ : ∃ x, slFrom a c at' = x := ⟨_, rfl⟩
  rw [ha2] at hsl hr
  have HR := Lib.hid hr
  clear hr hP ha2 hm hv
  go_enter Tryd.func29, Tryd.ntmps29
  go_wp2_with fail

  refine HR.out.mono ?_
  rintro e w' ⟨rfl, rfl⟩
  go_wp2
  go_ret
  exact ⟨rfl, rfl⟩
end Go.Proofs.YtjfpgclaefbhjaaDoor
