/- Layer 13: the library's calls on texts: Cut at a slash, ContainsAny of both signs, HasPrefix, TrimSuffix. -/
import Derived.WalkKit
import Derived.Outline
import Derived.LoopTactic
import Derived.LoopN
import Derived.Lib.Hide
import Derived.Laws.RangeAny
import Derived.Deep.LoopGhost
import Derived.Test.YtgcfgheamaoceaaGreatDoorTopSh
import Derived.Test.YtgcfgheamaoceaaGreatDoorTopA
import Derived.Test.YtgcfgheamaoceaaGreatDoorUtfD
namespace Go.Proofs.YtgcfgheamaoceaaGreatDoor
open Go.RowKit Go.Lib

theorem indexByte_no {l : List UInt8} {c : UInt8} (h : ∀ b ∈ l, b ≠ c) : Lib.indexByte l c = -1 := by
  induction l with
  | nil => rfl
  | cons b l ih =>
    unfold Lib.indexByte
    have hb : (b == c) = false := by simpa using h b (by simp)
    rw [hb, ih fun x hx => h x (by simp [hx])]
    rfl
theorem indexByte_at {x y : List UInt8} {c : UInt8} (h : ∀ b ∈ x, b ≠ c) : Lib.indexByte (x ++ c :: y) c = x.length := by
  induction x with
  | nil => simp [Lib.indexByte]
  | cons b x ih =>
    rw [List.cons_append]
    unfold Lib.indexByte
    have hb : (b == c) = false := by simpa using h b (by simp)
    have hi := ih fun z hz => h z (by simp [hz])
    rw [hb, hi]
    have : ((x.length : Int) == -1) = false := by simp
    simp [this]
/-- Bytes are cut at the first slash, or have none. -/
theorem slash_cut (l : List UInt8) : (∀ b ∈ l, b ≠ 47) ∨ ∃ x y, l = x ++ 47 :: y ∧ ∀ b ∈ x, b ≠ 47 := by
  induction l with
  | nil => exact .inl fun _ h => by cases h
  | cons b l ih =>
    by_cases hb : b = 47
    · subst hb; exact .inr ⟨[], l, rfl, fun _ h => by cases h⟩
    · rcases ih with h | ⟨x, y, rfl, h⟩
      · exact .inl fun c hc => by
          rcases List.mem_cons.1 hc with rfl | hc
          · exact hb
          · exact h c hc
      · exact .inr ⟨b :: x, y, rfl, fun c hc => by
          rcases List.mem_cons.1 hc with rfl | hc
          · exact hb
          · exact h c hc⟩
set_option maxRecDepth 100000 in
theorem lcut_no (s : ByteArray) (w : World) (h : ∀ b ∈ s.data.toList, b ≠ 47) :
    Calls Tryz.prog 112 #[.string s, .string ⟨#[47]⟩] w fun e w' => e = .returned (.tuple #[.string s, .string ⟨#[]⟩, .bool false]) ∧ ∃ n, w.drewN n = w' := by
  have H := Lib.hid (stringslite_Index_one s 47 w)
  have HI := Lib.hid (indexByte_no h)
  clear h
  go_enter Tryz.func112, Tryz.ntmps112
  go_wp2_with (go_at_call 134; refine H.out.mono ?_; rintro e w' ⟨rfl, rfl⟩; rw [HI.out])
  go_ret3
  exact ⟨rfl, 0, rfl⟩
set_option maxRecDepth 100000 in
theorem lcut_yes (s : ByteArray) (i : Nat) (hi : i < s.size) (hs : s.size ≤ 1000000) (hix : Lib.indexByte s.data.toList 47 = i) (w : World) :
    Calls Tryz.prog 112 #[.string s, .string ⟨#[47]⟩] w fun e w' => e = .returned (.tuple #[.string (s.extract 0 i), .string (s.extract (i + 1) s.size), .bool true]) ∧ ∃ n, w.drewN n = w' := by
  have H := Lib.hid (stringslite_Index_one s 47 w)
  have HI := Lib.hid hix
  have hlo := str_lo s i (by omega)
  have hhi := str_hi s (i + 1) (by omega)
  clear hix
  go_enter Tryz.func112, Tryz.ntmps112
  go_wp2_with (go_at_call 134; refine H.out.mono ?_; rintro e w' ⟨rfl, rfl⟩; rw [HI.out])
  go_quiet (fail)
  go_wp2
  go_ret3
  exact ⟨rfl, _, rfl⟩
theorem cut_no (s : ByteArray) (w : World) (h : ∀ b ∈ s.data.toList, b ≠ 47) :
    Calls Tryz.prog 90 #[.string s, .string ⟨#[47]⟩] w fun e w' => e = .returned (.tuple #[.string s, .string ⟨#[]⟩, .bool false]) ∧ ∃ n, w.drewN n = w' := by
  have H := Lib.hid (lcut_no s w h)
  clear h
  go_enter Tryz.func90, Tryz.ntmps90
  go_wp2_with (go_at_call 112; refine H.out.mono ?_; rintro e w' ⟨rfl, n, rfl⟩)
  go_ret3
  exact ⟨rfl, n, rfl⟩
theorem cut_yes (s x y : ByteArray) (he : s.data.toList = x.data.toList ++ 47 :: y.data.toList) (hx : ∀ b ∈ x.data.toList, b ≠ 47) (hs : s.size ≤ 1000000) (w : World) :
    Calls Tryz.prog 90 #[.string s, .string ⟨#[47]⟩] w fun e w' => e = .returned (.tuple #[.string x, .string y, .bool true]) ∧ ∃ n, w.drewN n = w' := by
  have hsz : s.size = x.size + 1 + y.size := by
    rw [Lib.size_eq, he, List.length_append, List.length_cons, ← Lib.size_eq, ← Lib.size_eq]; omega
  have hix : Lib.indexByte s.data.toList 47 = (x.size : Nat) := by rw [he, indexByte_at hx, ← Lib.size_eq]
  have e1 : s.extract 0 x.size = x := by
    apply ByteArray.ext; apply Array.toList_inj.1
    rw [Lib.extract_data, he, List.drop_zero, Nat.sub_zero, Lib.size_eq, List.take_left]
  have e2 : s.extract (x.size + 1) s.size = y := by
    apply ByteArray.ext; apply Array.toList_inj.1
    rw [Lib.extract_data, he, Lib.size_eq x, List.drop_append, List.drop_of_length_le (by omega), List.nil_append, show x.data.toList.length + 1 - x.data.toList.length = 1 by omega]
    rw [List.drop_one, List.tail_cons, List.take_of_length_le]
    rw [← Lib.size_eq, ← Lib.size_eq]; omega
  have H := Lib.hid (lcut_yes s x.size (by omega) hs hix w)
  rw [e1, e2] at H
  clear he hx hix e1 e2
  go_enter Tryz.func90, Tryz.ntmps90
  go_wp2_with (go_at_call 112; refine H.out.mono ?_; rintro e w' ⟨rfl, n, rfl⟩)
  go_ret3
  exact ⟨rfl, n, rfl⟩
theorem prefix_any (s : ByteArray) (w : World) : Calls Tryz.prog 94 #[.string s, .string ⟨#[36]⟩] w fun e w' => e = .returned (.bool (dol s.data.toList)) ∧ w = w' := by
  refine (strings_HasPrefix s ⟨#[36]⟩ w).mono ?_
  rintro e w' ⟨rfl, hw⟩
  refine ⟨?_, hw.symm⟩
  cases s.data.toList with
  | nil => rfl
  | cons b t => simp [Lib.hasPrefix, dol, List.isPrefixOf, Bool.beq_comm]
end Go.Proofs.YtgcfgheamaoceaaGreatDoor
