/- Layer 13: another level, levels as a text. -/
import Derived.Test.YtkabdalnkmbloaaDoorTopR
import Derived.Test.YtkabdalnkmbloaaDoorTopN
import Derived.Test.YtkabdalnkmbloaaDoorTopB
namespace Go.Proofs.YtkabdalnkmbloaaDoor
open Go.RowKit Go.Shelf

set_option maxRecDepth 100000 in
theorem unlike_any (a : Option Addr) (c : Nat) (L : List (List UInt8)) (i : Nat) (w : World) (h : TxAt w a L) : Calls Tryd.prog 32 #[.slice a L.length c, .int .i64 i] w fun e w' => e = .returned (.string ⟨(unlL L i).toArray⟩) ∧ w = w' := by
  have H := Lib.hid h
  obtain ⟨N, hN⟩ : ∃ N, L.length = N := ⟨_, rfl⟩
  have HN := Lib.hid hN
  rw [hN]
  clear h hN
  by_cases hlt : i < N
  · have hkl : i < L.length := by have := HN.out; omega
    have hne1 : L ≠ [] := fun e => by rw [e] at hkl; simp at hkl
    obtain ⟨b1, o1, rfl, hb1, hc1⟩ := H.out hne1
    obtain ⟨x, hx⟩ : ∃ x, L[i]? = some x := ⟨_, List.getElem?_eq_getElem hkl⟩
    have d1 := hc1 i x hx
    have HU := Lib.hid (show unlL L i = if x = [122] then [121] else [122] by unfold unlL; rw [hx]; simp)
    clear hc1 hx hkl hne1
    rcases Bool.eq_false_or_eq_true (x == [122]) with h1 | h1
    · go_enter Tryd.func32, Tryd.ntmps32
      go_wp2
      go_ret
      exact ⟨by rw [HU.out, if_pos (eq_of_beq h1)]; rfl, rfl⟩
    · go_enter Tryd.func32, Tryd.ntmps32
      go_wp2
      go_ret
      exact ⟨by rw [HU.out, if_neg (fun e => by rw [e] at h1; simp at h1)]; rfl, rfl⟩
  · have HU := Lib.hid (show unlL L i = [122] by unfold unlL; rw [List.getElem?_eq_none (by have := HN.out; omega)]; simp)
    go_enter Tryd.func32, Tryd.ntmps32
    go_wp2
    go_ret
    exact ⟨by rw [HU.out]; rfl, rfl⟩
theorem joinL_bound {L : List (List UInt8)} (h : ∀ x ∈ L, x.length ≤ 1000) : (joinL L).length ≤ L.length * 1001 := by
  induction L with
  | nil => simp [joinL]
  | cons x r ih =>
    have h1 := h x (by simp)
    have h2 := ih fun y hy => h y (by simp [hy])
    by_cases hr : r = []
    · subst hr; simp only [joinL, List.length_cons, List.length_nil]; omega
    · rw [joinL_cons _ hr]
      simp only [List.length_append, List.length_cons]
      omega
theorem str_app (p q : List UInt8) : (⟨p.toArray⟩ : ByteArray) ++ ⟨q.toArray⟩ = ⟨(p ++ q).toArray⟩ := by
  apply ByteArray.ext; rw [ByteArray.data_append]; simp
set_option maxRecDepth 100000 in
theorem join_any (a : Option Addr) (c : Nat) (L : List (List UInt8)) (hL : L.length ≤ 100000) (hx : ∀ x ∈ L, x.length ≤ 1000) (w : World) (h : TxAt w a L) : Calls Tryd.prog 21 #[.slice a L.length c] w fun e w' => e = .returned (.string ⟨(joinL L).toArray⟩) ∧ w = w' := by
  have H := Lib.hid (And.intro h hx)
  obtain ⟨N, hN⟩ : ∃ N, L.length = N := ⟨_, rfl⟩
  have HN := Lib.hid hN
  rw [hN] at hL ⊢
  clear h hN hx
  go_enter Tryd.func21, Tryd.ntmps21
  go_wp2
  go_loop [3, 4, 5, 6, 7, 8, 9, 10, 11, 12, 13, 14, 15, 16, 17, 18, 19, 20] (fun s i _ _ _ _ _ _ _ _ _ _ _ _ _ _ _ _ => ∃ k : Nat, i = .int .i64 k ∧ k ≤ N ∧ s = .string ⟨(joinL (L.take k)).toArray⟩)
    (fun _ i _ _ _ _ _ _ _ _ _ _ _ _ _ _ _ _ => N - (intOf i).toNat)
  case atStart => exact ⟨0, rfl, Nat.zero_le _, rfl⟩
  case round =>
    obtain ⟨k, rfl, hk, rfl⟩ := hrel
    by_cases hlt : k < N
    · have hkl : k < L.length := by have := HN.out; omega
      have hne1 : L ≠ [] := fun e => by rw [e] at hkl; simp at hkl
      obtain ⟨b1, o1, rfl, hb1, hc1⟩ := H.out.1 hne1
      obtain ⟨x, hx⟩ : ∃ x, L[k]? = some x := ⟨_, List.getElem?_eq_getElem hkl⟩
      have d1 := hc1 k x hx
      have hxl := H.out.2 x (List.mem_of_getElem? hx)
      have hpl := joinL_bound (L := L.take k) fun y hy => H.out.2 y (List.mem_of_mem_take hy)
      rw [List.length_take] at hpl
      have hpl : (joinL (L.take k)).length ≤ 200000000 := by omega
      have htk : L.take (k + 1) = L.take k ++ [x] := by
        rw [List.take_succ_eq_append_getElem hkl]
        rw [List.getElem?_eq_getElem hkl] at hx
        rw [Option.some.inj hx]
      by_cases h0 : k = 0
      · subst h0
        have HJ := Lib.hid (show joinL (L.take 1) = x by rw [htk]; simp [joinL])
        clear htk hpl hc1 hx hne1 hkl
        rw [List.take_zero]
        have hj0 : joinL [] = [] := rfl
        simp only [Nat.add_zero] at d1
        rw [hj0]
        have hcat : ¬ (9223372036854775807 : Nat) < x.length := by omega
        go_wp2
        go_round
        case rel => exact ⟨0 + 1, by go_num, by omega, by rw [show (0 + 1 : Nat) = 1 from rfl, HJ.out]; first | rfl | (congr 1; exact str_app [] x) | (simp)⟩
        case measure => simp [intOf]; omega
      · have hne : L.take k ≠ [] := by
          intro e
          have := congrArg List.length e
          rw [List.length_take, List.length_nil] at this
          omega
        have HJ := Lib.hid (show joinL (L.take (k + 1)) = joinL (L.take k) ++ 47 :: x by rw [htk, joinL_app hne])
        clear htk hc1 hx hne1 hkl hne
        generalize joinL (L.take k) = p at *
        have h00 : 0 < k := by omega
        have hcat1 : ¬ (9223372036854775807 : Nat) < p.length + 1 := by omega
        have hcat2 : ¬ (9223372036854775807 : Nat) < p.length + 1 + x.length := by omega
        go_wp2
        go_round
        case rel => exact ⟨k + 1, by go_num, by omega, by rw [HJ.out]; rw [show (⟨#[47]⟩ : ByteArray) = ⟨[47].toArray⟩ from rfl, str_app, str_app, List.append_assoc]; rfl⟩
        case measure => simp [intOf]; omega
    · obtain rfl : k = N := by omega
      have HJ := Lib.hid (show L.take k = L by rw [← HN.out]; exact List.take_length)
      go_wp2
      go_ret
      exact ⟨by rw [HJ.out]; rfl, rfl⟩
end Go.Proofs.YtkabdalnkmbloaaDoor
