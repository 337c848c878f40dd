/- Layer 3: truths and texts that are read; what is left. -/
import Derived.Test.YtaceebgcaghocaaWireR3
namespace Go.Proofs.Ytaceebgcaghocaa
open Go.RowKit

/-- string(b) of bytes that lie anywhere. -/
theorem conv_at (w : World) (ao : Option Addr) (l : List UInt8) (cap n₁ : Nat) (hm : BytesAt n₁ w ao l) : (convert 23 9 (.slice ao l.length cap)).run Try.prog w = .ok (.string ⟨l.toArray⟩) w := by
  cases l with
  | nil => cases ao <;> (simp [go_sem, convert, Conv.bytesToString]; try rfl)
  | cons x t =>
    obtain ⟨b, o, rfl, hb, hc⟩ := hm (by simp)
    generalize x :: t = l at hc
    have := run_convert_bytes_arg (P := Try.prog) (w := w) 23 5 Try.underlying23 Try.underlying5 b o l.length cap (l.map fun x => (x.toNat : Int)) (by simp) (fun i hi => by
      rw [hc i hi]
      simp [List.getD, hi]) 9 Try.underlying9
    rw [this]
    refine congrArg (fun s => Result.ok (Value.string s) w) ?_
    apply ByteArray.ext
    apply Array.toList_inj.1
    rw [strOfNums_data, List.map_map]
    show _ = l
    conv => rhs; rw [← List.map_id l]
    apply List.map_congr_left
    intro x _
    simp

def rTruth (r : List UInt8) : Bool × Nat × List UInt8 := if r.length < 1 ∨ 1 < numOf (r.take 1) then (false, 130, r) else (numOf (r.take 1) == 1, 0, r.drop 1)
def rText (r : List UInt8) : List UInt8 × Nat × List UInt8 :=
  if r.length < 2 ∨ r.length < 2 + numOf (r.take 2) then ([], 130, r) else ((r.drop 2).take (numOf (r.take 2)), 0, r.drop (2 + numOf (r.take 2)))
section
variable {n₀ : Nat} {w : World} {B : Nat}
theorem num1_cases {v : Value} {l : List UInt8} {i : Nat} {e : Ending} {w' : World} (h : NumPost n₀ w B v l i 1 e w') :
    (l.length < i + 1 ∧ e = .returned (.tuple #[.int .u64 0, .bool false]) ∧ Below w.heap.size w w') ∨
    (∃ n : Nat, (i + 1 ≤ l.length ∧ numOf ((l.drop i).take 1) = n ∧ 1 < n) ∧ decide ((1 : Int) < (n : Int)) = true ∧ e = .returned (.tuple #[.int .u64 n, .bool true]) ∧ IsRdAt n₀ w' B v l (i + 1) ∧ w.grownBy w' (some B)) ∨
    (∃ n : Nat, (i + 1 ≤ l.length ∧ numOf ((l.drop i).take 1) = n ∧ n ≤ 1) ∧ decide ((1 : Int) < (n : Int)) = false ∧ e = .returned (.tuple #[.int .u64 n, .bool true]) ∧ IsRdAt n₀ w' B v l (i + 1) ∧ w.grownBy w' (some B)) := by
  rcases h with h | ⟨hs, rfl, hR, hg⟩
  · exact .inl h
  · by_cases hn : 1 < numOf ((l.drop i).take 1)
    · exact .inr (.inl ⟨_, ⟨hs, rfl, hn⟩, by simp; omega, rfl, hR, hg⟩)
    · exact .inr (.inr ⟨_, ⟨hs, rfl, by omega⟩, by simp; omega, rfl, hR, hg⟩)
set_option maxHeartbeats 1000000 in
set_option maxRecDepth 100000 in
theorem rtruth_any {r : List UInt8} (h : IsRd n₀ w B r) : Calls Try.prog 68 #[wptr B] w fun e w' => RdPost n₀ w B (.tuple #[.bool (rTruth r).1, .int .i64 (rTruth r).2.1]) (rTruth r).2.2 e w' := by
  obtain ⟨v, l, i, h, rfl⟩ := h
  have T := Lib.hid (rthere_any h)
  have HH := Lib.hid (hold_any h)
  have hlen := h.le
  have N := Lib.hid (fun (w1 : World) (hb : Below w.heap.size w w1) => number_any (h.below hb) 1 (by omega))
  have P := Lib.hid (fun (w1 : World) (hb : Below w.heap.size w w1) => h.below hb)
  have e1 : rTruth (l.drop i) = if l.length < i + 1 then (false, 130, l.drop i) else if 1 < numOf ((l.drop i).take 1) then (false, 130, l.drop i) else (numOf ((l.drop i).take 1) == 1, 0, (l.drop i).drop 1) := by
    unfold rTruth
    rw [List.length_drop]
    by_cases hx : l.length < i + 1
    · rw [if_pos hx, if_pos (by omega)]
    · rw [if_neg hx]
      by_cases hy : 1 < numOf ((l.drop i).take 1)
      · rw [if_pos hy, if_pos (by omega)]
      · rw [if_neg hy, if_neg (by omega)]
  generalize rTruth (l.drop i) = R at e1 ⊢
  have HE := Lib.hid e1
  clear h e1 hlen
  go_enter Try.func68, Try.ntmps68
  go_wp2_with (first
    | (go_at_call 42; refine T.out.mono ?_; rintro e w' ⟨rfl, rfl⟩)
    | (go_at_call 44; refine HH.out.mono ?_; rintro e w1 ⟨p, q, rfl, hp1, hq1, hp, hq, hb⟩)
    | (go_at_call 45; refine (N.out _ hb).mono ?_; rintro e w2 hn; rcases num1_cases hn with ⟨hs, rfl, hb2⟩ | ⟨n, hs, hd, rfl, hR, hg⟩ | ⟨n, hs, hd, rfl, hR, hg⟩ <;> have HS := Lib.hid hs <;> clear hs hn))
  · have h1 := P.out _ hb
    obtain ⟨hp2, hq2, h3, hg3⟩ := rd_back h1 hp hq (h1.below hb2) (grown_below hb2)
    have h2 := h1.below hb2
    go_wp2_with (go_at_call 46; refine (hold1_any h2 hp2 hq2).mono ?_; rintro e w3 ⟨rfl, rfl⟩)
    go_ret2
    have e1 := HE.out
    rw [if_pos HS.out] at e1
    subst e1
    exact ⟨rfl, ⟨_, _, _, h3, rfl⟩, World.grownBy.trans (grown_below hb) hg3⟩
  · have h1 := P.out _ hb
    obtain ⟨hp2, hq2, h3, hg3⟩ := rd_back h1 hp hq hR hg
    go_wp2_with (go_at_call 46; refine (hold1_any hR hp2 hq2).mono ?_; rintro e w3 ⟨rfl, rfl⟩)
    go_ret2
    have e1 := HE.out
    obtain ⟨h4, h5, h6⟩ := HS.out
    rw [if_neg (by omega), h5, if_pos h6] at e1
    subst e1
    exact ⟨rfl, ⟨_, _, _, h3, rfl⟩, World.grownBy.trans (grown_below hb) hg3⟩
  · go_ret2
    have e1 := HE.out
    obtain ⟨h4, h5, h6⟩ := HS.out
    rw [if_neg (by omega), h5, if_neg (by omega)] at e1
    subst e1
    refine ⟨?_, ⟨_, _, _, hR, by rw [List.drop_drop]⟩, World.grownBy.trans (grown_below hb) hg⟩
    obtain rfl | rfl : n = 0 ∨ n = 1 := by omega
    all_goals rfl
theorem num2_cases {v : Value} {l : List UInt8} {i : Nat} {e : Ending} {w' : World} (h : NumPost n₀ w B v l i 2 e w') :
    (l.length < i + 2 ∧ e = .returned (.tuple #[.int .u64 0, .bool false]) ∧ Below w.heap.size w w') ∨
    (∃ n : Nat, (i + 2 ≤ l.length ∧ numOf ((l.drop i).take 2) = n) ∧ n < 65536 ∧ e = .returned (.tuple #[.int .u64 n, .bool true]) ∧ IsRdAt n₀ w' B v l (i + 2) ∧ w.grownBy w' (some B)) := by
  rcases h with h | ⟨hs, rfl, hR, hg⟩
  · exact .inl h
  · refine .inr ⟨_, ⟨hs, rfl⟩, ?_, rfl, hR, hg⟩
    have := numOf_lt ((l.drop i).take 2)
    rw [List.length_take, List.length_drop, show min 2 (l.length - i) = 2 by omega] at this
    omega
theorem cutT_cases {v : Value} {l : List UInt8} {i k : Nat} {e : Ending} {w' : World} (h : CutPost n₀ w B v l i k e w') :
    (l.length < i + k ∧ e = .returned (.tuple #[.slice none 0 0, .bool false]) ∧ Below w.heap.size w w') ∨
    (i + k ≤ l.length ∧ ∃ ao, e = .returned (.tuple #[.slice ao k k, .bool true]) ∧ (convert 23 9 (.slice ao k k)).run Try.prog w' = .ok (.string ⟨((l.drop i).take k).toArray⟩) w' ∧ IsRdAt n₀ w' B v l (i + k) ∧ w.grownBy w' (some B)) := by
  rcases h with h | ⟨hs, ao, rfl, hm, hR, hg⟩
  · exact .inl h
  · refine .inr ⟨hs, ao, rfl, ?_, hR, hg⟩
    have hcl : ((l.drop i).take k).length = k := by rw [List.length_take, List.length_drop]; omega
    have hcv := conv_at w' ao _ k _ hm
    rw [hcl] at hcv
    exact hcv
end
end Go.Proofs.Ytaceebgcaghocaa
