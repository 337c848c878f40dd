/- Layer 4: numbers out of a reader; what is left over must be noughts. -/
import Derived.WalkLawsBesides
import Derived.Test.YtjfpgclaefbhjaaDoorPageR
namespace Go.Proofs.YtjfpgclaefbhjaaDoor
open Go.RowKit

theorem next_any {n₀ : Nat} {w : World} {B : Nat} {r : List UInt8} (h : IsRd n₀ w B r) (k : Nat) (h1 : 1 ≤ k) (h8 : k ≤ 8) (hk : k ≤ r.length) :
    Calls Tryd.prog 37 #[wptr B, .int .i64 k] w fun e w' => RdPost n₀ w B (.int .u64 (numOf (r.take k))) (r.drop k) e w' := by
  have hr : rNum r (k : Int) = (numOf (r.take k), 0, r.drop k) := by
    unfold rNum
    rw [if_neg (by omega), Int.toNat_natCast, if_neg (by omega)]
  have HR := Lib.hid (rnum_any h (k : Int))
  rw [hr] at HR
  clear hr h hk h1 h8
  go_enter Tryd.func37, Tryd.ntmps37
  go_wp2_with (go_at_call 50; refine HR.out.mono ?_; rintro e w1 ⟨rfl, hR1, hg1⟩)
  go_ret
  exact ⟨rfl, hR1, hg1⟩
theorem nought_any (b : UInt8) (w : World) : Calls Tryd.prog 51 #[.int .u8 (b.toNat : Int)] w fun e w' => e = .returned (.bool (b == 0)) ∧ w = w' := by
  have hb : decide ((b.toNat : Int) = 0) = (b == 0) := by
    by_cases h : b = 0
    · subst h; rfl
    · have h2 : b.toNat ≠ 0 := fun e => h (UInt8.toNat_inj.1 e)
      rw [show (b == 0) = false by simpa using h]
      simp; omega
  have HB := Lib.hid hb
  clear hb
  go_enter Tryd.func51, Tryd.ntmps51
  go_wp2
  go_ret
  exact ⟨ret_bool HB.out, rfl⟩
theorem all_any (a : Option Addr) (l : List UInt8) (c n₁ : Nat) (hl : l.length ≤ 9223372036854775807) (w : World) (hm : BytesAt n₁ w a l) :
    Calls Tryd.prog 52 #[.slice a l.length c, .func (.func 51) #[] #[]] w fun e w' => e = .returned (.bool (l.all (· == 0))) ∧ w = w' := by
  have HM := Lib.hid hm
  clear hm
  go_enter Tryd.func52, Tryd.ntmps52
  go_wp2
  go_loop [6, 9, 10, 11, 12, 13, 14, 15, 16, 17] (fun _ i _ _ _ _ _ _ _ _ => ∃ k : Nat, i = .int .i64 k ∧ k ≤ l.length ∧ (l.take k).all (· == 0) = true) (fun _ i _ _ _ _ _ _ _ _ => l.length - (intOf i).toNat)
  case atStart => exact ⟨0, rfl, Nat.zero_le _, rfl⟩
  case round =>
    obtain ⟨k, rfl, hk, ha⟩ := hrel
    by_cases hlt : k < l.length
    · obtain ⟨b, off, rfl, hb, hc⟩ := HM.out (by rintro rfl; simp at hlt)
      have hck := hc k hlt
      obtain ⟨x, hx⟩ : ∃ x, l[k]?.getD 0 = x := ⟨_, rfl⟩
      rw [hx] at hck
      have hts : (l.take (k + 1)).all (· == 0) = (x == 0) := by rw [take_succ_get hlt, List.all_append, ha, hx]; simp
      have hall : (x == 0) = false → l.all (· == 0) = false := fun h => by
        rw [← List.take_append_drop (k + 1) l, List.all_append, hts, h]; rfl
      have HT := Lib.hid (And.intro hts hall)
      have HA := Lib.hid ha
      clear hc hx hts hall ha
      have hkL : (k : Int) < (l.length : Int) := by omega
      by_cases hx0 : (x == 0) = true
      · go_wp2_with (go_at_call 51; refine (nought_any x _).mono ?_; rintro e w' ⟨rfl, rfl⟩)
        exact ⟨⟨k + 1, by go_num, hlt, by rw [HT.out.1]; exact hx0⟩, by simp only [intOf]; omega⟩
      · have hx1 : (x == 0) = false := by simpa using hx0
        go_wp2_with (go_at_call 51; refine (nought_any x _).mono ?_; rintro e w' ⟨rfl, rfl⟩)
        go_ret
        exact ⟨ret_bool (HT.out.2 hx1).symm, rfl⟩
    · obtain rfl : k = l.length := by omega
      have hkL : ¬ ((l.length : Int) < (l.length : Int)) := by omega
      rw [List.take_length] at ha
      have HA := Lib.hid ha
      clear ha
      go_wp2
      go_ret
      exact ⟨ret_bool HA.out.symm, rfl⟩
def bodyAt (a : Option Addr) (size : Nat) : Option Addr := if 2 + size = 2 then a else a.map fun x => x.add (2 * 1)
theorem sliceBody (w : World) (a : Option Addr) (n c size : Nat) (hc : 2 + size ≤ c) : (Instr.sliceAt 23 (.slice a n c) (some (.int .i64 2)) (some (.int .i64 (2 + (size : Int)))) (some (.int .i64 (2 + (size : Int))))).run Tryd.prog w = .ok (.slice (bodyAt a size) size size) w := by
  have hel : Tryd.prog.elem 23 = 5 := by kernel_rfl
  have hu : Tryd.prog.underlying 23 = some (.slice (Tryd.prog.elem 23)) := by rw [hel]; exact Tryd.underlying23
  have hs : (sizeOf 5).run Tryd.prog w = .ok 1 w := by kernel_rfl
  have h1 := (run_sliceAt_slice (P := Tryd.prog) w 23 (.slice a n c) (some (.int .i64 2)) (some (.int .i64 (2 + (size : Int)))) (some (.int .i64 (2 + (size : Int)))) hu).trans (run_slice_lhm (P := Tryd.prog) w 23 a n c hu .i64 .i64 .i64 2 (2 + (size : Int)) (2 + (size : Int)) (by omega) (by omega) (by omega) (by omega))
  rw [hel, hs] at h1
  rw [h1]
  simp only [Result.andThen_ok, sliced, show (2 + (size : Int)).toNat = 2 + size by omega, show (2 : Int).toNat = 2 from rfl, show 2 + size - 2 = size by omega]
  rfl
theorem body_at {n₁ : Nat} {w : World} {a : Option Addr} {l : List UInt8} {size : Nat} (hm : BytesAt n₁ w a l) (hs : 2 + size ≤ l.length) : BytesAt n₁ w (bodyAt a size) ((l.drop 2).take size) := fun hne => by
  have hp : 0 < size := by
    rcases Nat.eq_zero_or_pos size with h | h
    · subst h; simp at hne
    · exact h
  obtain ⟨b, off, rfl, hb, hcc⟩ := hm (by rintro rfl; simp at hs)
  refine ⟨b, off + 2, ?_, hb, fun j hj => ?_⟩
  · unfold bodyAt
    rw [if_neg (by omega)]
    simp [addr_add]
  · have hj2 : j < size := by rw [List.length_take] at hj; omega
    have := hcc (2 + j) (by omega)
    rw [List.getElem?_take, if_pos hj2, List.getElem?_drop]
    rw [show off + 2 + j = off + (2 + j) by omega]
    exact this
theorem bodyAt_none {a : Option Addr} {size c : Nat} (h : a = none → c = 0) (hc : 2 + size ≤ c) : bodyAt a size ≠ none := by
  cases a with
  | none => have := h rfl; omega
  | some a => unfold bodyAt; split <;> simp
def bodyOk (l : List UInt8) (size : Nat) : Bool := decide (size + 2 ≤ l.length) && ((l.take 2).all (· == 0) && (l.drop (2 + size)).all (· == 0))
def errV (n : Int) : List PanicEntry := [{ v := .iface 27 (.int .i64 n), recovered := false }]
def BodyPost (w : World) (a : Option Addr) (l : List UInt8) (size : Nat) (e : Ending) (w' : World) : Prop :=
  (bodyOk l size = true ∧ e = .returned (.slice (bodyAt a size) size size) ∧ w = w') ∨ (bodyOk l size = false ∧ e = .panicked (errV 141) ∧ w = w')
set_option maxHeartbeats 1000000 in
set_option maxRecDepth 100000 in
theorem body_any (a : Option Addr) (l : List UInt8) (c n₁ : Nat) (h2 : 2 ≤ l.length) (hl : l.length ≤ 1000000) (hlc : l.length ≤ c) (hc : c ≤ 9223372036854775807) (size : Nat) (hs : size ≤ 1000000) (w : World) (hm : BytesAt n₁ w a l) :
    Calls Tryd.prog 38 #[.slice a l.length c, .int .i64 size] w fun e w' => BodyPost w a l size e w' := by
  obtain ⟨n, hn⟩ : ∃ n, l.length = n := ⟨_, rfl⟩
  have HN := Lib.hid hn
  rw [hn] at h2 hl hlc ⊢
  by_cases q1 : size + 2 ≤ n
  case neg =>
    have hd : decide ((n : Int) - 2 < (size : Int)) = true := by simp; omega
    go_enter Tryd.func38, Tryd.ntmps38
    have hbo : bodyOk l size = false := by unfold bodyOk; rw [decide_eq_false (by omega)]; rfl
    go_wp2
    exact ⟨rfl, .inr ⟨hbo, rfl, rfl⟩⟩
  have hd : decide ((n : Int) - 2 < (size : Int)) = false := by simp; omega
  have hm2 : BytesAt n₁ w a (l.take 2) := by
    have : l.take 2 ++ l.drop 2 = l := List.take_append_drop 2 l
    exact BytesAt.left (m := l.drop 2) (by rw [this]; exact hm)
  have hb1 : bodyOk l size = ((l.take 2).all (· == 0) && (l.drop (2 + size)).all (· == 0)) := by unfold bodyOk; rw [decide_eq_true (by omega)]; rfl
  have htl : (l.take 2).length = 2 := by rw [List.length_take]; omega
  have hdl : (l.drop (2 + size)).length = n - (2 + size) := by rw [List.length_drop, hn]
  have hA1 := all_any a (l.take 2) c n₁ (by omega) w hm2
  have hA2 := all_any (slFrom a c (2 + size)) (l.drop (2 + size)) (c - (2 + size)) n₁ (by omega) w (rest_at hm (by omega))
  rw [htl] at hA1
  rw [hdl] at hA2
  have hsl : (Instr.sliceAt 23 (.slice a n c) (some (.int .i64 (2 + (size : Int)))) none none).run Tryd.prog w = .ok (.slice (slFrom a c (2 + size)) (n - (2 + size)) (c - (2 + size))) w := by
    have := sliceFrom w a n c (2 + size) (by omega)
    rwa [show ((2 + size : Nat) : Int) = 2 + (size : Int) by omega] at this
  revert hA2 hsl
  generalize slFrom a c (2 + size) = a4
  generalize n - (2 + size) = n4
  generalize c - (2 + size) = c4
  intro hA2 hsl
  have HM := Lib.hid (And.intro hm hb1)
  have HA1 := Lib.hid hA1
  have HA2 := Lib.hid hA2
  clear hm hm2 hn hb1 htl hdl hA1 hA2
  by_cases z1 : (l.take 2).all (· == 0) = true
  case neg =>
    have z1' : (l.take 2).all (· == 0) = false := by simpa using z1
    rw [z1'] at HA1
    clear z1
    go_enter Tryd.func38, Tryd.ntmps38
    go_wp2_with (go_at_call 52; refine HA1.out.mono ?_; rintro e w' ⟨rfl, rfl⟩)
    exact ⟨rfl, .inr ⟨by rw [HM.out.2, z1']; rfl, rfl, rfl⟩⟩
  rw [z1] at HA1
  by_cases z2 : (l.drop (2 + size)).all (· == 0) = true
  case neg =>
    have z2' : (l.drop (2 + size)).all (· == 0) = false := by simpa using z2
    rw [z2'] at HA2
    clear z2
    have hz := Lib.hid (And.intro z1 z2')
    clear z1 z2'
    have tok1 : True := trivial
    go_enter Tryd.func38, Tryd.ntmps38
    go_wp2_with (first | (go_at_call 52; have _t := tok1; refine HA1.out.mono ?_; rintro e w' ⟨rfl, rfl⟩; clear tok1) | (go_at_call 52; refine HA2.out.mono ?_; rintro e w' ⟨rfl, rfl⟩))
    exact ⟨rfl, .inr ⟨by rw [HM.out.2, hz.out.1, hz.out.2]; rfl, rfl, rfl⟩⟩
  rw [z2] at HA2
  have hz := Lib.hid (And.intro z1 z2)
  clear z1 z2
  have hs3 := sliceBody w a n c size (by omega)
  obtain ⟨a5, ha5⟩ : ∃ x, bodyAt a size = x := ⟨_, rfl⟩
  rw [ha5] at hs3
  have HA5 := Lib.hid ha5
  clear ha5
  have tok1 : True := trivial
  go_enter Tryd.func38, Tryd.ntmps38
  go_wp2_with (first | (go_at_call 52; have _t := tok1; refine HA1.out.mono ?_; rintro e w' ⟨rfl, rfl⟩; clear tok1) | (go_at_call 52; refine HA2.out.mono ?_; rintro e w' ⟨rfl, rfl⟩))
  go_ret
  exact .inl ⟨by rw [HM.out.2, hz.out.1, hz.out.2]; rfl, by rw [HA5.out]; rfl, rfl⟩
end Go.Proofs.YtjfpgclaefbhjaaDoor
