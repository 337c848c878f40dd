/- Layer 2: the law on armed disks. -/
import Derived.Test.YtmbccbiilfdamaaDskKnown
import Derived.Test.YtmbccbiilfdamaaDskArmedPure
namespace Go.Proofs.Ytmbccbiilfdamaa
open Go.RowKit

/-- A run of truths that came in. -/
def BoolsIn (w : World) (a : Option Addr) (n : Nat) : Prop := 0 < n → ∃ b o, a = some ⟨b, o, none⟩ ∧ b < w.heap.size ∧ ∀ j, j < n → ∃ v : Bool, w.cell? ⟨b, o + j, none⟩ = some (.bool v)
set_option maxRecDepth 100000 in
set_option maxHeartbeats 4000000 in
theorem armed_out (stop : Bool) (s : Int) (a : Option Addr) (n c : Nat) (w : World) (hs : s < 0 ∨ 30 < s ∨ 40 < n) : Calls Try.prog 8 #[.bool stop, .int .i64 s, .slice a n c] w fun e w' => e = .returned (.bool true) ∧ Below w.heap.size w w' := by
  have hk := Lib.hid known_any
  by_cases h1 : s < 0
  · go_enter Try.func8, Try.ntmps8
    go_wp2_with (go_at_call 9; refine (hk.out w).mono ?_; rintro e w' ⟨rfl, hb⟩)
    go_ret
    exact ⟨rfl, hb⟩
  · by_cases h2 : 30 < s
    · go_enter Try.func8, Try.ntmps8
      go_wp2_with (go_at_call 9; refine (hk.out w).mono ?_; rintro e w' ⟨rfl, hb⟩)
      go_ret
      exact ⟨rfl, hb⟩
    · have h3 : (40 : Int) < n := by omega
      clear hs
      go_enter Try.func8, Try.ntmps8
      go_wp2_with (go_at_call 9; refine (hk.out w).mono ?_; rintro e w' ⟨rfl, hb⟩)
      go_ret
      exact ⟨rfl, hb⟩
set_option maxRecDepth 100000 in
set_option maxHeartbeats 4000000 in
theorem armed_false (s : Nat) (a : Option Addr) (n c : Nat) (w : World) (hs : s ≤ 30) (hn : n ≤ 40) (hA : BoolsIn w a n) : Calls Try.prog 8 #[.bool false, .int .i64 s, .slice a n c] w fun e w' => e = .returned (.bool true) ∧ Below w.heap.size w w' := by
  have hnew : Calls Try.prog 10 #[.int .i64 4] w (NewPost w 4) := new_yes 4 (by omega) (by omega) w
  have hst0 := ArmedAt.start (stop := false) hs
  have h1 : ¬ ((s : Int) < 0) := by omega
  have h2 : ¬ (30 < (s : Int)) := by omega
  have h3 : ¬ (40 < (n : Int)) := by omega
  obtain ⟨d0, hd0⟩ : ∃ d0, ((Dsk.new 4).arm (if false = true then 1 else 2) s).1 = d0 := ⟨_, rfl⟩
  have HS := Lib.hid hst0
  have HD := Lib.hid hd0
  have HNS := Lib.hid hs
  have HNN := Lib.hid hn
  clear hst0 hd0 hs hn
  have HK := Lib.hid known_any
  go_enter Try.func8, Try.ntmps8
  have tM : True := trivial
  go_wp2_with (first
    | (go_at_call 10; refine hnew.mono ?_; rintro e w1 ⟨B, rfl, hD1, hB1⟩)
    | (have _t := tM; go_at_call 23; refine (arm_disk hD1 2 s (by decide) (by have := HNS.out; omega)).mono ?_; rintro e w2 ⟨he, hD2, hK2⟩; rw [show ((Dsk.new 4).arm 2 s).2 = 0 from HS.out.1] at he; subst he; replace hD2 : IsDisk w.heap.size w2 B d0 := HD.out ▸ hD2; clear tM))
  have hB2 := hB1.trans hK2.below
  have hSt : ArmedAt false s 0 d0 := HD.out ▸ HS.out.2
  clear hnew HS HD hD1 hB1 hK2
  go_loopw [11, 12, 13, 41, 42, 43, 44, 45, 46, 47, 48, 49, 50, 51, 52, 53, 54, 55, 56, 57, 58, 59, 60, 61, 62, 63, 64, 65, 66, 67, 68, 69, 70, 71, 72, 73, 74, 75, 76, 77, 78, 79, 80, 81, 82, 83, 84, 85] (fun x _ _ _ _ _ _ _ _ _ _ _ _ _ _ _ _ _ _ _ _ _ _ _ _ _ _ _ _ _ _ _ _ _ _ _ _ _ _ _ _ _ _ _ _ _ _ _ wr => ∃ k : Nat, x = .int .i64 k ∧ k ≤ n ∧ (∃ d, IsDisk w.heap.size wr B d ∧ ArmedAt false s k d) ∧ Below w.heap.size w wr)
    (fun x _ _ _ _ _ _ _ _ _ _ _ _ _ _ _ _ _ _ _ _ _ _ _ _ _ _ _ _ _ _ _ _ _ _ _ _ _ _ _ _ _ _ _ _ _ _ _ _ => n - (intOf x).toNat)
  case atStart => exact ⟨0, rfl, Nat.zero_le _, ⟨d0, hD2, hSt⟩, hB2⟩
  case round =>
    obtain ⟨k, rfl, hk, ⟨d, hD, hA1⟩, hBr⟩ := hrel
    by_cases hkn : k < n
    · obtain ⟨tb, to, rfl, htb, hcells⟩ := hA (by omega)
      obtain ⟨v, hv⟩ := hcells k hkn
      have hc : wr.cell? ⟨tb, to + k, none⟩ = some (.bool v) := (hBr.cell (p := ⟨tb, to + k, none⟩) htb).trans hv
      have hkz : (k : Int) < n := by omega
      have hn40 := HNN.out
      have hk40 : k < 40 := by omega
      have e1 : wrap64 ((k : Int) + 1) = ((k + 1 : Nat) : Int) := by unfold wrap64; omega
      have hf : d.Few 2147483648 := hA1.few.mono (by omega)
      have htm : 0 ≤ Int.tmod (k : Int) 4 ∧ Int.tmod (k : Int) 4 < 4 := by
        rw [Int.tmod_eq_emod_of_nonneg (by omega)]; omega
      have hu : ((UInt8.ofNat k).toNat : Int) = (k : Int) := by
        rw [UInt8.toNat_ofNat_of_lt' (by have : UInt8.size = 256 := rfl; omega)]
      have hlen : (List.replicate 256 (UInt8.ofNat k)).length = 256 := List.length_replicate
      have HALL := Lib.hid (all_any (UInt8.ofNat k))
      rw [hu] at HALL
      have HF := Lib.hid hf
      have HTM := Lib.hid htm
      have HL := Lib.hid hlen
      clear hf htm hu hlen hv hn40
      cases v
      · rcases Nat.lt_trichotomy k s with hlt | heq | hgt
        · have x1 : ¬ (k : Int) = s := by omega
          have x2 : decide (s < k) = false := by simp; omega
          have x3 : decide (s ≤ k) = false := by simp; omega
          have x4 : decide ((s : Int) < k) = false := by simp; omega
          have x5 : decide ((s : Int) ≤ k) = false := by simp; omega
          have hwv : wantOf false s k = 0 := by unfold wantOf; rw [if_neg (by omega), if_neg (by omega)]
          have hdv : ∀ d', ArmedAt false s (k + 1) d' → d'.dead = false := fun d' hh => (hh.soon (by omega)).2.2.1
          have HWV := Lib.hid hwv
          clear hwv
          clear hlt
          go_wp2_with (first
            | (go_at_call 27; refine (HALL.out _).mono ?_; rintro e wa ⟨rfl, hRa, hBa⟩)
            | (go_at_call 21; refine (write_disk (hD.below hBa) HF.out (Int.tmod (k : Int) 4) _ 256 256 _ (hRa.handed HL.out)).mono ?_; rintro e w3 ⟨he, hD3, hK3⟩; rw [(hA1.write _ HTM.out _ HL.out).1, HWV.out] at he; subst he; have hst3 := (hA1.write _ HTM.out _ HL.out).2; have hB3 := (hBr.trans (hBa.mono hBr.size)).trans hK3.below)
            | (go_at_call 18; refine (dead_disk hD3).mono ?_; rintro e w' ⟨he, rfl⟩; rw [hdv _ hst3] at he; subst he))
          generalize wrap64 ((k : Int) + 1) = q at e1 ⊢
          subst e1
          go_roundw
          case rel => exact ⟨k + 1, rfl, hkn, ⟨_, hD3, hst3⟩, hB3⟩
          case measure => exact Nat.sub_lt_sub_left hkn (Nat.lt_succ_self k)
        · subst heq
          have hwv : wantOf false k k = 121 := by unfold wantOf; rw [if_pos rfl]; rfl
          have hdv : ∀ d', ArmedAt false k (k + 1) d' → d'.dead = false := fun d' hh => (hh.late (by omega)).2.2.1
          have HWV := Lib.hid hwv
          clear hwv
          go_wp2_with (first
            | (go_at_call 27; refine (HALL.out _).mono ?_; rintro e wa ⟨rfl, hRa, hBa⟩)
            | (go_at_call 21; refine (write_disk (hD.below hBa) HF.out (Int.tmod (k : Int) 4) _ 256 256 _ (hRa.handed HL.out)).mono ?_; rintro e w3 ⟨he, hD3, hK3⟩; rw [(hA1.write _ HTM.out _ HL.out).1, HWV.out] at he; subst he; have hst3 := (hA1.write _ HTM.out _ HL.out).2; have hB3 := (hBr.trans (hBa.mono hBr.size)).trans hK3.below)
            | (go_at_call 18; refine (dead_disk hD3).mono ?_; rintro e w' ⟨he, rfl⟩; rw [hdv _ hst3] at he; subst he))
          generalize wrap64 ((k : Int) + 1) = q at e1 ⊢
          subst e1
          go_roundw
          case rel => exact ⟨k + 1, rfl, hkn, ⟨_, hD3, hst3⟩, hB3⟩
          case measure => exact Nat.sub_lt_sub_left hkn (Nat.lt_succ_self k)
        · have x1 : ¬ (k : Int) = s := by omega
          have x2 : (s : Int) < k := by omega
          have x3 : (s : Int) ≤ k := by omega
          have hwv : wantOf false s k = 0 := by unfold wantOf; rw [if_neg (by omega)]; rw [if_neg (by simp)]
          have hdv : ∀ d', ArmedAt false s (k + 1) d' → d'.dead = false := fun d' hh => (hh.late (by omega)).2.2.1
          have HWV := Lib.hid hwv
          clear hwv
          clear hgt
          go_wp2_with (first
            | (go_at_call 27; refine (HALL.out _).mono ?_; rintro e wa ⟨rfl, hRa, hBa⟩)
            | (go_at_call 21; refine (write_disk (hD.below hBa) HF.out (Int.tmod (k : Int) 4) _ 256 256 _ (hRa.handed HL.out)).mono ?_; rintro e w3 ⟨he, hD3, hK3⟩; rw [(hA1.write _ HTM.out _ HL.out).1, HWV.out] at he; subst he; have hst3 := (hA1.write _ HTM.out _ HL.out).2; have hB3 := (hBr.trans (hBa.mono hBr.size)).trans hK3.below)
            | (go_at_call 18; refine (dead_disk hD3).mono ?_; rintro e w' ⟨he, rfl⟩; rw [hdv _ hst3] at he; subst he))
          generalize wrap64 ((k : Int) + 1) = q at e1 ⊢
          subst e1
          go_roundw
          case rel => exact ⟨k + 1, rfl, hkn, ⟨_, hD3, hst3⟩, hB3⟩
          case measure => exact Nat.sub_lt_sub_left hkn (Nat.lt_succ_self k)
      · rcases Nat.lt_trichotomy k s with hlt | heq | hgt
        · have x1 : ¬ (k : Int) = s := by omega
          have x2 : decide (s < k) = false := by simp; omega
          have x3 : decide (s ≤ k) = false := by simp; omega
          have x4 : decide ((s : Int) < k) = false := by simp; omega
          have x5 : decide ((s : Int) ≤ k) = false := by simp; omega
          have hwv : wantOf false s k = 0 := by unfold wantOf; rw [if_neg (by omega), if_neg (by omega)]
          have hdv : ∀ d', ArmedAt false s (k + 1) d' → d'.dead = false := fun d' hh => (hh.soon (by omega)).2.2.1
          have HWV := Lib.hid hwv
          clear hwv
          clear hlt
          go_wp2_with (first
            | (go_at_call 22; refine (flush_disk hD HF.out).mono ?_; rintro e w3 ⟨he, hD3, hK3⟩; rw [hA1.flush.1, HWV.out] at he; subst he; have hst3 := hA1.flush.2; have hB3 := hBr.trans hK3.below)
            | (go_at_call 18; refine (dead_disk hD3).mono ?_; rintro e w' ⟨he, rfl⟩; rw [hdv _ hst3] at he; subst he))
          generalize wrap64 ((k : Int) + 1) = q at e1 ⊢
          subst e1
          go_roundw
          case rel => exact ⟨k + 1, rfl, hkn, ⟨_, hD3, hst3⟩, hB3⟩
          case measure => exact Nat.sub_lt_sub_left hkn (Nat.lt_succ_self k)
        · subst heq
          have hwv : wantOf false k k = 121 := by unfold wantOf; rw [if_pos rfl]; rfl
          have hdv : ∀ d', ArmedAt false k (k + 1) d' → d'.dead = false := fun d' hh => (hh.late (by omega)).2.2.1
          have HWV := Lib.hid hwv
          clear hwv
          go_wp2_with (first
            | (go_at_call 22; refine (flush_disk hD HF.out).mono ?_; rintro e w3 ⟨he, hD3, hK3⟩; rw [hA1.flush.1, HWV.out] at he; subst he; have hst3 := hA1.flush.2; have hB3 := hBr.trans hK3.below)
            | (go_at_call 18; refine (dead_disk hD3).mono ?_; rintro e w' ⟨he, rfl⟩; rw [hdv _ hst3] at he; subst he))
          generalize wrap64 ((k : Int) + 1) = q at e1 ⊢
          subst e1
          go_roundw
          case rel => exact ⟨k + 1, rfl, hkn, ⟨_, hD3, hst3⟩, hB3⟩
          case measure => exact Nat.sub_lt_sub_left hkn (Nat.lt_succ_self k)
        · have x1 : ¬ (k : Int) = s := by omega
          have x2 : (s : Int) < k := by omega
          have x3 : (s : Int) ≤ k := by omega
          have hwv : wantOf false s k = 0 := by unfold wantOf; rw [if_neg (by omega)]; rw [if_neg (by simp)]
          have hdv : ∀ d', ArmedAt false s (k + 1) d' → d'.dead = false := fun d' hh => (hh.late (by omega)).2.2.1
          have HWV := Lib.hid hwv
          clear hwv
          clear hgt
          go_wp2_with (first
            | (go_at_call 22; refine (flush_disk hD HF.out).mono ?_; rintro e w3 ⟨he, hD3, hK3⟩; rw [hA1.flush.1, HWV.out] at he; subst he; have hst3 := hA1.flush.2; have hB3 := hBr.trans hK3.below)
            | (go_at_call 18; refine (dead_disk hD3).mono ?_; rintro e w' ⟨he, rfl⟩; rw [hdv _ hst3] at he; subst he))
          generalize wrap64 ((k : Int) + 1) = q at e1 ⊢
          subst e1
          go_roundw
          case rel => exact ⟨k + 1, rfl, hkn, ⟨_, hD3, hst3⟩, hB3⟩
          case measure => exact Nat.sub_lt_sub_left hkn (Nat.lt_succ_self k)
    · obtain rfl : k = n := by omega
      have hkz : ¬ ((k : Int) < k) := by omega
      by_cases hns : k ≤ s
      · have hstp := (hA1.soon hns).2.2.2
        have x1 : ¬ ((s : Int) < k) := by omega
        clear hA1
        go_wp2_with (first
          | (go_at_call 25; refine (steps_disk hD).mono ?_; rintro e w' ⟨he, rfl⟩; rw [hstp] at he; subst he)
          | (go_at_call 9; refine (HK.out _).mono ?_; rintro e w3 ⟨rfl, hb⟩))
        go_ret
        exact ⟨rfl, hBr.trans (hb.mono hBr.size)⟩
      · obtain ⟨m, rfl⟩ : ∃ m, k = m + 1 := ⟨k - 1, by omega⟩
        have hstp : d.steps = m := (hA1.late (by omega)).2.2.2
        have x1 : (s : Int) < (m : Int) + 1 := by omega
        have hm := HNN.out
        have e3 : wrap64 ((m : Int) + 1 - 1) = (m : Int) := by unfold wrap64; omega
        have e4 : wrap64 (m : Int) = (m : Int) := by unfold wrap64; omega
        clear hA1 hm
        go_wp2_with (first
          | (go_at_call 25; refine (steps_disk hD).mono ?_; rintro e w' ⟨he, rfl⟩; rw [hstp] at he; subst he)
          | (go_at_call 9; refine (HK.out _).mono ?_; rintro e w3 ⟨rfl, hb⟩))
        go_ret
        exact ⟨rfl, hBr.trans (hb.mono hBr.size)⟩
set_option maxRecDepth 100000 in
set_option maxHeartbeats 4000000 in
theorem armed_true (s : Nat) (a : Option Addr) (n c : Nat) (w : World) (hs : s ≤ 30) (hn : n ≤ 40) (hA : BoolsIn w a n) : Calls Try.prog 8 #[.bool true, .int .i64 s, .slice a n c] w fun e w' => e = .returned (.bool true) ∧ Below w.heap.size w w' := by
  have hnew : Calls Try.prog 10 #[.int .i64 4] w (NewPost w 4) := new_yes 4 (by omega) (by omega) w
  have hst0 := ArmedAt.start (stop := true) hs
  have h1 : ¬ ((s : Int) < 0) := by omega
  have h2 : ¬ (30 < (s : Int)) := by omega
  have h3 : ¬ (40 < (n : Int)) := by omega
  obtain ⟨d0, hd0⟩ : ∃ d0, ((Dsk.new 4).arm (if true = true then 1 else 2) s).1 = d0 := ⟨_, rfl⟩
  have HS := Lib.hid hst0
  have HD := Lib.hid hd0
  have HNS := Lib.hid hs
  have HNN := Lib.hid hn
  clear hst0 hd0 hs hn
  have HK := Lib.hid known_any
  go_enter Try.func8, Try.ntmps8
  have tM : True := trivial
  go_wp2_with (first
    | (go_at_call 10; refine hnew.mono ?_; rintro e w1 ⟨B, rfl, hD1, hB1⟩)
    | (have _t := tM; go_at_call 23; refine (arm_disk hD1 1 s (by decide) (by have := HNS.out; omega)).mono ?_; rintro e w2 ⟨he, hD2, hK2⟩; rw [show ((Dsk.new 4).arm 1 s).2 = 0 from HS.out.1] at he; subst he; replace hD2 : IsDisk w.heap.size w2 B d0 := HD.out ▸ hD2; clear tM))
  have hB2 := hB1.trans hK2.below
  have hSt : ArmedAt true s 0 d0 := HD.out ▸ HS.out.2
  clear hnew HS HD hD1 hB1 hK2
  go_loopw [11, 12, 13, 41, 42, 43, 44, 45, 46, 47, 48, 49, 50, 51, 52, 53, 54, 55, 56, 57, 58, 59, 60, 61, 62, 63, 64, 65, 66, 67, 68, 69, 70, 71, 72, 73, 74, 75, 76, 77, 78, 79, 80, 81, 82, 83, 84, 85] (fun x _ _ _ _ _ _ _ _ _ _ _ _ _ _ _ _ _ _ _ _ _ _ _ _ _ _ _ _ _ _ _ _ _ _ _ _ _ _ _ _ _ _ _ _ _ _ _ wr => ∃ k : Nat, x = .int .i64 k ∧ k ≤ n ∧ (∃ d, IsDisk w.heap.size wr B d ∧ ArmedAt true s k d) ∧ Below w.heap.size w wr)
    (fun x _ _ _ _ _ _ _ _ _ _ _ _ _ _ _ _ _ _ _ _ _ _ _ _ _ _ _ _ _ _ _ _ _ _ _ _ _ _ _ _ _ _ _ _ _ _ _ _ => n - (intOf x).toNat)
  case atStart => exact ⟨0, rfl, Nat.zero_le _, ⟨d0, hD2, hSt⟩, hB2⟩
  case round =>
    obtain ⟨k, rfl, hk, ⟨d, hD, hA1⟩, hBr⟩ := hrel
    by_cases hkn : k < n
    · obtain ⟨tb, to, rfl, htb, hcells⟩ := hA (by omega)
      obtain ⟨v, hv⟩ := hcells k hkn
      have hc : wr.cell? ⟨tb, to + k, none⟩ = some (.bool v) := (hBr.cell (p := ⟨tb, to + k, none⟩) htb).trans hv
      have hkz : (k : Int) < n := by omega
      have hn40 := HNN.out
      have hk40 : k < 40 := by omega
      have e1 : wrap64 ((k : Int) + 1) = ((k + 1 : Nat) : Int) := by unfold wrap64; omega
      have hf : d.Few 2147483648 := hA1.few.mono (by omega)
      have htm : 0 ≤ Int.tmod (k : Int) 4 ∧ Int.tmod (k : Int) 4 < 4 := by
        rw [Int.tmod_eq_emod_of_nonneg (by omega)]; omega
      have hu : ((UInt8.ofNat k).toNat : Int) = (k : Int) := by
        rw [UInt8.toNat_ofNat_of_lt' (by have : UInt8.size = 256 := rfl; omega)]
      have hlen : (List.replicate 256 (UInt8.ofNat k)).length = 256 := List.length_replicate
      have HALL := Lib.hid (all_any (UInt8.ofNat k))
      rw [hu] at HALL
      have HF := Lib.hid hf
      have HTM := Lib.hid htm
      have HL := Lib.hid hlen
      clear hf htm hu hlen hv hn40
      cases v
      · rcases Nat.lt_trichotomy k s with hlt | heq | hgt
        · have x1 : ¬ (k : Int) = s := by omega
          have x2 : decide (s < k) = false := by simp; omega
          have x3 : decide (s ≤ k) = false := by simp; omega
          have x4 : decide ((s : Int) < k) = false := by simp; omega
          have x5 : decide ((s : Int) ≤ k) = false := by simp; omega
          have hwv : wantOf true s k = 0 := by unfold wantOf; rw [if_neg (by omega), if_neg (by omega)]
          have hdv : ∀ d', ArmedAt true s (k + 1) d' → d'.dead = false := fun d' hh => (hh.soon (by omega)).2.2.1
          have HWV := Lib.hid hwv
          clear hwv
          clear hlt
          go_wp2_with (first
            | (go_at_call 27; refine (HALL.out _).mono ?_; rintro e wa ⟨rfl, hRa, hBa⟩)
            | (go_at_call 21; refine (write_disk (hD.below hBa) HF.out (Int.tmod (k : Int) 4) _ 256 256 _ (hRa.handed HL.out)).mono ?_; rintro e w3 ⟨he, hD3, hK3⟩; rw [(hA1.write _ HTM.out _ HL.out).1, HWV.out] at he; subst he; have hst3 := (hA1.write _ HTM.out _ HL.out).2; have hB3 := (hBr.trans (hBa.mono hBr.size)).trans hK3.below)
            | (go_at_call 18; refine (dead_disk hD3).mono ?_; rintro e w' ⟨he, rfl⟩; rw [hdv _ hst3] at he; subst he))
          generalize wrap64 ((k : Int) + 1) = q at e1 ⊢
          subst e1
          go_roundw
          case rel => exact ⟨k + 1, rfl, hkn, ⟨_, hD3, hst3⟩, hB3⟩
          case measure => exact Nat.sub_lt_sub_left hkn (Nat.lt_succ_self k)
        · subst heq
          have hwv : wantOf true k k = 120 := by unfold wantOf; rw [if_pos rfl]; rfl
          have hdv : ∀ d', ArmedAt true k (k + 1) d' → d'.dead = true := fun d' hh => (hh.late (by omega)).2.2.1
          have HWV := Lib.hid hwv
          clear hwv
          go_wp2_with (first
            | (go_at_call 27; refine (HALL.out _).mono ?_; rintro e wa ⟨rfl, hRa, hBa⟩)
            | (go_at_call 21; refine (write_disk (hD.below hBa) HF.out (Int.tmod (k : Int) 4) _ 256 256 _ (hRa.handed HL.out)).mono ?_; rintro e w3 ⟨he, hD3, hK3⟩; rw [(hA1.write _ HTM.out _ HL.out).1, HWV.out] at he; subst he; have hst3 := (hA1.write _ HTM.out _ HL.out).2; have hB3 := (hBr.trans (hBa.mono hBr.size)).trans hK3.below)
            | (go_at_call 18; refine (dead_disk hD3).mono ?_; rintro e w' ⟨he, rfl⟩; rw [hdv _ hst3] at he; subst he))
          generalize wrap64 ((k : Int) + 1) = q at e1 ⊢
          subst e1
          go_roundw
          case rel => exact ⟨k + 1, rfl, hkn, ⟨_, hD3, hst3⟩, hB3⟩
          case measure => exact Nat.sub_lt_sub_left hkn (Nat.lt_succ_self k)
        · have x1 : ¬ (k : Int) = s := by omega
          have x2 : (s : Int) < k := by omega
          have x3 : (s : Int) ≤ k := by omega
          have hwv : wantOf true s k = 120 := by unfold wantOf; rw [if_neg (by omega)]; rw [if_pos ⟨rfl, hgt⟩]
          have hdv : ∀ d', ArmedAt true s (k + 1) d' → d'.dead = true := fun d' hh => (hh.late (by omega)).2.2.1
          have HWV := Lib.hid hwv
          clear hwv
          clear hgt
          go_wp2_with (first
            | (go_at_call 27; refine (HALL.out _).mono ?_; rintro e wa ⟨rfl, hRa, hBa⟩)
            | (go_at_call 21; refine (write_disk (hD.below hBa) HF.out (Int.tmod (k : Int) 4) _ 256 256 _ (hRa.handed HL.out)).mono ?_; rintro e w3 ⟨he, hD3, hK3⟩; rw [(hA1.write _ HTM.out _ HL.out).1, HWV.out] at he; subst he; have hst3 := (hA1.write _ HTM.out _ HL.out).2; have hB3 := (hBr.trans (hBa.mono hBr.size)).trans hK3.below)
            | (go_at_call 18; refine (dead_disk hD3).mono ?_; rintro e w' ⟨he, rfl⟩; rw [hdv _ hst3] at he; subst he))
          generalize wrap64 ((k : Int) + 1) = q at e1 ⊢
          subst e1
          go_roundw
          case rel => exact ⟨k + 1, rfl, hkn, ⟨_, hD3, hst3⟩, hB3⟩
          case measure => exact Nat.sub_lt_sub_left hkn (Nat.lt_succ_self k)
      · rcases Nat.lt_trichotomy k s with hlt | heq | hgt
        · have x1 : ¬ (k : Int) = s := by omega
          have x2 : decide (s < k) = false := by simp; omega
          have x3 : decide (s ≤ k) = false := by simp; omega
          have x4 : decide ((s : Int) < k) = false := by simp; omega
          have x5 : decide ((s : Int) ≤ k) = false := by simp; omega
          have hwv : wantOf true s k = 0 := by unfold wantOf; rw [if_neg (by omega), if_neg (by omega)]
          have hdv : ∀ d', ArmedAt true s (k + 1) d' → d'.dead = false := fun d' hh => (hh.soon (by omega)).2.2.1
          have HWV := Lib.hid hwv
          clear hwv
          clear hlt
          go_wp2_with (first
            | (go_at_call 22; refine (flush_disk hD HF.out).mono ?_; rintro e w3 ⟨he, hD3, hK3⟩; rw [hA1.flush.1, HWV.out] at he; subst he; have hst3 := hA1.flush.2; have hB3 := hBr.trans hK3.below)
            | (go_at_call 18; refine (dead_disk hD3).mono ?_; rintro e w' ⟨he, rfl⟩; rw [hdv _ hst3] at he; subst he))
          generalize wrap64 ((k : Int) + 1) = q at e1 ⊢
          subst e1
          go_roundw
          case rel => exact ⟨k + 1, rfl, hkn, ⟨_, hD3, hst3⟩, hB3⟩
          case measure => exact Nat.sub_lt_sub_left hkn (Nat.lt_succ_self k)
        · subst heq
          have hwv : wantOf true k k = 120 := by unfold wantOf; rw [if_pos rfl]; rfl
          have hdv : ∀ d', ArmedAt true k (k + 1) d' → d'.dead = true := fun d' hh => (hh.late (by omega)).2.2.1
          have HWV := Lib.hid hwv
          clear hwv
          go_wp2_with (first
            | (go_at_call 22; refine (flush_disk hD HF.out).mono ?_; rintro e w3 ⟨he, hD3, hK3⟩; rw [hA1.flush.1, HWV.out] at he; subst he; have hst3 := hA1.flush.2; have hB3 := hBr.trans hK3.below)
            | (go_at_call 18; refine (dead_disk hD3).mono ?_; rintro e w' ⟨he, rfl⟩; rw [hdv _ hst3] at he; subst he))
          generalize wrap64 ((k : Int) + 1) = q at e1 ⊢
          subst e1
          go_roundw
          case rel => exact ⟨k + 1, rfl, hkn, ⟨_, hD3, hst3⟩, hB3⟩
          case measure => exact Nat.sub_lt_sub_left hkn (Nat.lt_succ_self k)
        · have x1 : ¬ (k : Int) = s := by omega
          have x2 : (s : Int) < k := by omega
          have x3 : (s : Int) ≤ k := by omega
          have hwv : wantOf true s k = 120 := by unfold wantOf; rw [if_neg (by omega)]; rw [if_pos ⟨rfl, hgt⟩]
          have hdv : ∀ d', ArmedAt true s (k + 1) d' → d'.dead = true := fun d' hh => (hh.late (by omega)).2.2.1
          have HWV := Lib.hid hwv
          clear hwv
          clear hgt
          go_wp2_with (first
            | (go_at_call 22; refine (flush_disk hD HF.out).mono ?_; rintro e w3 ⟨he, hD3, hK3⟩; rw [hA1.flush.1, HWV.out] at he; subst he; have hst3 := hA1.flush.2; have hB3 := hBr.trans hK3.below)
            | (go_at_call 18; refine (dead_disk hD3).mono ?_; rintro e w' ⟨he, rfl⟩; rw [hdv _ hst3] at he; subst he))
          generalize wrap64 ((k : Int) + 1) = q at e1 ⊢
          subst e1
          go_roundw
          case rel => exact ⟨k + 1, rfl, hkn, ⟨_, hD3, hst3⟩, hB3⟩
          case measure => exact Nat.sub_lt_sub_left hkn (Nat.lt_succ_self k)
    · obtain rfl : k = n := by omega
      have hkz : ¬ ((k : Int) < k) := by omega
      by_cases hns : k ≤ s
      · have hstp := (hA1.soon hns).2.2.2
        have x1 : ¬ ((s : Int) < k) := by omega
        clear hA1
        go_wp2_with (first
          | (go_at_call 25; refine (steps_disk hD).mono ?_; rintro e w' ⟨he, rfl⟩; rw [hstp] at he; subst he)
          | (go_at_call 9; refine (HK.out _).mono ?_; rintro e w3 ⟨rfl, hb⟩))
        go_ret
        exact ⟨rfl, hBr.trans (hb.mono hBr.size)⟩
      · have hstp : d.steps = s := (hA1.late (by omega)).2.2.2
        have x1 : (s : Int) < k := by omega
        clear hA1
        go_wp2_with (first
          | (go_at_call 25; refine (steps_disk hD).mono ?_; rintro e w' ⟨he, rfl⟩; rw [hstp] at he; subst he)
          | (go_at_call 9; refine (HK.out _).mono ?_; rintro e w3 ⟨rfl, hb⟩))
        go_ret
        exact ⟨rfl, hBr.trans (hb.mono hBr.size)⟩
end Go.Proofs.Ytmbccbiilfdamaa
