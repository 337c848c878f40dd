/- Layer 2: Arm. -/
import Derived.Test.YtkophpipehdkmaaDskArm
namespace Go.Proofs.Ytkophpipehdkmaa
open Go.RowKit

theorem DskAt.armed2 {n₀ : Nat} {w : World} {B bl bn : Nat} {d : Dsk} {v : Value} {fl : Nat → Option Page} (h : DskAt n₀ w B d bl bn v fl) (k l : Nat) (ok : ({ d with kind := k, left := l, dead := false } : Dsk).Ok) :
    DskAt n₀ (((((w.setCell ⟨B, 0, none⟩ (.int .i64 0)).setCell ⟨B, 1, none⟩ (.int .i64 0)).setCell ⟨B, 2, none⟩ (.bool false)).setCell ⟨B, 0, none⟩ (.int .i64 k)).setCell ⟨B, 1, none⟩ (.int .i64 l)) B { d with kind := k, left := l, dead := false } bl bn v fl ∧
    Keeps n₀ w (((((w.setCell ⟨B, 0, none⟩ (.int .i64 0)).setCell ⟨B, 1, none⟩ (.int .i64 0)).setCell ⟨B, 2, none⟩ (.bool false)).setCell ⟨B, 0, none⟩ (.int .i64 k)).setCell ⟨B, 1, none⟩ (.int .i64 l)) := by
  have hg := ((armed_grown w B (.int .i64 0) (.int .i64 0) (.bool false)).andThen (grownBy_cell _ ⟨B, 0, none⟩ (.int .i64 k)) (fun _ e => .inr e)).andThen (grownBy_cell _ ⟨B, 1, none⟩ (.int .i64 l)) (fun _ e => .inr e)
  refine ⟨h.recells hg ?_ ok rfl rfl, Keeps.disk h hg⟩
  have h0 := heap_setCell_same w B 0 _ _ (.int .i64 0) h.cells
  have h1 := heap_setCell_same _ B 1 _ _ (.int .i64 0) h0
  have h2 := heap_setCell_same _ B 2 _ _ (.bool false) h1
  have h3 := heap_setCell_same _ B 0 _ _ (.int .i64 k) h2
  have h4 := heap_setCell_same _ B 1 _ _ (.int .i64 l) h3
  rw [h4]
  rfl
set_option maxRecDepth 100000 in
set_option maxHeartbeats 1000000 in
theorem arm_no {n₀ : Nat} {w : World} {B : Nat} {d : Dsk} (h : IsDisk n₀ w B d) (kind n : Int) (hw : (Lit.int .i64 kind).wf = true) (hk : ¬(kind = 1 ∨ kind = 2)) (hn : kind ≠ 0 ∨ 0 ≤ n) :
    Calls Try.prog 21 #[ptr B, .int .i64 kind, .int .i64 n] w fun e w' => e = .returned (.int .i64 2) ∧ Below w.heap.size w w' := by
  have ht := there_disk h
  have hno : ∀ j : Nat, kind = j → refF j = none := by
    rintro j rfl
    unfold refF putAt
    rw [if_neg (by omega), if_neg (by omega)]
  have HN := Lib.hid hno
  clear hno
  rcases Classical.em (kind = 0) with h0 | h0
  · have hn' : 0 ≤ n := by rcases hn with h | h; exact absurd h0 h; exact h
    have h0' : (kind == 0) = true := by simp [h0]
    have h1' : (kind != 0) = false := by simp [h0]
    clear hn hk h0
    go_enter Try.func21, Try.ntmps21
    go_wp2_with (first
      | (go_at_call 26; refine ht.mono ?_; rintro e w' ⟨rfl, rfl⟩)
      | (go_at_call 42; refine (refusals_any _).mono ?_; rintro e w1 ⟨rfl, hm, hb⟩)
      | (refine wpList_look_none rfl _ _ true rfl Try.underlying37 Try.underlying92 zero26 hm rfl kind hw HN.out rfl ?_; clear hm))
    go_ret
    exact ⟨rfl, hb⟩
  · have h0' : (kind == 0) = false := by simp [h0]
    have h1' : (kind != 0) = true := by simp [h0]
    clear hn hk h0
    go_enter Try.func21, Try.ntmps21
    go_wp2_with (first
      | (go_at_call 26; refine ht.mono ?_; rintro e w' ⟨rfl, rfl⟩)
      | (go_at_call 42; refine (refusals_any _).mono ?_; rintro e w1 ⟨rfl, hm, hb⟩)
      | (refine wpList_look_none rfl _ _ true rfl Try.underlying37 Try.underlying92 zero26 hm rfl kind hw HN.out rfl ?_; clear hm))
    go_ret
    exact ⟨rfl, hb⟩

set_option maxRecDepth 100000 in
set_option maxHeartbeats 1000000 in
/-- Armed with a number from 0 on, or below. -/
theorem arm_set {n₀ : Nat} {w : World} {B : Nat} {d : Dsk} (h : IsDisk n₀ w B d) (kind : Nat) (n : Int) (hn1 : n ≤ 9223372036854775807) (hk : kind = 1 ∨ kind = 2) (hd : d.dead = false) :
    Calls Try.prog 21 #[ptr B, .int .i64 kind, .int .i64 n] w fun e w' => e = .returned (.int .i64 0) ∧ IsDisk n₀ w' B (if 0 ≤ n then { d with kind := kind, left := n.toNat, dead := false } else { d with kind := 0, left := 0, dead := false }) ∧ Keeps n₀ w w' := by
  have ht := there_disk h
  obtain ⟨bl, bn, v, fl, h⟩ := h
  obtain ⟨no, hno⟩ : ∃ no : Nat, (if kind = 1 then 120 else 121 : Nat) = no := ⟨_, rfl⟩
  have hr := refF_at hk
  rw [hno] at hr
  have HR := Lib.hid hr
  clear hno hr
  have hk1 : 0 < kind := by omega
  have hk2 : kind ≤ 2 := by omega
  have HD := Lib.hid hd
  have hn0 := h.n_le
  clear hk hd
  by_cases h0 : 0 ≤ n
  · obtain ⟨m, rfl⟩ := Int.eq_ofNat_of_zero_le h0
    rw [if_pos h0, Int.toNat_natCast]
    go_enter Try.func21, Try.ntmps21
    go_wp2_with (first
      | (go_at_call 26; refine ht.mono ?_; rintro e w' ⟨rfl, rfl⟩)
      | (go_at_call 42; refine (refusals_any _).mono ?_; rintro e w1 ⟨rfl, hm, hb⟩; have hD := h.below hb; have c0 := hD.cell 0; have c1 := hD.cell 1; have c2 := hD.cell 2; have f0 := hD.frozen 0; have f1 := hD.frozen 1; have f2 := hD.frozen 2; simp only [dskCells, HD.out, List.getElem?_toArray, List.getElem?_cons_zero, List.getElem?_cons_succ] at c0 c1 c2)
      | (refine wpList_look rfl _ _ true rfl Try.underlying37 Try.underlying92 zero26 hm rfl kind (by omega) rfl ?_; rw [HR.out]; simp only [Option.isSome_some, Option.getD_some, if_true]; clear hm))
    · go_ret
      have hok := hD.ok
      obtain ⟨g1, g2⟩ := hD.armed2 kind m ⟨hok.lo, hok.hi, hok.len, hok.wait, hk2, (fun e => by simp only at e; omega), (fun e => by cases e), by simp only; omega⟩
      exact ⟨rfl, ⟨bl, bn, v, fl, g1⟩, (Keeps.of_below hb hn0).trans g2⟩
  · rw [if_neg h0]
    have h0' : n < 0 := by omega
    go_enter Try.func21, Try.ntmps21
    go_wp2_with (first
      | (go_at_call 26; refine ht.mono ?_; rintro e w' ⟨rfl, rfl⟩)
      | (go_at_call 42; refine (refusals_any _).mono ?_; rintro e w1 ⟨rfl, hm, hb⟩; have hD := h.below hb; have c0 := hD.cell 0; have c1 := hD.cell 1; have c2 := hD.cell 2; have f0 := hD.frozen 0; have f1 := hD.frozen 1; have f2 := hD.frozen 2; simp only [dskCells, HD.out, List.getElem?_toArray, List.getElem?_cons_zero, List.getElem?_cons_succ] at c0 c1 c2)
      | (refine wpList_look rfl _ _ true rfl Try.underlying37 Try.underlying92 zero26 hm rfl kind (by omega) rfl ?_; rw [HR.out]; simp only [Option.isSome_some, Option.getD_some, if_true]; clear hm))
    · go_ret
      have hok := hD.ok
      exact ⟨rfl, ⟨bl, bn, v, fl, hD.armed 0 0 false ⟨hok.lo, hok.hi, hok.len, hok.wait, by simp, fun _ => rfl, fun _ => rfl, by simp⟩⟩, (Keeps.of_below hb hn0).trans (Keeps.disk hD (armed_grown w1 B _ _ _))⟩

set_option maxRecDepth 100000 in
set_option maxHeartbeats 1000000 in
/-- Armed no more, by no Arm. -/
theorem arm_off {n₀ : Nat} {w : World} {B : Nat} {d : Dsk} (h : IsDisk n₀ w B d) (n : Int) (hn : n < 0) (hd : d.dead = false) :
    Calls Try.prog 21 #[ptr B, .int .i64 0, .int .i64 n] w fun e w' => e = .returned (.int .i64 0) ∧ IsDisk n₀ w' B { d with kind := 0, left := 0, dead := false } ∧ Keeps n₀ w w' := by
  have ht := there_disk h
  obtain ⟨bl, bn, v, fl, h⟩ := h
  have HD := Lib.hid hd
  have hn0 := h.n_le
  clear hd
  go_enter Try.func21, Try.ntmps21
  go_wp2_with (first
    | (go_at_call 26; refine ht.mono ?_; rintro e w' ⟨rfl, rfl⟩)
    | (go_at_call 42; refine (refusals_any _).mono ?_; rintro e w1 ⟨rfl, hm, hb⟩; have hD := h.below hb; have c0 := hD.cell 0; have c1 := hD.cell 1; have c2 := hD.cell 2; have f0 := hD.frozen 0; have f1 := hD.frozen 1; have f2 := hD.frozen 2; simp only [dskCells, HD.out, List.getElem?_toArray, List.getElem?_cons_zero, List.getElem?_cons_succ] at c0 c1 c2)
    | (refine wpList_look rfl _ _ true rfl Try.underlying37 Try.underlying92 zero26 hm rfl 0 (by omega) rfl ?_; rw [show refF 0 = none from rfl]; simp only [Option.isSome_none, Option.getD_none, if_true]; clear hm))
  go_ret
  have hok := hD.ok
  exact ⟨rfl, ⟨bl, bn, v, fl, hD.armed 0 0 false ⟨hok.lo, hok.hi, hok.len, hok.wait, by simp, fun _ => rfl, fun _ => rfl, by simp⟩⟩, (Keeps.of_below hb hn0).trans (Keeps.disk hD (armed_grown w1 B _ _ _))⟩

set_option maxRecDepth 100000 in
set_option maxHeartbeats 1000000 in
/-- A dead disk is armed no more. -/
theorem arm_dead {n₀ : Nat} {w : World} {B : Nat} {d : Dsk} (h : IsDisk n₀ w B d) (kind : Nat) (n : Int) (hk : kind = 1 ∨ kind = 2) (hd : d.dead = true) :
    Calls Try.prog 21 #[ptr B, .int .i64 kind, .int .i64 n] w fun e w' => e = .returned (.int .i64 120) ∧ Below w.heap.size w w' := by
  have ht := there_disk h
  obtain ⟨bl, bn, v, fl, h⟩ := h
  obtain ⟨no, hno⟩ : ∃ no : Nat, (if kind = 1 then 120 else 121 : Nat) = no := ⟨_, rfl⟩
  have hr := refF_at hk
  rw [hno] at hr
  have HR := Lib.hid hr
  clear hno hr
  have hk2 : kind ≤ 2 := by omega
  have HD := Lib.hid hd
  clear hk hd
  go_enter Try.func21, Try.ntmps21
  go_wp2_with (first
    | (go_at_call 26; refine ht.mono ?_; rintro e w' ⟨rfl, rfl⟩)
    | (go_at_call 42; refine (refusals_any _).mono ?_; rintro e w1 ⟨rfl, hm, hb⟩; have hD := h.below hb; have c0 := hD.cell 0; have c1 := hD.cell 1; have c2 := hD.cell 2; have f0 := hD.frozen 0; have f1 := hD.frozen 1; have f2 := hD.frozen 2; simp only [dskCells, HD.out, List.getElem?_toArray, List.getElem?_cons_zero, List.getElem?_cons_succ] at c0 c1 c2)
    | (refine wpList_look rfl _ _ true rfl Try.underlying37 Try.underlying92 zero26 hm rfl kind (by omega) rfl ?_; rw [HR.out]; simp only [Option.isSome_some, Option.getD_some, if_true]; clear hm))
  go_ret
  exact ⟨rfl, hb⟩
set_option maxRecDepth 100000 in
set_option maxHeartbeats 1000000 in
theorem arm_dead0 {n₀ : Nat} {w : World} {B : Nat} {d : Dsk} (h : IsDisk n₀ w B d) (n : Int) (hn : n < 0) (hd : d.dead = true) :
    Calls Try.prog 21 #[ptr B, .int .i64 0, .int .i64 n] w fun e w' => e = .returned (.int .i64 120) ∧ Below w.heap.size w w' := by
  have ht := there_disk h
  obtain ⟨bl, bn, v, fl, h⟩ := h
  have HD := Lib.hid hd
  clear hd
  go_enter Try.func21, Try.ntmps21
  go_wp2_with (first
    | (go_at_call 26; refine ht.mono ?_; rintro e w' ⟨rfl, rfl⟩)
    | (go_at_call 42; refine (refusals_any _).mono ?_; rintro e w1 ⟨rfl, hm, hb⟩; have hD := h.below hb; have c0 := hD.cell 0; have c1 := hD.cell 1; have c2 := hD.cell 2; have f0 := hD.frozen 0; have f1 := hD.frozen 1; have f2 := hD.frozen 2; simp only [dskCells, HD.out, List.getElem?_toArray, List.getElem?_cons_zero, List.getElem?_cons_succ] at c0 c1 c2)
    | (refine wpList_look rfl _ _ true rfl Try.underlying37 Try.underlying92 zero26 hm rfl 0 (by omega) rfl ?_; rw [show refF 0 = none from rfl]; simp only [Option.isSome_none, Option.getD_none, if_true]; clear hm))
  go_ret
  exact ⟨rfl, hb⟩

/-- Arm, whatever it is handed. -/
theorem arm_disk {n₀ : Nat} {w : World} {B : Nat} {d : Dsk} (h : IsDisk n₀ w B d) (kind n : Int) (hw : (Lit.int .i64 kind).wf = true) (hn1 : n ≤ 9223372036854775807) :
    Calls Try.prog 21 #[ptr B, .int .i64 kind, .int .i64 n] w fun e w' => e = .returned (.int .i64 (d.arm kind n).2) ∧ IsDisk n₀ w' B (d.arm kind n).1 ∧ Keeps n₀ w w' := by
  have hn0 := h.n_le
  unfold Dsk.arm
  by_cases hk : ¬(kind = 1 ∨ kind = 2) ∧ (kind ≠ 0 ∨ 0 ≤ n)
  · rw [if_pos hk]
    exact (arm_no h kind n hw hk.1 hk.2).mono fun e w' ⟨he, hb⟩ => ⟨he, h.below hb, Keeps.of_below hb hn0⟩
  · rw [if_neg hk]
    have hk' : (kind = 1 ∨ kind = 2) ∨ (kind = 0 ∧ n < 0) := by
      rcases Classical.em (kind = 1 ∨ kind = 2) with h1 | h1
      · exact .inl h1
      · refine .inr ⟨?_, ?_⟩
        · rcases Classical.em (kind = 0) with h2 | h2
          · exact h2
          · exact absurd ⟨h1, .inl h2⟩ hk
        · rcases Classical.em (n < 0) with h2 | h2
          · exact h2
          · exact absurd ⟨h1, .inr (by omega)⟩ hk
    by_cases hd : d.dead = true
    · rw [if_pos hd]
      rcases hk' with h1 | ⟨rfl, h1⟩
      · obtain ⟨k, rfl⟩ := Int.eq_ofNat_of_zero_le (a := kind) (by omega)
        exact (arm_dead h k n (by omega) hd).mono fun e w' ⟨he, hb⟩ => ⟨he, h.below hb, Keeps.of_below hb hn0⟩
      · exact (arm_dead0 h n h1 hd).mono fun e w' ⟨he, hb⟩ => ⟨he, h.below hb, Keeps.of_below hb hn0⟩
    · rw [if_neg hd]
      have hd' : d.dead = false := by simpa using hd
      rcases hk' with h1 | ⟨rfl, h1⟩
      · obtain ⟨k, rfl⟩ := Int.eq_ofNat_of_zero_le (a := kind) (by omega)
        refine (arm_set h k n hn1 (by omega) hd').mono fun e w' ⟨he, hD, hK⟩ => ⟨?_, ?_, hK⟩
        · rw [he]; split <;> rfl
        · split
          · rename_i h0
            rw [if_pos h0] at hD; exact hD
          · rename_i h0
            rw [if_neg h0] at hD; exact hD
      · refine (arm_off h n h1 hd').mono fun e w' ⟨he, hD, hK⟩ => ⟨?_, ?_, hK⟩
        · rw [he, if_neg (by omega)]; rfl
        · rw [if_neg (by omega)]; exact hD
end Go.Proofs.Ytkophpipehdkmaa
