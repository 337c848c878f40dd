/- Layer 2: a step, if it is not refused. -/
import Derived.Test.YtkophpipehdkmaaDskArms
namespace Go.Proofs.Ytkophpipehdkmaa
open Go.RowKit

theorem DskAt.set_left {n₀ : Nat} {w : World} {B bl bn : Nat} {d : Dsk} {v : Value} {fl : Nat → Option Page} (h : DskAt n₀ w B d bl bn v fl) (l : Nat) (ok : ({ d with left := l } : Dsk).Ok) :
    DskAt n₀ (w.setCell ⟨B, 1, none⟩ (.int .i64 l)) B { d with left := l } bl bn v fl := by
  refine h.recells (grownBy_cell w ⟨B, 1, none⟩ _) ?_ ok rfl rfl
  rw [heap_setCell_same w B 1 _ _ (.int .i64 l) h.cells]
  rfl
theorem DskAt.set_steps {n₀ : Nat} {w : World} {B bl bn : Nat} {d : Dsk} {v : Value} {fl : Nat → Option Page} (h : DskAt n₀ w B d bl bn v fl) (s : Nat) (ok : ({ d with steps := s } : Dsk).Ok) :
    DskAt n₀ (w.setCell ⟨B, 4, none⟩ (.int .i64 s)) B { d with steps := s } bl bn v fl := by
  refine h.recells (grownBy_cell w ⟨B, 4, none⟩ _) ?_ ok rfl rfl
  rw [heap_setCell_same w B 4 _ _ (.int .i64 s) h.cells]
  rfl
theorem Dsk.Ok.set_steps {d : Dsk} (h : d.Ok) (s : Nat) : ({ d with steps := s } : Dsk).Ok := ⟨h.lo, h.hi, h.len, h.wait, h.kind, h.none_, h.dead_, h.left_⟩

set_option maxRecDepth 100000 in
set_option maxHeartbeats 2000000 in
theorem step_write {n₀ : Nat} {w : World} {B : Nat} {d : Dsk} (h : IsDisk n₀ w B d) (caps : Array Value) (d2 : Dsk) (hs : d.steps ≤ 2147483648) (hd2 : d2.steps = d.steps)
    (hdo : ∀ w1, Keeps n₀ w w1 → IsDisk n₀ w1 B { d with left := d.left - (if d.kind = 0 then 0 else 1) } → Calls Try.prog 41 caps w1 fun e w' => e = .returned (.tuple #[]) ∧ IsDisk n₀ w' B d2 ∧ Keeps n₀ w1 w') :
    Calls Try.prog 38 #[ptr B, .func (.func 41) #[] caps] w fun e w' => e = .returned (.int .i64 d.step.2) ∧ IsDisk n₀ w' B (if d.step.2 = 0 then { d2 with steps := d.steps + 1 } else d.step.1) ∧ Keeps n₀ w w' := by
  by_cases hd : d.dead = true
  · have hst : d.step = (d, 120) := by unfold Dsk.step; rw [if_pos hd]
    rw [hst]
    have h' := h
    obtain ⟨bl, bn, v, fl, h⟩ := h
    have c2 := h.cell 2
    simp only [dskCells, hd, List.getElem?_toArray, List.getElem?_cons_zero, List.getElem?_cons_succ] at c2
    clear hst hd hdo hd2
    go_enter Try.func38, Try.ntmps38
    go_wp2
    go_ret
    exact ⟨rfl, h', Keeps.refl _ _⟩
  · have hd' : d.dead = false := by simpa using hd
    by_cases hk : d.kind ≠ 0 ∧ d.left = 0
    · have hk12 : d.kind = 1 ∨ d.kind = 2 := by have := h.ok.kind; omega
      have hst : d.step = ({ d with kind := 0, left := 0, dead := decide (d.kind = 1) }, (if d.kind = 1 then 120 else 121 : Nat)) := by
        unfold Dsk.step
        rw [if_neg hd, if_pos hk]
        by_cases h1 : d.kind = 1 <;> simp [h1]
      have hne : ¬ (if d.kind = 1 then 120 else 121 : Nat) = 0 := by split <;> omega
      rw [hst]
      have hr := refuse_disk h hk12
      simp only [if_neg hne]
      obtain ⟨bl, bn, v, fl, h⟩ := h
      have c0 := h.cell 0
      have c1 := h.cell 1
      have c2 := h.cell 2
      have hk0 : ((d.kind : Int) != 0) = true := by simp [hk.1]
      simp only [dskCells, hd', hk.2, List.getElem?_toArray, List.getElem?_cons_zero, List.getElem?_cons_succ] at c0 c1 c2
      clear hst hd hd' hdo hd2 hk hk12 hne
      generalize (if d.kind = 1 then 120 else 121 : Nat) = no at hr ⊢
      generalize decide (d.kind = 1) = dk at hr ⊢
      have HR := Lib.hid hr
      clear hr
      go_enter Try.func38, Try.ntmps38
      go_wp2_with (go_at_call 49; refine HR.out.mono ?_; rintro e w' ⟨rfl, hD, hK⟩)
      go_ret
      exact ⟨rfl, hD, hK⟩
    · have hst : d.step = ({ d with left := d.left - (if d.kind = 0 then 0 else 1), steps := d.steps + 1 }, 0) := by
        unfold Dsk.step
        rw [if_neg hd, if_neg hk]
      rw [hst]
      simp only [if_true]
      by_cases h0 : d.kind = 0
      · have hc := hdo w (Keeps.refl _ _) (by rw [if_pos h0, Nat.sub_zero]; exact h)
        obtain ⟨bl, bn, v, fl, h⟩ := h
        have c0 := h.cell 0
        have c2 := h.cell 2
        simp only [dskCells, hd', h0, List.getElem?_toArray, List.getElem?_cons_zero, List.getElem?_cons_succ] at c0 c2
        have HC := Lib.hid hc
        have HD2 := Lib.hid hd2
        have hm : d.steps ≤ 2147483648 := hs
        clear hst hd hd' hdo hd2 hk h0 hc hs
        go_enter Try.func38, Try.ntmps38
        go_wp2_with fail
        refine HC.out.mono ?_
        rintro e w1 ⟨rfl, ⟨bl2, bn2, v2, fl2, hD2⟩, hK⟩
        have c4 := hD2.cell 4
        have f4 := hD2.frozen 4
        simp only [dskCells, HD2.out, List.getElem?_toArray, List.getElem?_cons_zero, List.getElem?_cons_succ] at c4
        clear c0 c2
        go_wp2_with fail
        go_ret
        exact ⟨rfl, ⟨bl2, bn2, v2, fl2, hD2.set_steps (d.steps + 1) (hD2.ok.set_steps _)⟩, hK.trans (Keeps.disk hD2 (grownBy_cell w1 ⟨B, 4, none⟩ _))⟩
      · obtain ⟨bl, bn, v, fl, h⟩ := h
        have hl : 1 ≤ d.left := by
          rcases Classical.em (d.left = 0) with e | e
          · exact absurd ⟨h0, e⟩ hk
          · omega
        have hl2 := h.ok.left_
        have hok : ({ d with left := d.left - 1 } : Dsk).Ok := ⟨h.ok.lo, h.ok.hi, h.ok.len, h.ok.wait, h.ok.kind, fun e => absurd e h0, h.ok.dead_, by simp only; omega⟩
        have hK0 : Keeps n₀ w (w.setCell ⟨B, 1, none⟩ (.int .i64 (d.left - 1 : Nat))) := Keeps.disk h (grownBy_cell w ⟨B, 1, none⟩ _)
        have hc := hdo _ hK0 (by rw [if_neg h0]; exact ⟨bl, bn, v, fl, h.set_left (d.left - 1) hok⟩)
        have c0 := h.cell 0
        have c1 := h.cell 1
        have c2 := h.cell 2
        have f1 := h.frozen 1
        have hk0 : ((d.kind : Int) != 0) = true := by simp [h0]
        have hl0 : ((d.left : Int) == 0) = false := by simp; omega
        simp only [dskCells, hd', List.getElem?_toArray, List.getElem?_cons_zero, List.getElem?_cons_succ] at c0 c1 c2
        have hle : ((d.left : Int) - 1) = ((d.left - 1 : Nat) : Int) := by omega
        rw [← hle] at hc hK0
        have HC := Lib.hid hc
        have HD2 := Lib.hid hd2
        have HK0 := Lib.hid hK0
        have hm : d.steps ≤ 2147483648 := hs
        clear hst hd hd' hdo hd2 hk h0 hc hs hok hle hK0
        go_enter Try.func38, Try.ntmps38
        go_wp2_with fail
        refine HC.out.mono ?_
        rintro e w1 ⟨rfl, ⟨bl2, bn2, v2, fl2, hD2⟩, hK⟩
        have c4 := hD2.cell 4
        have f4 := hD2.frozen 4
        simp only [dskCells, HD2.out, List.getElem?_toArray, List.getElem?_cons_zero, List.getElem?_cons_succ] at c4
        clear c0 c1 c2
        go_wp2_with fail
        go_ret
        exact ⟨rfl, ⟨bl2, bn2, v2, fl2, hD2.set_steps (d.steps + 1) (hD2.ok.set_steps _)⟩, (HK0.out.trans hK).trans (Keeps.disk hD2 (grownBy_cell w1 ⟨B, 4, none⟩ _))⟩

set_option maxRecDepth 100000 in
set_option maxHeartbeats 2000000 in
theorem step_flush {n₀ : Nat} {w : World} {B : Nat} {d : Dsk} (h : IsDisk n₀ w B d) (caps : Array Value) (d2 : Dsk) (hs : d.steps ≤ 2147483648) (hd2 : d2.steps = d.steps)
    (hdo : ∀ w1, Keeps n₀ w w1 → IsDisk n₀ w1 B { d with left := d.left - (if d.kind = 0 then 0 else 1) } → Calls Try.prog 39 caps w1 fun e w' => e = .returned (.tuple #[]) ∧ IsDisk n₀ w' B d2 ∧ Keeps n₀ w1 w') :
    Calls Try.prog 38 #[ptr B, .func (.func 39) #[] caps] w fun e w' => e = .returned (.int .i64 d.step.2) ∧ IsDisk n₀ w' B (if d.step.2 = 0 then { d2 with steps := d.steps + 1 } else d.step.1) ∧ Keeps n₀ w w' := by
  by_cases hd : d.dead = true
  · have hst : d.step = (d, 120) := by unfold Dsk.step; rw [if_pos hd]
    rw [hst]
    have h' := h
    obtain ⟨bl, bn, v, fl, h⟩ := h
    have c2 := h.cell 2
    simp only [dskCells, hd, List.getElem?_toArray, List.getElem?_cons_zero, List.getElem?_cons_succ] at c2
    clear hst hd hdo hd2
    go_enter Try.func38, Try.ntmps38
    go_wp2
    go_ret
    exact ⟨rfl, h', Keeps.refl _ _⟩
  · have hd' : d.dead = false := by simpa using hd
    by_cases hk : d.kind ≠ 0 ∧ d.left = 0
    · have hk12 : d.kind = 1 ∨ d.kind = 2 := by have := h.ok.kind; omega
      have hst : d.step = ({ d with kind := 0, left := 0, dead := decide (d.kind = 1) }, (if d.kind = 1 then 120 else 121 : Nat)) := by
        unfold Dsk.step
        rw [if_neg hd, if_pos hk]
        by_cases h1 : d.kind = 1 <;> simp [h1]
      have hne : ¬ (if d.kind = 1 then 120 else 121 : Nat) = 0 := by split <;> omega
      rw [hst]
      have hr := refuse_disk h hk12
      simp only [if_neg hne]
      obtain ⟨bl, bn, v, fl, h⟩ := h
      have c0 := h.cell 0
      have c1 := h.cell 1
      have c2 := h.cell 2
      have hk0 : ((d.kind : Int) != 0) = true := by simp [hk.1]
      simp only [dskCells, hd', hk.2, List.getElem?_toArray, List.getElem?_cons_zero, List.getElem?_cons_succ] at c0 c1 c2
      clear hst hd hd' hdo hd2 hk hk12 hne
      generalize (if d.kind = 1 then 120 else 121 : Nat) = no at hr ⊢
      generalize decide (d.kind = 1) = dk at hr ⊢
      have HR := Lib.hid hr
      clear hr
      go_enter Try.func38, Try.ntmps38
      go_wp2_with (go_at_call 49; refine HR.out.mono ?_; rintro e w' ⟨rfl, hD, hK⟩)
      go_ret
      exact ⟨rfl, hD, hK⟩
    · have hst : d.step = ({ d with left := d.left - (if d.kind = 0 then 0 else 1), steps := d.steps + 1 }, 0) := by
        unfold Dsk.step
        rw [if_neg hd, if_neg hk]
      rw [hst]
      simp only [if_true]
      by_cases h0 : d.kind = 0
      · have hc := hdo w (Keeps.refl _ _) (by rw [if_pos h0, Nat.sub_zero]; exact h)
        obtain ⟨bl, bn, v, fl, h⟩ := h
        have c0 := h.cell 0
        have c2 := h.cell 2
        simp only [dskCells, hd', h0, List.getElem?_toArray, List.getElem?_cons_zero, List.getElem?_cons_succ] at c0 c2
        have HC := Lib.hid hc
        have HD2 := Lib.hid hd2
        have hm : d.steps ≤ 2147483648 := hs
        clear hst hd hd' hdo hd2 hk h0 hc hs
        go_enter Try.func38, Try.ntmps38
        go_wp2_with fail
        refine HC.out.mono ?_
        rintro e w1 ⟨rfl, ⟨bl2, bn2, v2, fl2, hD2⟩, hK⟩
        have c4 := hD2.cell 4
        have f4 := hD2.frozen 4
        simp only [dskCells, HD2.out, List.getElem?_toArray, List.getElem?_cons_zero, List.getElem?_cons_succ] at c4
        clear c0 c2
        go_wp2_with fail
        go_ret
        exact ⟨rfl, ⟨bl2, bn2, v2, fl2, hD2.set_steps (d.steps + 1) (hD2.ok.set_steps _)⟩, hK.trans (Keeps.disk hD2 (grownBy_cell w1 ⟨B, 4, none⟩ _))⟩
      · obtain ⟨bl, bn, v, fl, h⟩ := h
        have hl : 1 ≤ d.left := by
          rcases Classical.em (d.left = 0) with e | e
          · exact absurd ⟨h0, e⟩ hk
          · omega
        have hl2 := h.ok.left_
        have hok : ({ d with left := d.left - 1 } : Dsk).Ok := ⟨h.ok.lo, h.ok.hi, h.ok.len, h.ok.wait, h.ok.kind, fun e => absurd e h0, h.ok.dead_, by simp only; omega⟩
        have hK0 : Keeps n₀ w (w.setCell ⟨B, 1, none⟩ (.int .i64 (d.left - 1 : Nat))) := Keeps.disk h (grownBy_cell w ⟨B, 1, none⟩ _)
        have hc := hdo _ hK0 (by rw [if_neg h0]; exact ⟨bl, bn, v, fl, h.set_left (d.left - 1) hok⟩)
        have c0 := h.cell 0
        have c1 := h.cell 1
        have c2 := h.cell 2
        have f1 := h.frozen 1
        have hk0 : ((d.kind : Int) != 0) = true := by simp [h0]
        have hl0 : ((d.left : Int) == 0) = false := by simp; omega
        simp only [dskCells, hd', List.getElem?_toArray, List.getElem?_cons_zero, List.getElem?_cons_succ] at c0 c1 c2
        have hle : ((d.left : Int) - 1) = ((d.left - 1 : Nat) : Int) := by omega
        rw [← hle] at hc hK0
        have HC := Lib.hid hc
        have HD2 := Lib.hid hd2
        have HK0 := Lib.hid hK0
        have hm : d.steps ≤ 2147483648 := hs
        clear hst hd hd' hdo hd2 hk h0 hc hs hok hle hK0
        go_enter Try.func38, Try.ntmps38
        go_wp2_with fail
        refine HC.out.mono ?_
        rintro e w1 ⟨rfl, ⟨bl2, bn2, v2, fl2, hD2⟩, hK⟩
        have c4 := hD2.cell 4
        have f4 := hD2.frozen 4
        simp only [dskCells, HD2.out, List.getElem?_toArray, List.getElem?_cons_zero, List.getElem?_cons_succ] at c4
        clear c0 c1 c2
        go_wp2_with fail
        go_ret
        exact ⟨rfl, ⟨bl2, bn2, v2, fl2, hD2.set_steps (d.steps + 1) (hD2.ok.set_steps _)⟩, (HK0.out.trans hK).trans (Keeps.disk hD2 (grownBy_cell w1 ⟨B, 4, none⟩ _))⟩
end Go.Proofs.Ytkophpipehdkmaa
