/- Layer 2: the document's disk in memory; its Arm. -/
import Derived.Test.YtkophpipehdkmaaRefD4
namespace Go.Proofs.Ytkophpipehdkmaa
open Go.RowKit

def GD.arm (g : GD) (kind steps : Int) : GD × Int :=
  if kind < 0 ∨ 2 < kind ∨ (kind = 0 ∧ 0 ≤ steps) then (g, 2) else if g.b = true then (g, 120) else
  if steps < 0 then ({ g with k := 0, l := steps }, 0) else ({ g with k := kind, l := steps }, 0)
set_option maxRecDepth 100000 in
set_option maxHeartbeats 4000000 in
theorem garm_any {w : World} {la wa : Option Addr} {lc wc : Nat} {g : GD} (h : IsG w.heap.size w la lc wa wc g) (kind steps : Int) :
    Calls Try.prog 25 #[gv la lc wa wc g, .int .i64 kind, .int .i64 steps] w fun e w' => GPost w (g.arm kind steps) e w' := by
  obtain ⟨L, hL⟩ : ∃ L, g.lasts.length = L := ⟨_, rfl⟩
  obtain ⟨n, hn⟩ : ∃ n, g.waits.length = n := ⟨_, rfl⟩
  have hgv : gv la lc wa wc g = .agg #[.slice la L lc, .slice wa n wc, .int .i64 g.k, .int .i64 g.l, .bool g.b, .int .i64 g.s] := by unfold gv rv; rw [hL, hn]
  have HP := Lib.hid (show ∀ k l b s no A B, GPost w ({ g with k := k, l := l, b := b, s := s }, no) (.returned (.tuple #[.agg #[.slice la L lc, .slice wa n wc, .int .i64 k, .int .i64 l, .bool b, .int .i64 s], .int .i64 no])) ((w.alloc A).alloc B) from fun k l b s no A B => by
    have hB : Below w.heap.size w ((w.alloc A).alloc B) := ((Below.refl _ _).alloc (Nat.le_refl _) _).alloc (by simp) _
    have hI := h.below hB
    exact ⟨la, lc, wa, wc, by unfold gv rv; rw [hL, hn], ⟨hI.lasts.mono hB.size, hI.waits.mono hB.size, hI.lle, hI.wle, hI.wnone, hI.lnone, hI.fewl⟩, hB⟩)
  rw [hgv]
  obtain ⟨ls, ws, k, l, b, s⟩ := g
  simp only at HP hL hn
  clear hgv h hL hn
  by_cases h1 : kind < 0
  · have e1 : GD.arm ⟨ls, ws, k, l, b, s⟩ kind steps = (⟨ls, ws, k, l, b, s⟩, 2) := by unfold GD.arm; rw [if_pos (.inl h1)]
    rw [e1]
    have d1 : decide (kind < 0) = true := decide_eq_true h1
    go_enter Try.func25, Try.ntmps25
    go_wp2
    refine bodyPost_ret (results_ref rfl _ _ _ _ _ _ rfl (heap_alloc_new' _ _ _) Try.underlying34 (by kernel_rfl)) rfl ?_
    exact HP.out _ _ _ _ _ _ _
  have d1 : decide (kind < 0) = false := decide_eq_false h1
  by_cases h2 : 2 < kind
  · have e1 : GD.arm ⟨ls, ws, k, l, b, s⟩ kind steps = (⟨ls, ws, k, l, b, s⟩, 2) := by unfold GD.arm; rw [if_pos (.inr (.inl h2))]
    rw [e1]
    have d2 : decide (2 < kind) = true := decide_eq_true h2
    go_enter Try.func25, Try.ntmps25
    go_wp2
    refine bodyPost_ret (results_ref rfl _ _ _ _ _ _ rfl (heap_alloc_new' _ _ _) Try.underlying34 (by kernel_rfl)) rfl ?_
    exact HP.out _ _ _ _ _ _ _
  have d2 : decide (2 < kind) = false := decide_eq_false h2
  by_cases h3 : kind = 0 ∧ 0 ≤ steps
  · obtain ⟨rfl, h3⟩ := h3
    have e1 : GD.arm ⟨ls, ws, k, l, b, s⟩ 0 steps = (⟨ls, ws, k, l, b, s⟩, 2) := by unfold GD.arm; rw [if_pos (.inr (.inr ⟨rfl, h3⟩))]
    rw [e1]
    have d3 : decide (0 ≤ steps) = true := decide_eq_true h3
    clear d1 d2 h1 h2
    go_enter Try.func25, Try.ntmps25
    go_wp2
    refine bodyPost_ret (results_ref rfl _ _ _ _ _ _ rfl (heap_alloc_new' _ _ _) Try.underlying34 (by kernel_rfl)) rfl ?_
    exact HP.out _ _ _ _ _ _ _
  have hor : ¬ (kind < 0 ∨ 2 < kind ∨ (kind = 0 ∧ 0 ≤ steps)) := by omega
  cases b with
  | true =>
    have e1 : GD.arm ⟨ls, ws, k, l, true, s⟩ kind steps = (⟨ls, ws, k, l, true, s⟩, 120) := by unfold GD.arm; rw [if_neg hor, if_pos rfl]
    rw [e1]
    by_cases h4 : kind = 0
    · subst h4
      have d3 : decide (0 ≤ steps) = false := decide_eq_false (by omega)
      clear d1 d2 h1 h2 h3 hor
      go_enter Try.func25, Try.ntmps25
      go_wp2
      refine bodyPost_ret (results_ref rfl _ _ _ _ _ _ rfl (heap_alloc_new' _ _ _) Try.underlying34 (by kernel_rfl)) rfl ?_
      exact HP.out _ _ _ _ _ _ _
    · have d3 : (kind == 0) = false := by simpa using h4
      clear h1 h2 h3 hor
      go_enter Try.func25, Try.ntmps25
      go_wp2
      refine bodyPost_ret (results_ref rfl _ _ _ _ _ _ rfl (heap_alloc_new' _ _ _) Try.underlying34 (by kernel_rfl)) rfl ?_
      exact HP.out _ _ _ _ _ _ _
  | false =>
    by_cases h5 : steps < 0
    · have d5 : decide (steps < 0) = true := decide_eq_true h5
      have e1 : GD.arm ⟨ls, ws, k, l, false, s⟩ kind steps = (⟨ls, ws, 0, steps, false, s⟩, 0) := by unfold GD.arm; rw [if_neg hor, if_neg (by simp), if_pos h5]
      rw [e1]
      by_cases h4 : kind = 0
      · subst h4
        have d3 : decide (0 ≤ steps) = false := decide_eq_false (by omega)
        clear d1 d2 h1 h2 h3 hor
        go_enter Try.func25, Try.ntmps25
        go_wp2
        refine bodyPost_ret (results_ref rfl _ _ _ _ _ _ rfl (heap_alloc_new' _ _ _) Try.underlying34 (by kernel_rfl)) rfl ?_
        exact HP.out _ _ _ _ _ _ _
      · have d3 : (kind == 0) = false := by simpa using h4
        clear h1 h2 h3 hor
        go_enter Try.func25, Try.ntmps25
        go_wp2
        refine bodyPost_ret (results_ref rfl _ _ _ _ _ _ rfl (heap_alloc_new' _ _ _) Try.underlying34 (by kernel_rfl)) rfl ?_
        exact HP.out _ _ _ _ _ _ _
    · have d5 : decide (steps < 0) = false := decide_eq_false h5
      have e1 : GD.arm ⟨ls, ws, k, l, false, s⟩ kind steps = (⟨ls, ws, kind, steps, false, s⟩, 0) := by unfold GD.arm; rw [if_neg hor, if_neg (by simp), if_neg h5]
      rw [e1]
      have d3 : (kind == 0) = false := by simp; omega
      clear h1 h2 h3 hor
      go_enter Try.func25, Try.ntmps25
      go_wp2
      refine bodyPost_ret (results_ref rfl _ _ _ _ _ _ rfl (heap_alloc_new' _ _ _) Try.underlying34 (by kernel_rfl)) rfl ?_
      exact HP.out _ _ _ _ _ _ _
end Go.Proofs.Ytkophpipehdkmaa
