/- Layer 2: the document's disk: what a step does, Arm. -/
import Derived.WalkKit
import Derived.Outline
import Derived.LoopTactic
import Derived.Lib.Hide
import Derived.Carry
import Derived.Test.YtkophpipehdkmaaBytes
namespace Go.Proofs.Ytkophpipehdkmaa
open Go.RowKit

/-- The document's disk as a value: what lasts and what waits as slices, what arms it, how many steps. -/
def rv (la : Option Addr) (ln lc : Nat) (wa : Option Addr) (wn wc : Nat) (k l : Int) (b : Bool) (s : Int) : Value := .agg #[.slice la ln lc, .slice wa wn wc, .int .i64 k, .int .i64 l, .bool b, .int .i64 s]
/-- What a step leaves of these, and what it is refused with. -/
def rstep (k l : Int) (b : Bool) (s : Int) : Int × Int × Bool × Int × Int :=
  if b = true then (k, l, b, s, 120)
  else if k ≠ 0 ∧ l = 0 then (if k = 1 then (0, l, true, s, 120) else (0, l, b, s, 121))
  else (k, if k ≠ 0 then wrap64 (l - 1) else l, b, wrap64 (s + 1), 0)
def StepPost (w : World) (la : Option Addr) (ln lc : Nat) (wa : Option Addr) (wn wc : Nat) (r : Int × Int × Bool × Int × Int) (e : Ending) (w' : World) : Prop :=
  e = .returned (.tuple #[rv la ln lc wa wn wc r.1 r.2.1 r.2.2.1 r.2.2.2.1, .int .i64 r.2.2.2.2]) ∧ Below w.heap.size w w'
theorem heap_alloc_new' (w : World) (A B : Obj) : ((w.alloc A).alloc B).heap[w.heap.size + 1]? = some B := by
  have := heap_alloc_new (w.alloc A) B
  rw [World.size_alloc] at this
  exact this
/-- The function's results: a struct that lies in memory, and a slot. -/
theorem results_ref {fn : Func} {p u : Tmp} {ty : TypeId} {fs : Array Field} (h : fn.results = #[.cell p ty, .tmp u]) (tmps : Array Value) (w : World) (g : Nat) (t : TypeId) (cs : Array Value) (fr : Nat × Nat)
    (hp : tmps.getD p undef = .pointer (some ⟨g, 0, none⟩)) (hg : w.heap[g]? = some (.cells cs t fr)) (hu : Try.prog.underlying ty = some (.struct fs)) (hi : (Try.prog.info? ty).map (·.size) = some cs.size) :
    (results fn tmps).run Try.prog w = .ok (.tuple #[.agg cs, tmps.getD u undef]) w := by
  rw [results_cell_tmp h]
  rw [hp]
  simp [asAddr, run_loadVar_row w g t ty cs fr _ hg hu rfl hi, Result.andThen]
set_option maxRecDepth 100000 in
set_option maxHeartbeats 2000000 in
theorem rstep_any (la : Option Addr) (ln lc : Nat) (wa : Option Addr) (wn wc : Nat) (k l : Int) (b : Bool) (s : Int) (w : World) :
    Calls Try.prog 43 #[rv la ln lc wa wn wc k l b s] w fun e w' => StepPost w la ln lc wa wn wc (rstep k l b s) e w' := by
  unfold rv
  cases b with
  | true =>
    have e1 : rstep k l true s = (k, l, true, s, 120) := by unfold rstep; rw [if_pos rfl]
    rw [e1]
    go_enter Try.func43, Try.ntmps43
    go_wp2
    refine bodyPost_ret (results_ref rfl _ _ _ _ _ _ rfl (heap_alloc_new' _ _ _) Try.underlying34 (by kernel_rfl)) rfl ?_
    exact ⟨rfl, ((Below.refl _ _).alloc (Nat.le_refl _) _).alloc (by simp) _⟩
  | false =>
    by_cases h1 : k = 0
    · subst h1
      have e1 : rstep 0 l false s = (0, l, false, wrap64 (s + 1), 0) := by
        unfold rstep
        simp [*]
      rw [e1]
      go_enter Try.func43, Try.ntmps43
      go_wp2
      refine bodyPost_ret (results_ref rfl _ _ _ _ _ _ rfl (heap_alloc_new' _ _ _) Try.underlying34 (by kernel_rfl)) rfl ?_
      exact ⟨rfl, ((Below.refl _ _).alloc (Nat.le_refl _) _).alloc (by simp) _⟩
    · have hk1 : (k == 0) = false := by simpa using h1
      have hk2 : (k != 0) = true := by simpa using h1
      by_cases h2 : l = 0
      · subst h2
        by_cases h3 : k = 1
        · subst h3
          have e1 : rstep 1 0 false s = (0, 0, true, s, 120) := by
            unfold rstep
            simp [*]
          rw [e1]
          go_enter Try.func43, Try.ntmps43
          go_wp2
          refine bodyPost_ret (results_ref rfl _ _ _ _ _ _ rfl (heap_alloc_new' _ _ _) Try.underlying34 (by kernel_rfl)) rfl ?_
          exact ⟨rfl, ((Below.refl _ _).alloc (Nat.le_refl _) _).alloc (by simp) _⟩
        · have hk3 : (k == 1) = false := by simpa using h3
          have e1 : rstep k 0 false s = (0, 0, false, s, 121) := by
            unfold rstep
            simp [*]
          rw [e1]
          go_enter Try.func43, Try.ntmps43
          go_wp2
          refine bodyPost_ret (results_ref rfl _ _ _ _ _ _ rfl (heap_alloc_new' _ _ _) Try.underlying34 (by kernel_rfl)) rfl ?_
          exact ⟨rfl, ((Below.refl _ _).alloc (Nat.le_refl _) _).alloc (by simp) _⟩
      · have hl1 : (l == 0) = false := by simpa using h2
        have e1 : rstep k l false s = (k, wrap64 (l - 1), false, wrap64 (s + 1), 0) := by
          unfold rstep
          simp [*]
        rw [e1]
        go_enter Try.func43, Try.ntmps43
        go_wp2
        refine bodyPost_ret (results_ref rfl _ _ _ _ _ _ rfl (heap_alloc_new' _ _ _) Try.underlying34 (by kernel_rfl)) rfl ?_
        exact ⟨rfl, ((Below.refl _ _).alloc (Nat.le_refl _) _).alloc (by simp) _⟩
end Go.Proofs.Ytkophpipehdkmaa
