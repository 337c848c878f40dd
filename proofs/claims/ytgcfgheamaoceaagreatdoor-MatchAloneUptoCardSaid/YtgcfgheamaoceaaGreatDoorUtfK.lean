/- Layer 12: Runes. -/
import Derived.Test.YtgcfgheamaoceaaGreatDoorUtfJ
namespace Go.Proofs.YtgcfgheamaoceaaGreatDoor
open Go.RowKit Go.Shelf

attribute [local go_sem] Oper.semAt_some

theorem wpIn_scope_jumps {n : Nat} {P : Program} {c rest : Code} {Q : Exit → Act → World → Prop} {a : Act} {w : World} (l : Nat) (J : Act → World → Prop) (μ : Act → World → Nat) (hf : findLabel c l = some rest)
    (first : c.wpIn Fence.wide n P (Exit.jump l J Q) a w) (pass : ∀ a w, J a w → rest.wpIn Fence.wide n P (Exit.jump l (fun a' w' => J a' w' ∧ μ a' w' < μ a w) Q) a w) : (Code.scope c).wpIn Fence.wide n P Q a w :=
  wpIn_wide.2 (wp_scope_jumps l J μ hf (wpIn_wide.1 first) fun a w h => wpIn_wide.1 (pass a w h))
theorem infoI32 : (Tryz.prog.info? 21).map (fun i => (i.zero, i.size, i.bytes)) = some (some (.int .i32 0), 1, 4) := by kernel_rfl
def runeVals (l : List Int) : List Value := l.map fun r => Value.int .i32 r
/-- The slice value v, made since the heap had base blocks (or nil), holds these numbers. -/
def OwnR (w : World) (base : Nat) (v : Value) (l : List Int) : Prop := w.ownsRow base 21 1 v l.length (runeVals l)
def seconds (l : List (Nat × Int)) : List Int := l.map (·.2)
theorem seconds_snoc (l : List (Nat × Int)) (x : Nat × Int) : seconds (l ++ [x]) = seconds l ++ [x.2] := by simp [seconds]
theorem seconds_len (l : List (Nat × Int)) : (seconds l).length = l.length := by simp [seconds]
theorem seconds_pls (a : Nat) (rs : List Nat) : seconds (pls a rs) = rs.map fun (n : Nat) => (n : Int) := by
  induction rs generalizing a with
  | nil => rfl
  | cons r t ih =>
    have := ih (a + (lenB r + 1))
    unfold seconds at this ⊢
    simp [pls, this]
theorem seconds_right {s : List UInt8} {rs : List Nat} (h : ∀ x ∈ plsAll s rs, x.2 ≠ -1) : seconds (plsAll s rs) = rs.map fun (n : Nat) => (n : Int) := by
  have := (plsAll_right h).2
  unfold plsAll
  rw [if_neg this, List.append_nil, seconds_pls]
/-- What Runes leaves: the runes, or that the text is wrong. -/
def RunesPost (w : World) (s : List UInt8) (rs : List Nat) (e : Ending) (w' : World) : Prop :=
  (¬ (textR rs).length < s.length ∧ ∃ v, e = .returned (.tuple #[v, .int .i64 0]) ∧ OwnR w' w.heap.size v (rs.map fun (n : Nat) => (n : Int)) ∧ Below w.heap.size w w') ∨
  ((textR rs).length < s.length ∧ e = .returned (.tuple #[.slice none 0 0, .int .i64 220]) ∧ Below w.heap.size w w')
def RunesJ (w w2 : World) (s : List UInt8) (rs : List Nat) (a' : Act) (w' : World) : Prop := (textR rs).length < s.length ∧ a'.tmps.size = 18 ∧ ∃ D, w2.heap.size ≤ D ∧ a'.defers = [{ target := .collected D, args := #[] }] ∧ w'.heap[D]? = some (.deferred (some [])) ∧ Below w.heap.size w w'
end Go.Proofs.YtgcfgheamaoceaaGreatDoor
