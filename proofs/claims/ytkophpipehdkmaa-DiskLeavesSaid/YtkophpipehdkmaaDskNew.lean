/- Layer 2: New, and standing; what arms a disk: refusals, refuse, Arm. -/
import Derived.Deep.RegionHeld3
import Derived.Test.YtkophpipehdkmaaDsk
namespace Go.Proofs.Ytkophpipehdkmaa
open Go.RowKit

/-- A new disk out of a map of pages. -/
theorem standing_any (n : Nat) (bl : Nat) (w : World) :
    Calls Try.prog 22 #[.int .i64 n, .map (some bl)] w fun e w' => e = .returned (ptr (w.heap.size + 1)) ∧
      w' = (w.alloc (.map #[] 0)).alloc (.cells #[.int .i64 0, .int .i64 0, .bool false, .int .i64 n, .int .i64 0, .map (some bl), .map (some w.heap.size), .slice none 0 0] 72) := by
  have hmm := @run_makeMap Try.prog
  go_enter Try.func22, Try.ntmps22
  go_wp2
  go_ret
  exact ⟨by simp, rfl⟩
theorem stand_disk {n₀ : Nat} {w : World} {bl : Nat} {fl : Nat → Option Page} {ls : List Page} (hn : n₀ ≤ w.heap.size) (hbl : n₀ ≤ bl) (hm : IntMap Try.prog 3 w bl (pagesV fl))
    (h1 : 2 ≤ ls.length) (h2 : ls.length ≤ 4096) (hlen : ∀ p, p < ls.length → (ls.getD p noughts).length = 256) (hlo : ∀ p, p < ls.length → (fl p).getD noughts = ls.getD p noughts) (hhi : ∀ p, ls.length ≤ p → fl p = none) :
    IsDisk n₀ ((w.alloc (.map #[] 0)).alloc (.cells #[.int .i64 0, .int .i64 0, .bool false, .int .i64 ls.length, .int .i64 0, .map (some bl), .map (some w.heap.size), .slice none 0 0] 72)) (w.heap.size + 1)
      { kind := 0, left := 0, dead := false, steps := 0, lasts := ls, waits := [] } := by
  refine ⟨bl, w.heap.size, .slice none 0 0, fl, ⟨h1, h2, hlen, (by intro x hx; cases hx), by simp, fun _ => rfl, (fun e => by cases e), by simp⟩, ?_, (hm.alloc _).alloc _, ?_, World.ownsRow_nil _ _ _ _, ⟨by omega, hbl, hn⟩, ?_, hlo, hhi⟩
  · have := heap_alloc_new (w.alloc (.map #[] 0)) (.cells #[.int .i64 0, .int .i64 0, .bool false, .int .i64 ls.length, .int .i64 0, .map (some bl), .map (some w.heap.size), .slice none 0 0] 72)
    rw [World.size_alloc] at this
    exact this
  · have := (IntMap.made (P := Try.prog) (kT := 3) w).alloc (.cells #[.int .i64 0, .int .i64 0, .bool false, .int .i64 ls.length, .int .i64 0, .map (some bl), .map (some w.heap.size), .slice none 0 0] 72)
    exact this
  · have := hm.lt; omega

theorem new_no (n : Int) (hn : n < 2 ∨ 4096 < n) (w : World) :
    Calls Try.prog 7 #[.int .i64 n] w fun e w' => e = .returned (.tuple #[.pointer none, .int .i64 2]) ∧ w = w' := by
  rcases hn with h | h
  · go_enter Try.func7, Try.ntmps7
    go_wp2
    go_ret2
    exact ⟨rfl, rfl⟩
  · have h' : 2 ≤ n := by omega
    go_enter Try.func7, Try.ntmps7
    go_wp2
    go_ret2
    exact ⟨rfl, rfl⟩
def NewPost (w : World) (n : Nat) (e : Ending) (w' : World) : Prop := ∃ B, e = .returned (.tuple #[ptr B, .int .i64 0]) ∧ IsDisk w.heap.size w' B (Dsk.new n) ∧ Below w.heap.size w w'
theorem new_yes (n : Nat) (h1 : 2 ≤ n) (h2 : n ≤ 4096) (w : World) :
    Calls Try.prog 7 #[.int .i64 n] w fun e w' => NewPost w n e w' := by
  have hmm := @run_makeMap Try.prog
  have hd : (decide ((4096 : Int) < n)) = false := by simp; omega
  have hd2 : (decide ((n : Int) < 2)) = false := by simp; omega
  have hm := IntMap.made (P := Try.prog) (kT := 3) w
  have hfin := stand_disk (n₀ := w.heap.size) (w := w.alloc (.map #[] 0)) (bl := w.heap.size) (fl := fun _ => none) (ls := List.replicate n noughts) (by simp) (Nat.le_refl _) hm (by simpa using h1) (by simpa using h2)
    (fun p hp => by simp only [List.length_replicate] at hp; simp only [List.getD, List.getElem?_replicate, if_pos hp, Option.getD_some]; exact noughts_len) (fun p hp => by simp only [List.length_replicate] at hp; simp [List.getD, List.getElem?_replicate, if_pos hp]) (fun _ _ => rfl)
  have HF := Lib.hid hfin
  clear hfin hm
  go_enter Try.func7, Try.ntmps7
  go_wp2_with (go_at_call 22; refine (standing_any n _ _).mono ?_; rintro e w' ⟨rfl, rfl⟩)
  go_ret2
  refine ⟨_, rfl, ?_, (((Below.refl _ w).alloc (Nat.le_refl _) _).alloc (by simp) _).alloc (by simp; omega) _⟩
  have := HF.out
  unfold Dsk.new
  simpa using this
end Go.Proofs.Ytkophpipehdkmaa
