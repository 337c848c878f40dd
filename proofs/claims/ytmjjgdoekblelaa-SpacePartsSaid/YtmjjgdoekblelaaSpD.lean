/- Layer 7: the pages one by one, and those of some places. -/
import Derived.RangeFuncBox
import Derived.RangeFuncNested
import Derived.RangeFuncBound
import Derived.RangeFuncCalls
import Derived.RangeFuncLeaves
import Derived.Shelf.Abstract
import Derived.Shelf.RegionOpen
import Derived.OwnWalkIn
import Derived.TacticsInMore
import Derived.LoopNIn
import Derived.LoopIn
import Derived.Maps.AppendAt
import Derived.Test.YtmjjgdoekblelaaKit
import Derived.Test.YtmjjgdoekblelaaSpC
namespace Go.Proofs.Ytmjjgdoekblelaa
open Go.RowKit Go.Shelf

attribute [local go_sem] Oper.semAt_some

/-- In block g lie these places. -/
def PlAt (W : World) (g : Nat) (ls : List Nat) : Prop := ∀ j, j < ls.length → W.cell? ⟨g, j, none⟩ = some (.int .i64 (ls[j]?.getD 0 : Nat))
theorem PlAt.below {A B : World} {n g : Nat} {ls : List Nat} (h : PlAt A g ls) (hb : Below n A B) (hg : g < n) : PlAt B g ls := fun j hj => (hb.cell (p := ⟨g, j, none⟩) hg).trans (h j hj)
def IdxPost (w : World) (ls : List Nat) (p : Nat) (e : Ending) (w' : World) : Prop := w = w' ∧ ∃ r : Int, e = .returned (.int .i64 r) ∧ decide (0 ≤ r) = ls.contains p
theorem contains_take {ls : List Nat} {k p : Nat} (hk : k < ls.length) (h : (ls.take k).contains p = false) (hne : ls[k]?.getD 0 ≠ p) : (ls.take (k + 1)).contains p = false := by
  rw [List.take_succ_eq_append_getElem hk]
  simp only [List.contains_eq_mem, List.mem_append, List.mem_singleton, decide_eq_false_iff_not, not_or] at h ⊢
  refine ⟨h, fun e => hne ?_⟩
  rw [List.getElem?_eq_getElem hk]; exact e.symm
set_option maxRecDepth 100000 in
theorem index_any (g : Nat) (ls : List Nat) (cap p : Nat) (w : World) (hl : ls.length ≤ 9223372036854775807) (h : PlAt w g ls) :
    Calls Try.prog 42 #[.slice (some ⟨g, 0, none⟩) ls.length cap, .int .i64 p] w fun e w' => IdxPost w ls p e w' := by
  go_enter Try.func42, Try.ntmps42
  go_wp2
  go_loopw [5, 8, 9, 10, 11, 12, 13, 14, 15, 16, 17, 18] (fun _ x _ _ _ _ _ _ _ _ _ _ wr => ∃ k : Nat, x = .int .i64 k ∧ k ≤ ls.length ∧ (ls.take k).contains p = false ∧ wr = w)
    (fun _ x _ _ _ _ _ _ _ _ _ _ _ => ls.length - (intOf x).toNat)
  case atStart => exact ⟨0, rfl, Nat.zero_le _, by simp, rfl⟩
  case round =>
    obtain ⟨k, rfl, hk, hno, rfl⟩ := hrel
    by_cases hlt : k < ls.length
    · have hc := h k hlt
      obtain ⟨q, hq⟩ : ∃ q, ls[k]?.getD 0 = q := ⟨_, rfl⟩
      rw [hq] at hc
      have HN := Lib.hid hno
      have HQ := Lib.hid hq
      clear hno hq h
      by_cases he : q = p
      · subst he
        go_wp2
        go_ret
        refine ⟨rfl, k, rfl, ?_⟩
        have hm : q ∈ ls := by rw [← HQ.out, List.getElem?_eq_getElem hlt]; exact List.getElem_mem hlt
        simp [hm]
      · have hpq : ((p : Int) == q) = false := by simp; omega
        go_wp2
        go_roundw
        case rel => exact ⟨k + 1, by go_num, by omega, contains_take hlt HN.out (by rw [HQ.out]; exact he), trivial⟩
        case measure => simp [intOf]; omega
    · obtain rfl : k = ls.length := by omega
      have HN := Lib.hid hno
      clear hno h
      go_wp2
      go_ret
      refine ⟨rfl, -1, rfl, ?_⟩
      have := HN.out
      rw [List.take_length] at this
      rw [this]; rfl
theorem contains_any (g : Nat) (ls : List Nat) (cap p : Nat) (w : World) (hl : ls.length ≤ 9223372036854775807) (h : PlAt w g ls) :
    Calls Try.prog 40 #[.slice (some ⟨g, 0, none⟩) ls.length cap, .int .i64 p] w fun e w' => e = .returned (.bool (ls.contains p)) ∧ w = w' := by
  have hi := index_any g ls cap p w hl h
  have HI := Lib.hid hi
  clear hi h
  generalize hb : ls.contains p = b
  have HB := Lib.hid hb
  clear hb
  go_enter Try.func40, Try.ntmps40
  go_wp2_with (go_at_call 42; refine HI.out.mono ?_; rintro e w' ⟨rfl, r, rfl, hr⟩; rw [HB.out] at hr; subst hr)
  go_ret
  exact ⟨by simp, rfl⟩
end Go.Proofs.Ytmjjgdoekblelaa
