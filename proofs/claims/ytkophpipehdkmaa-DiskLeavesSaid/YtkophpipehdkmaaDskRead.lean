/- Layer 2: Read. -/
import Derived.Test.YtkophpipehdkmaaDskFlush
namespace Go.Proofs.Ytkophpipehdkmaa
open Go.RowKit Go.Maps

def ReadPost (w : World) (l : Page) (e : Ending) (w' : World) : Prop := ∃ g, e = .returned (.tuple #[.slice (some ⟨g, 0, none⟩) 256 256, .int .i64 0]) ∧ PageAt w' g l ∧ w.heap.size ≤ g ∧ Below w.heap.size w w'
set_option maxRecDepth 100000 in
set_option maxHeartbeats 2000000 in
theorem read_yes {n₀ : Nat} {w : World} {B : Nat} {d : Dsk} (h : IsDisk n₀ w B d) (p : Nat) (hp : p < d.room) :
    Calls Try.prog 9 #[ptr B, .int .i64 p] w fun e w' => ReadPost w (d.page p) e w' := by
  have hBlt := h.lt
  have ht := there_disk h
  have hh := has_disk h p true (by simp; omega)
  obtain ⟨bl, bn, v, fl, h⟩ := h
  have c5 := h.cell 5
  have c6 := h.cell 6
  simp only [dskCells, List.getElem?_toArray, List.getElem?_cons_zero, List.getElem?_cons_succ] at c5 c6
  have hN := h.news
  have hL := h.last
  have hp2 : p ≤ 9223372036854775807 := by have := h.ok.hi; omega
  have hlen := h.ok.len p hp
  have hfl := h.fl_lo p hp
  have hwl : ∀ l, newest d.waits p = some l → l.length = 256 := fun l hl => newest_len (fun x hx => (h.ok.wait x hx).2) hl
  have tokN : True := trivial
  have tokA : True := trivial
  have tokS : True := trivial
  cases hn : newest d.waits p with
  | some l =>
    have e : d.page p = l := by unfold Dsk.page; rw [hn]; rfl
    rw [e]
    have hl := hwl l hn
    have e1 : pagesV (newest d.waits) p = some (pageV l) := by unfold pagesV; rw [hn]; rfl
    have H1 := Lib.hid e1
    have HL := Lib.hid hl
    clear hn e hwl hfl hlen e1 hl hp
    go_enter Try.func9, Try.ntmps9
    go_wp2_with (first
      | (go_at_call 26; refine ht.mono ?_; rintro e w' ⟨rfl, rfl⟩)
      | (go_at_call 27; refine hh.mono ?_; rintro e w' ⟨rfl, rfl⟩)
      | (have _t := tokN; refine wpList_look rfl _ _ true rfl Try.underlying3 Try.underlying59 zero77w hN rfl p hp2 rfl ?_; rw [H1.out]; simp only [Option.isSome_some, Option.getD_some, if_true]; clear tokN)
      | (have _t := tokA; refine wpList_alloc77 rfl rfl ?_; clear tokA)
      | (have _t := tokS; refine wpList_store77 rfl _ _ rfl noughts l noughts_len HL.out rfl rfl ?_; clear tokS))
    go_ret2
    exact ⟨_, rfl, PageAt.new' w l, Nat.le_refl _, (Below.refl _ w).alloc (Nat.le_refl _) _⟩
  | none =>
    have e : d.page p = d.lasts.getD p noughts := by unfold Dsk.page; rw [hn]; rfl
    rw [e]
    have e1 : pagesV (newest d.waits) p = none := by unfold pagesV; rw [hn]; rfl
    have e2 : (pagesV fl p).getD (pageV noughts) = pageV (d.lasts.getD p noughts) := by
      rw [← hfl]; unfold pagesV; cases fl p <;> rfl
    generalize d.lasts.getD p noughts = l at *
    have H1 := Lib.hid e1
    have H2 := Lib.hid e2
    have HL := Lib.hid hlen
    have tokL : True := trivial
    have tokT : True := trivial
    clear hn e hwl hfl hlen e1 e2 hp
    go_enter Try.func9, Try.ntmps9
    go_wp2_with (first
      | (go_at_call 26; refine ht.mono ?_; rintro e w' ⟨rfl, rfl⟩)
      | (go_at_call 27; refine hh.mono ?_; rintro e w' ⟨rfl, rfl⟩)
      | (have _t := tokN; refine wpList_look rfl _ _ true rfl Try.underlying3 Try.underlying59 zero77w hN rfl p hp2 rfl ?_; rw [H1.out]; simp only [Option.isSome_none, Option.getD_none, if_true]; clear tokN)
      | (have _t := tokA; refine wpList_alloc77 rfl rfl ?_; clear tokA)
      | (have _t := tokS; refine wpList_store77 rfl _ _ rfl noughts noughts noughts_len noughts_len rfl rfl ?_; clear tokS)
      | (have _t := tokL; refine wpList_look rfl _ _ false rfl Try.underlying3 Try.underlying59 zero77w (hL.alloc _) rfl p hp2 rfl ?_; simp only [H2.out, Bool.false_eq_true, if_false]; clear tokL)
      | (have _t := tokT; refine wpList_store77 rfl _ _ rfl noughts l noughts_len HL.out rfl rfl ?_; clear tokT))
    go_ret2
    exact ⟨_, rfl, PageAt.new' w l, Nat.le_refl _, (Below.refl _ w).alloc (Nat.le_refl _) _⟩
theorem read_no {n₀ : Nat} {w : World} {B : Nat} {d : Dsk} (h : IsDisk n₀ w B d) (p : Int) (hp : ¬(0 ≤ p ∧ p < d.room)) :
    Calls Try.prog 9 #[ptr B, .int .i64 p] w fun e w' => e = .returned (.tuple #[.slice none 0 0, .int .i64 4]) ∧ w = w' := by
  have ht := there_disk h
  have hh := has_disk h p false (by simpa using hp)
  clear hp
  go_enter Try.func9, Try.ntmps9
  go_wp2_with (first
    | (go_at_call 26; refine ht.mono ?_; rintro e w' ⟨rfl, rfl⟩)
    | (go_at_call 27; refine hh.mono ?_; rintro e w' ⟨rfl, rfl⟩))
  go_ret2
  exact ⟨rfl, rfl⟩
end Go.Proofs.Ytkophpipehdkmaa
