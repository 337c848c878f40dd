/- Layer 15: the law's known. -/
import Derived.Test.YtmbjdfmbbmeofaaDoorLgG
import Derived.Test.YtmbjdfmbbmeofaaDoorLgC
namespace Go.Proofs.YtmbjdfmbbmeofaaDoor
open Go.RowKit

theorem lg_conv (w : World) (ao : Option Addr) (l : List UInt8) (cap n₁ : Nat) (hm : BytesAt n₁ w ao l) : (convert 22 9 (.slice ao l.length cap)).run Tryd.prog w = .ok (.string ⟨l.toArray⟩) w := by
  cases l with
  | nil => cases ao <;> (simp [go_sem, convert, Conv.bytesToString]; try rfl)
  | cons x t =>
    obtain ⟨b, o, rfl, hb, hc⟩ := hm (by simp)
    generalize x :: t = l at hc
    have := run_convert_bytes_arg (P := Tryd.prog) (w := w) 22 5 Tryd.underlying22 Tryd.underlying5 b o l.length cap (l.map fun x => (x.toNat : Int)) (by simp) (fun i hi => by
      rw [hc i hi]
      simp [List.getD, hi]) 9 Tryd.underlying9
    rw [this]
    refine congrArg (fun s => Result.ok (Value.string s) w) ?_
    apply ByteArray.ext
    apply Array.toList_inj.1
    rw [strOfNums_data, List.map_map]
    show _ = l
    conv => rhs; rw [← List.map_id l]
    apply List.map_congr_left
    intro x _
    simp
theorem LgL.at {w : World} {base : Nat} {v : Value} {ls : List (List UInt8)} (h : LgL w base v ls) (j : Nat) (hj : j < ls.length) : ∃ g cap ao cp, v = .slice (some ⟨g, 0, none⟩) ls.length cap ∧ g < w.heap.size ∧ w.cell? ⟨g, j, none⟩ = some (.slice ao (ls.getD j []).length cp) ∧ BytesAt w.heap.size w ao (ls.getD j []) := by
  obtain ⟨xs, h1, h2⟩ := h
  have hlen : xs.length = ls.length := by have := h1.1; omega
  have h1' := h1
  rcases h1.2 with ⟨_, h0⟩ | ⟨g, cap, _, rfl, _⟩
  · omega
  obtain ⟨ao, cp, e, hm, -⟩ := (h2 j hj).form
  refine ⟨g, cap, ao, cp, rfl, (h1'.lt g rfl).2, ?_, hm⟩
  have := h1'.cellAt j (by omega)
  rw [this, List.getElem?_eq_getElem (by omega)]
  rw [← e]
  simp [List.getD, List.getElem?_eq_getElem (show j < xs.length by omega)]
theorem lk_all (w : World) (ht : LgTab w) (b c : Nat) (hb : b < w.heap.size) (h0 : w.cell? ⟨b, 0, none⟩ = some (.int .i64 0)) (h1 : w.cell? ⟨b, 1, none⟩ = some (.int .i64 127)) (h2 : w.cell? ⟨b, 2, none⟩ = some (.int .i64 128)) (h3 : w.cell? ⟨b, 3, none⟩ = some (.int .i64 268435455)) :
    Calls Tryd.prog 13 #[.slice (some ⟨b, 0, none⟩) 4 c] w fun e w' => ∃ a c', e = .returned (.tuple #[.slice a 8 c', .int .i64 0]) ∧ BytesAt w'.heap.size w' a [0, 127, 128, 1, 255, 255, 255, 127] ∧ Below w.heap.size w w' := by
  have hok : lgOk [0, 127, 128, 268435455] := fun n hn => by
    simp at hn
    rcases hn with rfl | rfl | rfl | rfl <;> exact ⟨by decide, by decide⟩
  refine (lgall_any (some ⟨b, 0, none⟩) [0, 127, 128, 268435455] c (by decide) w ht (fun _ => ⟨b, 0, rfl, hb, fun j hj => ?_⟩)).mono ?_
  · have hj' : j < 4 := hj
    have : j = 0 ∨ j = 1 ∨ j = 2 ∨ j = 3 := by omega
    rcases this with rfl | rfl | rfl | rfl
    · exact h0
    · exact h1
    · exact h2
    · exact h3
  · rintro e w' (⟨-, v, rfl, hO, hb⟩ | ⟨hno, -⟩)
    · obtain ⟨a, c', rfl, hm, -⟩ := hO.form
      exact ⟨a, c', rfl, hm, hb⟩
    · exact absurd hok hno
def lgOne1 : List UInt8 := [2, 97, 98, 3, 99]
theorem lg_split1 : lgSplit lgOne1 9 = ⟨0, [(1, 3)], 3⟩ := by kernel_rfl
theorem lg_split2 : lgSplit [5] 4 = ⟨3, [], 0⟩ := by kernel_rfl
theorem lk_split1 (w : World) (ht : LgTab w) (b c : Nat) (hm : BytesAt w.heap.size w (some ⟨b, 0, none⟩) lgOne1) (hc : 5 ≤ c) :
    Calls Tryd.prog 14 #[.slice (some ⟨b, 0, none⟩) 5 c, .int .i64 9] w fun e w' => ∃ g cap ao cp a2 c2, e = .returned (.tuple #[.slice (some ⟨g, 0, none⟩) 1 cap, .slice a2 2 c2, .int .i64 0]) ∧ g < w'.heap.size ∧ w'.cell? ⟨g, 0, none⟩ = some (.slice ao 2 cp) ∧ BytesAt w'.heap.size w' ao [97, 98] ∧ BytesAt w'.heap.size w' a2 [3, 99] ∧ Below w.heap.size w w' := by
  refine (lgSplit_any (some ⟨b, 0, none⟩) lgOne1 c (by decide) hc (fun e => by cases e) 9 (by decide) w hm ht).mono ?_
  rintro e w' ⟨hb, ⟨-, v, u, rfl, hL, hO⟩ | ⟨hno, -⟩⟩
  · rw [lg_split1] at hL hO
    have hL' : LgL w' w.heap.size v [[97, 98]] := hL
    have hO' : OwnB w' w.heap.size u [3, 99] := hO
    obtain ⟨g, cap, ao, cp, rfl, hg, hcell, hm1⟩ := hL'.at 0 (by decide)
    obtain ⟨a2, c2, rfl, hm2, -⟩ := hO'.form
    exact ⟨g, cap, ao, cp, a2, c2, rfl, hg, hcell, hm1, hm2, hb⟩
  · rw [lg_split1] at hno; exact absurd rfl hno
theorem lk_split2 (w : World) (ht : LgTab w) (b c : Nat) (hm : BytesAt w.heap.size w (some ⟨b, 0, none⟩) [5]) (hc : 1 ≤ c) :
    Calls Tryd.prog 14 #[.slice (some ⟨b, 0, none⟩) 1 c, .int .i64 4] w fun e w' => e = .returned (.tuple #[.slice none 0 0, .slice none 0 0, .int .i64 3]) ∧ Below w.heap.size w w' := by
  refine (lgSplit_any (some ⟨b, 0, none⟩) [5] c (by decide) hc (fun e => by cases e) 4 (by decide) w hm ht).mono ?_
  rintro e w' ⟨hb, ⟨hno, -⟩ | ⟨-, rfl⟩⟩
  · rw [lg_split2] at hno; cases hno
  · exact ⟨by rw [lg_split2]; rfl, hb⟩
theorem lk_read (b c : Nat) (l : List UInt8) (w : World) (ht : LgTab w) (hm : BytesAt w.heap.size w (some ⟨b, 0, none⟩) l) (m : Nat) (hl : l.length = m) (x y z : Nat) (h : lgRead l = (x, y, z)) :
    Calls Tryd.prog 11 #[.slice (some ⟨b, 0, none⟩) m c] w fun e w' => e = .returned (.tuple #[.int .i64 x, .int .i64 y, .int .i64 z]) ∧ w = w' := by
  subst hl
  refine (lgRead_any _ l c _ w hm ht).mono ?_
  rintro e w' ⟨rfl, rfl⟩
  exact ⟨by rw [h]; rfl, rfl⟩
theorem lg_row {w : World} {b : Nat} {l : List UInt8} {cs : Array Value} {T : TypeId} {fr : Nat × Nat} (h : w.heap[b]? = some (.cells cs T fr)) (hcs : ∀ j, j < l.length → cs[j]? = some (.int .u8 ((l[j]?.getD 0).toNat : Int))) : BytesAt w.heap.size w (some ⟨b, 0, none⟩) l := fun _ =>
  ⟨b, 0, rfl, (Array.getElem?_eq_some_iff.1 h).1, fun j hj => by rw [Nat.zero_add, cell_of_row w b j _ _ _ h]; exact hcs j hj⟩
def LgTrue (w : World) (e : Ending) (w' : World) : Prop := e = .returned (.bool true) ∧ Below w.heap.size w w'
set_option maxRecDepth 100000 in
set_option maxHeartbeats 2000000 in
theorem lg_known (w : World) (ht : LgTab w) : Calls Tryd.prog 7 #[] w fun e w' => LgTrue w e w' := by
  have h2 := ht.lt
  have HT := Lib.hid ht
  clear ht
  go_enter Tryd.func7, Tryd.ntmps7
  go_wp2_with fail
  obtain ⟨w1, hw1⟩ : ∃ w1, w.alloc (.cells #[.int .i64 0, .int .i64 127, .int .i64 128, .int .i64 268435455] 2) = w1 := ⟨_, rfl⟩
  have r1 : w1.heap[w.heap.size]? = some (.cells #[.int .i64 0, .int .i64 127, .int .i64 128, .int .i64 268435455] 2 (0, 0)) := by rw [← hw1]; exact World.alloc_heap_new w _
  have B1 := Lib.hid (show Below w.heap.size w w1 by rw [← hw1]; exact (Below.refl _ w).alloc (Nat.le_refl _) _)
  rw [hw1]
  refine (lk_all w1 (HT.out.below B1.out h2) w.heap.size 4 (Array.getElem?_eq_some_iff.1 r1).1 (cell_of_row w1 _ 0 _ _ _ r1) (cell_of_row w1 _ 1 _ _ _ r1) (cell_of_row w1 _ 2 _ _ _ r1) (cell_of_row w1 _ 3 _ _ _ r1)).mono ?_
  rintro e w2 ⟨a1, c1, rfl, m1, b2⟩
  have B2 := Lib.hid (show Below w.heap.size w w2 from B1.out.trans (b2.mono B1.out.size))
  have M2 := Lib.hid m1
  clear b2 hw1 r1 m1
  go_wp2_with fail
  obtain ⟨w3, hw3⟩ : ∃ w3, w2.alloc (.cells #[.int .u8 128] 5) = w3 := ⟨_, rfl⟩
  have r3 : w3.heap[w2.heap.size]? = some (.cells #[.int .u8 128] 5 (0, 0)) := by rw [← hw3]; exact World.alloc_heap_new w2 _
  have b3 : Below w2.heap.size w2 w3 := by rw [← hw3]; exact (Below.refl _ _).alloc (Nat.le_refl _) _
  have B3 := Lib.hid (show Below w.heap.size w w3 from B2.out.trans (b3.mono B2.out.size))
  have M3 := Lib.hid ((M2.out.below b3).mono b3.size)
  rw [hw3]
  refine (lk_read w2.heap.size 1 [128] w3 (HT.out.below B3.out h2) (lg_row r3 (fun j hj => by simp at hj; subst hj; rfl)) 1 rfl 0 0 0 (by decide)).mono ?_
  rintro e w' ⟨rfl, rfl⟩
  clear hw3 r3 b3 M2
  go_wp2_with fail
  obtain ⟨w4, hw4⟩ : ∃ w4, w3.alloc (.cells #[.int .u8 128, .int .u8 0] 5) = w4 := ⟨_, rfl⟩
  have r4 : w4.heap[w3.heap.size]? = some (.cells #[.int .u8 128, .int .u8 0] 5 (0, 0)) := by rw [← hw4]; exact World.alloc_heap_new w3 _
  have b4 : Below w3.heap.size w3 w4 := by rw [← hw4]; exact (Below.refl _ _).alloc (Nat.le_refl _) _
  have B4 := Lib.hid (show Below w.heap.size w w4 from B3.out.trans (b4.mono B3.out.size))
  have M4 := Lib.hid ((M3.out.below b4).mono b4.size)
  rw [hw4]
  refine (lk_read w3.heap.size 2 [128, 0] w4 (HT.out.below B4.out h2) (lg_row r4 (fun j hj => by
    have : j = 0 ∨ j = 1 := by simp at hj; omega
    rcases this with rfl | rfl <;> rfl)) 2 rfl 0 0 250 (by decide)).mono ?_
  rintro e w' ⟨rfl, rfl⟩
  clear hw4 r4 b4 M3
  go_wp2_with fail
  obtain ⟨w5, hw5⟩ : ∃ w5, w4.alloc (.cells #[.int .u8 2, .int .u8 97, .int .u8 98, .int .u8 3, .int .u8 99] 5) = w5 := ⟨_, rfl⟩
  have r5 : w5.heap[w4.heap.size]? = some (.cells #[.int .u8 2, .int .u8 97, .int .u8 98, .int .u8 3, .int .u8 99] 5 (0, 0)) := by rw [← hw5]; exact World.alloc_heap_new w4 _
  have b5 : Below w4.heap.size w4 w5 := by rw [← hw5]; exact (Below.refl _ _).alloc (Nat.le_refl _) _
  have B5 := Lib.hid (show Below w.heap.size w w5 from B4.out.trans (b5.mono B4.out.size))
  have M5 := Lib.hid ((M4.out.below b5).mono b5.size)
  rw [hw5]
  refine (lk_split1 w5 (HT.out.below B5.out h2) w4.heap.size 5 (lg_row r5 (fun j hj => by
    have hj' : j < 5 := hj
    have : j = 0 ∨ j = 1 ∨ j = 2 ∨ j = 3 ∨ j = 4 := by omega
    rcases this with rfl | rfl | rfl | rfl | rfl <;> rfl)) (Nat.le_refl _)).mono ?_
  rintro e w6 ⟨g, cap, ao, cp, a2, c2, rfl, hg, hcell, m1, m2, b6⟩
  have B6 := Lib.hid (show Below w.heap.size w w6 from B5.out.trans (b6.mono B5.out.size))
  have M6 := Lib.hid (And.intro ((M5.out.below b6).mono b6.size) (And.intro m1 (And.intro m2 (And.intro hg hcell))))
  clear hw5 r5 b5 M4 b6 m1 m2 hg hcell M5
  go_wp2_with fail
  obtain ⟨w7, hw7⟩ : ∃ w7, w6.alloc (.cells #[.int .u8 5] 5) = w7 := ⟨_, rfl⟩
  have r7 : w7.heap[w6.heap.size]? = some (.cells #[.int .u8 5] 5 (0, 0)) := by rw [← hw7]; exact World.alloc_heap_new w6 _
  have b7 : Below w6.heap.size w6 w7 := by rw [← hw7]; exact (Below.refl _ _).alloc (Nat.le_refl _) _
  have B7 := Lib.hid (show Below w.heap.size w w7 from B6.out.trans (b7.mono B6.out.size))
  rw [hw7]
  refine (lk_split2 w7 (HT.out.below B7.out h2) w6.heap.size 1 (lg_row r7 (fun j hj => by simp at hj; subst hj; rfl)) (Nat.le_refl _)).mono ?_
  rintro e w8 ⟨rfl, b8⟩
  have b9 : Below w6.heap.size w6 w8 := b7.trans (b8.mono b7.size)
  have B8 := Lib.hid (show Below w.heap.size w w8 from B6.out.trans (b9.mono B6.out.size))
  obtain ⟨n0, n1, n2, hg, hcell⟩ := M6.out
  have hc8 := (b9.cell (p := ⟨g, 0, none⟩) hg).trans hcell
  have k0 := lg_conv w8 a1 _ c1 _ (n0.below b9)
  have k1 := lg_conv w8 ao _ cp _ (n1.below b9)
  have k2 := lg_conv w8 a2 _ c2 _ (n2.below b9)
  simp only [List.length_cons, List.length_nil, Nat.reduceAdd] at k0 k1 k2
  clear hw7 r7 b7 b8 b9 M6 n0 n1 n2 hg hcell
  go_wp2
  go_ret
  exact ⟨rfl, B8.out⟩
end Go.Proofs.YtmbjdfmbbmeofaaDoor
