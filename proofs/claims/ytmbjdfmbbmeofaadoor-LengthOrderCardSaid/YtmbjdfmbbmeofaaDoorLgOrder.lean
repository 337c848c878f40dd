/- Layer 15: LengthOrder. -/
import Derived.Test.YtmbjdfmbbmeofaaDoorLgH
import Derived.Test.YtmbjdfmbbmeofaaDoorLgI
namespace Go.Proofs.YtmbjdfmbbmeofaaDoor
open Go.RowKit

theorem lgSize_mono {a b : Nat} (h : a ≤ b) : lgSize a ≤ lgSize b := by
  unfold lgSize
  split <;> (try split) <;> (try split) <;> (try split) <;> (try split) <;> (try split) <;> omega
theorem lg_two (w : World) (ht : LgTab w) (b c : Nat) (x y : Int) (hb : b < w.heap.size) (h0 : w.cell? ⟨b, 0, none⟩ = some (.int .i64 x)) (h1 : w.cell? ⟨b, 1, none⟩ = some (.int .i64 y)) :
    Calls Tryd.prog 13 #[.slice (some ⟨b, 0, none⟩) 2 c] w fun e w' => AllPost w [x, y] e w' := by
  refine lgall_any (some ⟨b, 0, none⟩) [x, y] c (by simp) w ht (fun _ => ⟨b, 0, rfl, hb, fun j hj => ?_⟩)
  have hj' : j < 2 := hj
  have : j = 0 ∨ j = 1 := by omega
  rcases this with rfl | rfl
  · exact h0
  · exact h1
set_option maxRecDepth 100000 in
set_option maxHeartbeats 1000000 in
theorem lengthOrder_bad (x y : Int) (w : World) (ht : LgTab w) (h : ¬ (lgMay x ∧ lgMay y)) :
    Calls Tryd.prog 6 #[.int .i64 x, .int .i64 y] w fun e w' => LgTrue w e w' := by
  have HT := Lib.hid ht
  have HX := Lib.hid (size_any x w ht)
  have HY := Lib.hid (size_any y w ht)
  have hlt := ht.lt
  have hno : ¬ lgOk [x, y] := fun h2 => h ⟨h2 x (by simp), h2 y (by simp)⟩
  have HNO := Lib.hid hno
  have hz : lgSz x = 0 ∨ lgSz x ≠ 0 ∧ lgSz y = 0 := by
    unfold lgMay at h
    rcases Int.lt_or_le x 0 with h1 | h1
    · exact .inl (lgSz_no (.inl h1))
    rcases Int.lt_or_le 268435455 x with h2 | h2
    · exact .inl (lgSz_no (.inr h2))
    refine .inr ⟨?_, lgSz_no (by omega)⟩
    obtain ⟨m, rfl⟩ : ∃ m : Nat, x = m := ⟨x.toNat, by omega⟩
    rw [lgSz_nat (by omega)]
    have := lgSize_pos m
    omega
  generalize lgSz x = sx at *
  generalize lgSz y = sy at *
  have hz2 : (sx == 0) = true ∨ (sx == 0) = false ∧ (sy == 0) = true := by
    rcases hz with h1 | ⟨h1, h2⟩
    · exact .inl (by simpa using h1)
    · exact .inr ⟨by simpa using h1, by simpa using h2⟩
  clear ht h hno hz
  rcases hz2 with hz | ⟨hz, hz2⟩
  all_goals
    go_enter Tryd.func6, Tryd.ntmps6
    go_wp2_with fail
    refine HX.out.mono ?_
    rintro e w' ⟨rfl, rfl⟩
    go_wp2_with fail
    refine HY.out.mono ?_
    rintro e w' ⟨rfl, rfl⟩
    go_wp2_with fail
    obtain ⟨w1, hw1⟩ : ∃ w1, w.alloc (.cells #[.int .i64 x, .int .i64 y] 2) = w1 := ⟨_, rfl⟩
    have r1 : w1.heap[w.heap.size]? = some (.cells #[.int .i64 x, .int .i64 y] 2 (0, 0)) := by rw [← hw1]; exact World.alloc_heap_new w _
    have B1 := Lib.hid (show Below w.heap.size w w1 by rw [← hw1]; exact (Below.refl _ w).alloc (Nat.le_refl _) _)
    rw [hw1]
    refine (lg_two w1 (HT.out.below B1.out hlt) w.heap.size 2 x y (Array.getElem?_eq_some_iff.1 r1).1 (cell_of_row w1 _ 0 _ _ _ r1) (cell_of_row w1 _ 1 _ _ _ r1)).mono ?_
    rintro e w2 (⟨hok, -⟩ | ⟨-, rfl, b2⟩)
    · exact absurd hok HNO.out
    have B2 := Lib.hid (show Below w.heap.size w w2 from B1.out.trans (b2.mono B1.out.size))
    clear hw1 r1 b2
    go_wp2_with fail
    refine (lg_known w2 (HT.out.below B2.out hlt)).mono ?_
    rintro e w3 ⟨rfl, b3⟩
    have B3 := Lib.hid (show Below w.heap.size w w3 from B2.out.trans (b3.mono B2.out.size))
    clear b3
    go_wp2
    go_ret
    exact ⟨rfl, B3.out⟩
/-- How many bytes a number needs, seven bits in each. -/
theorem lg_want {m j : Nat} (h : m ≤ 268435455) (hj : j < lgSize m) : (0 < m / 128 / 128 ^ j) ↔ j + 1 < lgSize m := by
  rw [Nat.div_div_eq_div_mul, ← lgNext_more h j hj, Nat.mul_comm, ← Nat.div_div_eq_div_mul]
  omega
set_option maxRecDepth 100000 in
set_option maxHeartbeats 1000000 in
theorem lengthOrder_good (x y : Nat) (hx : x ≤ 268435455) (hy : y ≤ 268435455) (w : World) (ht : LgTab w) :
    Calls Tryd.prog 6 #[.int .i64 x, .int .i64 y] w fun e w' => LgTrue w e w' := by
  have HT := Lib.hid ht
  have hlt := ht.lt
  have hX := size_any (x : Int) w ht
  have hY := size_any (y : Int) w ht
  rw [lgSz_nat hx] at hX
  rw [lgSz_nat hy] at hY
  have HX := Lib.hid hX
  have HY := Lib.hid hY
  have hok : lgOk [(x : Int), (y : Int)] := fun n hn => by
    simp at hn
    rcases hn with rfl | rfl
    · exact ⟨by omega, by omega⟩
    · exact ⟨by omega, by omega⟩
  have hlen : (lgAll [(x : Int), (y : Int)]).length = lgSize x + lgSize y := by simp [lgAll, lgRaw_len]
  have HOK := Lib.hid (And.intro hok hlen)
  have HWN := Lib.hid (fun j => lg_want (m := x) (j := j) hx)
  have hs := lgSize_pos x
  have hs2 := lgSize_pos y
  have hmo : x ≤ y → lgSize x ≤ lgSize y := lgSize_mono
  generalize lgSize x = sx at *
  generalize lgSize y = sy at *
  have hz1 : ((sx : Int) == 0) = false := by simp; omega
  have hz2 : ((sy : Int) == 0) = false := by simp; omega
  clear ht hX hY hok hlen
  have hcase : (x ≤ y ∧ ¬ sy < sx) ∨ ¬ x ≤ y := by
    rcases Nat.lt_or_ge y x with h | h
    · exact .inr (by omega)
    · exact .inl ⟨h, by have := hmo h; omega⟩
  clear hmo
  rcases hcase with ⟨hc1, hc2⟩ | hc1
  all_goals
    first
      | (have hd1 : (x : Int) ≤ (y : Int) := by omega
         have hd2 : ¬ (sy : Int) < (sx : Int) := by omega)
      | (have hd1 : ¬ (x : Int) ≤ (y : Int) := by omega)
    go_enter Tryd.func6, Tryd.ntmps6
    go_wp2_with fail
    refine HX.out.mono ?_
    rintro e w' ⟨rfl, rfl⟩
    go_wp2_with fail
    refine HY.out.mono ?_
    rintro e w' ⟨rfl, rfl⟩
    go_wp2_with fail
    obtain ⟨w1, hw1⟩ : ∃ w1, w.alloc (.cells #[.int .i64 (x : Int), .int .i64 (y : Int)] 2) = w1 := ⟨_, rfl⟩
    have r1 : w1.heap[w.heap.size]? = some (.cells #[.int .i64 (x : Int), .int .i64 (y : Int)] 2 (0, 0)) := by rw [← hw1]; exact World.alloc_heap_new w _
    have B1 := Lib.hid (show Below w.heap.size w w1 by rw [← hw1]; exact (Below.refl _ w).alloc (Nat.le_refl _) _)
    rw [hw1]
    refine (lg_two w1 (HT.out.below B1.out hlt) w.heap.size 2 x y (Array.getElem?_eq_some_iff.1 r1).1 (cell_of_row w1 _ 0 _ _ _ r1) (cell_of_row w1 _ 1 _ _ _ r1)).mono ?_
    rintro e w2 (⟨-, v, rfl, hO, b2⟩ | ⟨hno, -⟩)
    rotate_left
    · exact absurd HOK.out.1 hno
    obtain ⟨ao, cp, hv, -⟩ := hO.form
    rw [HOK.out.2] at hv
    subst hv
    have B2 := Lib.hid (show Below w.heap.size w w2 from B1.out.trans (b2.mono B1.out.size))
    clear hw1 r1 b2 hO
    go_wp2
    go_loop [11, 12, 52, 53, 54, 55, 56, 57] (fun n z _ _ _ _ _ _ => ∃ j : Nat, z = .int .i64 ((x / 128 / 128 ^ j : Nat) : Int) ∧ j < sx ∧ n = .int .i64 ((j + 1 : Nat) : Int)) (fun _ z _ _ _ _ _ _ => (intOf z).toNat)
    case atStart => exact ⟨0, by simp, by omega, rfl⟩
    case round =>
      obtain ⟨j, rfl, hj, rfl⟩ := hrel
      have hwn := HWN.out j hj
      have hdv : x / 128 / 128 ^ j / 128 = x / 128 / 128 ^ (j + 1) := by rw [Nat.div_div_eq_div_mul, Nat.pow_succ]
      have HD := Lib.hid hdv
      have hzb : x / 128 / 128 ^ j ≤ 268435455 := Nat.le_trans (Nat.div_le_self _ _) (Nat.le_trans (Nat.div_le_self _ _) hx)
      generalize x / 128 / 128 ^ j = z at *
      by_cases h0 : 0 < z
      · have h1 : (0 : Int) < z := by omega
        have hj2 := hwn.1 h0
        clear hwn hdv
        go_wp2
        go_round
        case rel => exact ⟨j + 1, by rw [← HD.out]; go_num, hj2, by go_num⟩
        case measure => simp [intOf]; omega
      · have h1 : ¬ (0 : Int) < z := by omega
        have hj2 : sx = j + 1 := by have := mt hwn.2 h0; omega
        have hq : ((sx : Int) == ((j + 1 : Nat) : Int)) = true := by simp; omega
        clear hwn hdv
        go_wp2_with fail
        refine (lg_known w2 (HT.out.below B2.out hlt)).mono ?_
        rintro e w3 ⟨rfl, b3⟩
        have B3 := Lib.hid (show Below w.heap.size w w3 from B2.out.trans (b3.mono B2.out.size))
        clear b3
        go_wp2
        go_ret
        exact ⟨rfl, B3.out⟩
theorem lengthOrder_any (x y : Int) (w : World) (ht : LgTab w) : Calls Tryd.prog 6 #[.int .i64 x, .int .i64 y] w fun e w' => LgTrue w e w' := by
  by_cases h : lgMay x ∧ lgMay y
  · obtain ⟨⟨h1, h2⟩, h3, h4⟩ := h
    obtain ⟨m, rfl⟩ : ∃ m : Nat, x = m := ⟨x.toNat, by omega⟩
    obtain ⟨n, rfl⟩ : ∃ n : Nat, y = n := ⟨y.toNat, by omega⟩
    exact lengthOrder_good m n (by omega) (by omega) w ht
  · exact lengthOrder_bad x y w ht h
end Go.Proofs.YtmbjdfmbbmeofaaDoor
