/- Layer 4: are two pages the same (the program's words and the document's); may a page be, in the document's words. -/
import Derived.MapKept
import Derived.Test.YtjfpgclaefbhjaaDoorPageA
namespace Go.Proofs.YtjfpgclaefbhjaaDoor
open Go.RowKit

def sameB (k t x : Int) (l : List UInt8) (k' t' x' : Int) (l' : List UInt8) : Bool := (k == k') && (t == t') && (x == x') && (l == l')
theorem ret_bool {a b : Bool} (h : a = b) : Ending.returned (.bool a) = .returned (.bool b) := by rw [h]
theorem equal_any (w : World) (n₁ : Nat) (a b : Option Addr) (l m : List UInt8) (c d : Nat) (ha : BytesAt n₁ w a l) (hb : BytesAt n₁ w b m) :
    Calls Tryd.prog 28 #[.slice a l.length c, .slice b m.length d] w fun e w' => e = .returned (.bool (l == m)) ∧ w = w' := by
  have h1 := conv_at w a l c n₁ ha
  have h2 := conv_at w b m d n₁ hb
  clear ha hb
  go_enter Tryd.func28, Tryd.ntmps28
  go_wp2
  go_ret
  exact ⟨rfl, rfl⟩
set_option maxHeartbeats 1000000 in
theorem right_any (k t x : Int) (a : Option Addr) (n c : Nat) (w : World) (hn : n ≤ 9223372036854775807) : Calls Tryd.prog 11 #[pgv k t x a n c] w fun e w' => e = .returned (.bool (rightB k t x n)) ∧ Below w.heap.size w w' := by
  have hb : Below w.heap.size w (w.alloc (.cells #[.int .i64 k, .int .i64 t, .int .i64 x, .slice a n c] 25)) := (Below.refl _ _).alloc (Nat.le_refl _) _
  have HB := Lib.hid hb
  clear hb
  go_enter Tryd.func11, Tryd.ntmps11
  go_wp2
  all_goals
    go_ret
    refine ⟨ret_bool ?_, HB.out⟩
    clear HB
    rw [Bool.eq_iff_iff]
    simp [rightB, kindB, numB]
    try omega
set_option maxRecDepth 100000 in
theorem psame_any (w : World) (n₁ : Nat) (hn : n₁ ≤ w.heap.size) (k t x : Int) (a : Option Addr) (l : List UInt8) (c : Nat) (k' t' x' : Int) (b : Option Addr) (m : List UInt8) (d : Nat) (ha : BytesAt n₁ w a l) (hb : BytesAt n₁ w b m) :
    Calls Tryd.prog 16 #[pgv k t x a l.length c, pgv k' t' x' b m.length d] w fun e w' => e = .returned (.bool (sameB k t x l k' t' x' m)) ∧ Below w.heap.size w w' := by
  have hbw : Below w.heap.size w ((w.alloc (.cells #[.int .i64 k, .int .i64 t, .int .i64 x, .slice a l.length c] 25)).alloc (.cells #[.int .i64 k', .int .i64 t', .int .i64 x', .slice b m.length d] 25)) := ((Below.refl _ _).alloc (Nat.le_refl _) _).alloc (by simp) _
  have HA := Lib.hid (ha.below (hbw.mono hn))
  have HC := Lib.hid (hb.below (hbw.mono hn))
  have HB := Lib.hid hbw
  clear hbw ha hb
  by_cases hk : k = k'
  case neg =>
    have e : (k == k') = false := by simpa using hk
    rw [show sameB k t x l k' t' x' m = false by simp [sameB, e]]
    clear hk
    go_enter Tryd.func16, Tryd.ntmps16
    go_wp2_with (go_at_call 28; refine (equal_any _ n₁ _ _ l m _ _ HA.out HC.out).mono ?_; rintro e w' ⟨rfl, rfl⟩)
    go_ret
    exact ⟨rfl, HB.out⟩
  subst hk
  by_cases ht : t = t'
  case neg =>
    have e : (t == t') = false := by simpa using ht
    rw [show sameB k t x l k t' x' m = false by simp [sameB, e]]
    clear ht
    go_enter Tryd.func16, Tryd.ntmps16
    go_wp2_with (go_at_call 28; refine (equal_any _ n₁ _ _ l m _ _ HA.out HC.out).mono ?_; rintro e w' ⟨rfl, rfl⟩)
    go_ret
    exact ⟨rfl, HB.out⟩
  subst ht
  by_cases hx : x = x'
  case neg =>
    have e : (x == x') = false := by simpa using hx
    rw [show sameB k t x l k t x' m = false by simp [sameB, e]]
    clear hx
    go_enter Tryd.func16, Tryd.ntmps16
    go_wp2_with (go_at_call 28; refine (equal_any _ n₁ _ _ l m _ _ HA.out HC.out).mono ?_; rintro e w' ⟨rfl, rfl⟩)
    go_ret
    exact ⟨rfl, HB.out⟩
  subst hx
  rw [show sameB k t x l k t x m = (l == m) by simp [sameB]]
  go_enter Tryd.func16, Tryd.ntmps16
  go_wp2_with (go_at_call 28; refine (equal_any _ n₁ _ _ l m _ _ HA.out HC.out).mono ?_; rintro e w' ⟨rfl, rfl⟩)
  go_ret
  exact ⟨rfl, HB.out⟩
set_option maxRecDepth 100000 in
theorem rsame_any (w : World) (n₁ : Nat) (hn : n₁ ≤ w.heap.size) (k t x : Int) (a : Option Addr) (l : List UInt8) (c : Nat) (k' t' x' : Int) (b : Option Addr) (m : List UInt8) (d : Nat) (ha : BytesAt n₁ w a l) (hb : BytesAt n₁ w b m) :
    Calls Tryd.prog 15 #[pgv k t x a l.length c, pgv k' t' x' b m.length d] w fun e w' => e = .returned (.bool (sameB k t x l k' t' x' m)) ∧ Below w.heap.size w w' := by
  have hbw : Below w.heap.size w ((w.alloc (.cells #[.int .i64 k, .int .i64 t, .int .i64 x, .slice a l.length c] 25)).alloc (.cells #[.int .i64 k', .int .i64 t', .int .i64 x', .slice b m.length d] 25)) := ((Below.refl _ _).alloc (Nat.le_refl _) _).alloc (by simp) _
  have h1 := conv_at _ a l c n₁ (ha.below (hbw.mono hn))
  have h2 := conv_at _ b m d n₁ (hb.below (hbw.mono hn))
  have HB := Lib.hid hbw
  clear hbw ha hb
  by_cases hk : k = k'
  case neg =>
    have e : (k == k') = false := by simpa using hk
    rw [show sameB k t x l k' t' x' m = false by simp [sameB, e]]
    clear hk
    go_enter Tryd.func15, Tryd.ntmps15
    go_wp2
    go_ret
    exact ⟨rfl, HB.out⟩
  subst hk
  by_cases ht : t = t'
  case neg =>
    have e : (t == t') = false := by simpa using ht
    rw [show sameB k t x l k t' x' m = false by simp [sameB, e]]
    clear ht
    go_enter Tryd.func15, Tryd.ntmps15
    go_wp2
    go_ret
    exact ⟨rfl, HB.out⟩
  subst ht
  by_cases hx : x = x'
  case neg =>
    have e : (x == x') = false := by simpa using hx
    rw [show sameB k t x l k t x' m = false by simp [sameB, e]]
    clear hx
    go_enter Tryd.func15, Tryd.ntmps15
    go_wp2
    go_ret
    exact ⟨rfl, HB.out⟩
  subst hx
  rw [show sameB k t x l k t x m = (l == m) by simp [sameB]]
  go_enter Tryd.func15, Tryd.ntmps15
  go_wp2
  go_ret
  exact ⟨rfl, HB.out⟩
end Go.Proofs.YtjfpgclaefbhjaaDoor
