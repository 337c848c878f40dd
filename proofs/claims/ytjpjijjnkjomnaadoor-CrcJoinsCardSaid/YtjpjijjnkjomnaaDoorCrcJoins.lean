/- The contract of CrcJoins: sums of two runs joined are the sum of both, and three runs may be joined either way. -/
import Derived.WalkKit
import Derived.Outline
import Derived.LoopTactic
import Derived.Lib.Hide
import Derived.Test.YtjpjijjnkjomnaaDoorBytes
import Derived.Test.YtjpjijjnkjomnaaDoorCrcRef
import Derived.Test.YtjpjijjnkjomnaaDoorCrcKnown
namespace Go.Proofs.YtjpjijjnkjomnaaDoor
open Go.RowKit

/-- Join, as sums have it. -/
theorem joinSum_any (x y : List UInt8) (n : Nat) (hn : n = y.length) (hy : y.length ≤ 1099511627776) (w : World) (ht : Tab w) (h1w : 1 ≤ w.heap.size) :
    Calls Tryd.prog 20 #[.int .u32 (crcSum x : Int), .int .u32 (crcSum y : Int), .int .i64 n] w fun e w' => e = .returned (.tuple #[.int .u32 (crcSum (x ++ y) : Int), .int .i64 0]) ∧ Below w.heap.size w w' := by
  subst hn
  rw [crcSum_append]
  exact join_any _ _ _ (crcSum_lt x) (crcSum_lt y) hy w ht h1w

theorem joins_cases {W : World} {base : Nat} {v : Value} {x y z : List UInt8} (h : OwnB W base v (x ++ y ++ z)) :
    (v = .slice none 0 0 ∧ x = [] ∧ y = [] ∧ z = []) ∨ ∃ g cap, v = .slice (some ⟨g, 0, none⟩) (x ++ y ++ z).length cap ∧ x.length + y.length ≤ cap ∧ cap ≤ 9223372036854775807 ∧ BytesAt W.heap.size W (some ⟨g, 0, none⟩) (x ++ y ++ z) := by
  rcases h.bytes with ⟨rfl, hn⟩ | ⟨g, cap, rfl, _, _, h1, h2, h3, _⟩
  · simp at hn
    exact .inl ⟨rfl, hn.1, hn.2.1, hn.2.2⟩
  · exact .inr ⟨g, cap, rfl, by simp at h1; omega, h2, h3⟩

set_option maxHeartbeats 4000000 in
set_option maxRecDepth 100000 in
theorem crcJoins_any (ax ay az : Option Addr) (cx cy cz : Nat) (x y z : List UInt8) (hx : x.length ≤ 9223372036854775807) (hy : y.length ≤ 9223372036854775807) (hz : z.length ≤ 9223372036854775807)
    (nx : ax = none → cx = 0) (ny : ay = none → cy = 0) (nz : az = none → cz = 0) (kx : x.length ≤ cx) (ky : y.length ≤ cy) (kz : z.length ≤ cz)
    (w : World) (ht : Tab w) (h1w : 1 ≤ w.heap.size) (bx : BytesAt w.heap.size w ax x) (by' : BytesAt w.heap.size w ay y) (bz : BytesAt w.heap.size w az z) :
    Calls Tryd.prog 4 #[.slice ax x.length cx, .slice ay y.length cy, .slice az z.length cz] w fun e w' => e = .returned (.bool true) ∧ Below w.heap.size w w' := by
  have hk := known_any w ht h1w
  have Nx := Lib.hid nx
  have Ny := Lib.hid ny
  have Nz := Lib.hid nz
  clear nx ny nz
  by_cases h1 : 1000 < x.length
  · go_enter Tryd.func4, Tryd.ntmps4
    go_wp2_with (go_at_call 10; refine hk.mono ?_; rintro e w' ⟨rfl, hb⟩)
    go_ret
    exact ⟨rfl, hb⟩
  by_cases h2 : 1000 < y.length
  · go_enter Tryd.func4, Tryd.ntmps4
    go_wp2_with (go_at_call 10; refine hk.mono ?_; rintro e w' ⟨rfl, hb⟩)
    go_ret
    exact ⟨rfl, hb⟩
  by_cases h3 : 1000 < z.length
  · go_enter Tryd.func4, Tryd.ntmps4
    go_wp2_with (go_at_call 10; refine hk.mono ?_; rintro e w' ⟨rfl, hb⟩)
    go_ret
    exact ⟨rfl, hb⟩
  clear hk
  have r1 := refSum_any w.heap.size ax cx x (by omega) w bx
  have r2 := refSum_any w.heap.size ay cy y (by omega) w by'
  have r3 := refSum_any w.heap.size az cz z (by omega) w bz
  have j1 := joinSum_any x y y.length rfl (by omega)
  have j2 := joinSum_any y z z.length rfl (by omega)
  have j3 := joinSum_any (x ++ y) z z.length rfl (by omega)
  have j4 := joinSum_any x (y ++ z) (y.length + z.length) (by simp) (by simp; omega)
  rw [← List.append_assoc] at j4
  have S1 : Hid (crcSum (x ++ y) = crcSum (x ++ y)) := rfl
  obtain ⟨qa, hqa⟩ : ∃ q, crcSum x = q := ⟨_, rfl⟩
  obtain ⟨qb, hqb⟩ : ∃ q, crcSum y = q := ⟨_, rfl⟩
  obtain ⟨qc, hqc⟩ : ∃ q, crcSum z = q := ⟨_, rfl⟩
  obtain ⟨qm, hqm⟩ : ∃ q, crcSum (x ++ y) = q := ⟨_, rfl⟩
  obtain ⟨qn, hqn⟩ : ∃ q, crcSum (y ++ z) = q := ⟨_, rfl⟩
  obtain ⟨qo, hqo⟩ : ∃ q, crcSum (x ++ y ++ z) = q := ⟨_, rfl⟩
  rw [hqa] at r1 j1 j4
  rw [hqb] at r2 j1 j2
  rw [hqc] at r3 j2 j3
  rw [hqm] at j1 j3
  rw [hqn] at j2 j4
  rw [hqo] at j3 j4
  have HM := Lib.hid hqm
  have HO := Lib.hid hqo
  clear hqa hqb hqc hqm hqn hqo S1
  go_enter Tryd.func4, Tryd.ntmps4
  go_wp2_with fail
  refine r1.mono ?_; rintro e w' ⟨rfl, rfl⟩
  go_wp2_with fail
  refine r2.mono ?_; rintro e w' ⟨rfl, rfl⟩
  go_wp2_with fail
  refine r3.mono ?_; rintro e w' ⟨rfl, rfl⟩
  clear r1 r2 r3
  go_wp2_with fail
  refine (j1 w ht h1w).mono ?_; rintro e W1 ⟨rfl, b1⟩
  have B1 := Lib.hid b1
  clear b1 j1
  go_wp2_with fail
  refine (j2 W1 (ht.below h1w B1.out) (Nat.le_trans h1w B1.out.size)).mono ?_; rintro e W2 ⟨rfl, b2⟩
  have B2 := Lib.hid (B1.out.trans (b2.mono B1.out.size))
  clear b2 j2 B1
  go_wp2_with fail
  refine (j3 W2 (ht.below h1w B2.out) (Nat.le_trans h1w B2.out.size)).mono ?_; rintro e W3 ⟨rfl, b3⟩
  have B3 := Lib.hid (B2.out.trans (b3.mono B2.out.size))
  clear b3 j3 B2
  go_wp2_with fail
  refine (j4 W3 (ht.below h1w B3.out) (Nat.le_trans h1w B3.out.size)).mono ?_; rintro e W4 ⟨rfl, b4⟩
  have B4 := Lib.hid (B3.out.trans (b4.mono B3.out.size))
  clear b4 j4 B3
  have x4 := bx.below B4.out
  have y4 := by'.below B4.out
  have z4 := bz.below B4.out
  have O0 := OwnB.nil W4 W4.heap.size
  have q1 : ([] : List UInt8).length + x.length ≤ 1099511627776 := by simp; omega
  have q2 : x.length + y.length ≤ 1099511627776 := by omega
  have q3 : (x ++ y).length + z.length ≤ 1099511627776 := by simp; omega
  go_wp2_with (first
    | (at_builtin; refine wpList_append_bytes rfl (.const (.slice none 0 0)) (.tmp 74) rfl W4.heap.size w.heap.size (.slice none 0 0) [] rfl O0 ax x cx rfl Nx.out kx x4 q1 (Nat.le_refl _) ?_; intro v1 w1 O1 g1; simp only [List.nil_append] at O1; have b1 := Lib.hid (O0.grown g1 B4.out B4.out.size B4.out.size); have s1 := (O0.grown g1 (Below.refl W4.heap.size W4) (Nat.le_refl _) (Nat.le_refl _)).size; have y5 := by'.below b1.out; clear g1)
    | (at_builtin; refine wpList_append_bytes rfl (.tmp 75) (.tmp 76) rfl W4.heap.size w.heap.size v1 _ rfl O1 ay y cy rfl Ny.out ky y5 q2 s1 ?_; intro v2 w2 O2 g2; have b2 := Lib.hid (O1.grown g2 b1.out B4.out.size b1.out.size); have s2 := Nat.le_trans s1 (O1.grown g2 (Below.refl 0 w1) (Nat.zero_le _) (Nat.zero_le _)).size; have z6 := bz.below b2.out; clear g2)
    | (at_builtin; refine wpList_append_bytes rfl (.tmp 77) (.tmp 78) rfl W4.heap.size w.heap.size v2 _ rfl O2 az z cz rfl Nz.out kz z6 q3 s2 ?_; intro v3 w3 O3 g3; have b3 := Lib.hid (O2.grown g3 b2.out B4.out.size b2.out.size); clear g3; clear O0 O1 O2 b1 b2 s1 s2 y5 z6 x4 y4 z4 B4 q1 q2 q3; rcases joins_cases O3 with ⟨rfl, rfl, rfl, rfl⟩ | ⟨g, cap, rfl, hcap1, hcap2, hbytes⟩; clear O3))
  · have r5 := refSum_any 0 none 0 [] (by simp) w3 .nil
    have e1 := HM.out
    have e2 := HO.out
    simp only [List.append_nil] at e1 e2
    subst e1
    obtain rfl := e2
    have r6 := known_any w3 (ht.below h1w b3.out) (Nat.le_trans h1w b3.out.size)
    clear HM HO
    refine r5.mono ?_; rintro e w' ⟨rfl, rfl⟩
    go_wp2_with fail
    refine r5.mono ?_; rintro e w' ⟨rfl, rfl⟩
    go_wp2_with fail
    refine r6.mono ?_; rintro e w' ⟨rfl, b6⟩
    have B6 := Lib.hid (b3.out.trans (b6.mono b3.out.size))
    clear b6
    go_wp2_with fail
    go_ret
    exact ⟨rfl, B6.out⟩
  · have r5 := refSum_any _ (some ⟨g, 0, none⟩) cap (x ++ y) (by simp; omega) w3 hbytes.left
    have r6 := refSum_any _ (some ⟨g, 0, none⟩) cap (x ++ y ++ z) (by simp; omega) w3 hbytes
    have r7 := known_any w3 (ht.below h1w b3.out) (Nat.le_trans h1w b3.out.size)
    rw [HM.out] at r5
    rw [HO.out] at r6
    simp only [List.length_append, Nat.add_assoc] at r5 r6
    refine r5.mono ?_; rintro e w' ⟨rfl, rfl⟩
    go_wp2_with fail
    refine r6.mono ?_; rintro e w' ⟨rfl, rfl⟩
    go_wp2_with fail
    refine r7.mono ?_; rintro e w' ⟨rfl, b6⟩
    have B6 := Lib.hid (b3.out.trans (b6.mono b3.out.size))
    clear b6
    go_wp2_with fail
    go_ret
    exact ⟨rfl, B6.out⟩
end Go.Proofs.YtjpjijjnkjomnaaDoor
