/- The contract of CrcSums: the sum of any parts, however they are cut; copies of a sum under way go on apart. -/
import Derived.WalkKit
import Derived.Outline
import Derived.LoopTactic
import Derived.Lib.Hide
import Derived.Test.YtjpjijjnkjomnaaDoorCrcJoined
import Derived.Test.YtjpjijjnkjomnaaDoorCrcAdder
import Derived.Test.YtjpjijjnkjomnaaDoorCrcRef
import Derived.Test.YtjpjijjnkjomnaaDoorCrcKnown
namespace Go.Proofs.YtjpjijjnkjomnaaDoor
open Go.RowKit
theorem write_any (B n s : Nat) (hs : s < 4294967296) (a : Option Addr) (cap : Nat) (l : List UInt8) (hl : n + l.length ≤ 9223372036854775807) (w : World) (ht : Tab w) (hB1 : 1 ≤ B) (hA : IsAdder w B n s)
    (hc : BytesAt B w a l) :
    Calls Tryd.prog 13 #[.pointer (some ⟨B, 0, none⟩), .slice a l.length cap] w fun e w' => e = .returned (.int .i64 0) ∧ IsAdder w' B (n + l.length) (crcRun s l) ∧ w.grownBy w' (some B) :=
  callsIn_wide.1 (write_wide 4 (by decide) B n s hs a cap l hl w ht hB1 hA (hc.on.mono fun k hk => ⟨Nat.lt_trans hk hA.lt, Nat.ne_of_lt hk⟩))

theorem crcRun_snoc' (s : Nat) (l : List UInt8) (b : UInt8) : crcRun s (l ++ [b]) = crcRun (crcRun s l) [b] := crcRun_append s l [b]
/-- Write of one byte, whose row the caller has just built. -/
theorem writeOne_any (C n s : Nat) (hs : s < 4294967296) (x : UInt8) (hl : n + 1 ≤ 9223372036854775807) (w : World) (ht : Tab w) (hC1 : 1 ≤ C) (hA : IsAdder w C n s) :
    Calls Tryd.prog 13 #[.pointer (some ⟨C, 0, none⟩), .slice (some ⟨w.heap.size, 0, none⟩) 1 1] (w.alloc (.cells #[.int .u8 (x.toNat : Int)] 5)) fun e w' => e = .returned (.int .i64 0) ∧ IsAdder w' C (n + 1) (crcRun s [x]) ∧ w.grownBy w' (some C) ∧ w.heap.size ≤ w'.heap.size := by
  have hB : Below w.heap.size w (w.alloc (.cells #[.int .u8 (x.toNat : Int)] 5)) := (Below.refl _ _).alloc (Nat.le_refl _) _
  have hb := bytes_new w 5 (0, 0) [x] #[.int .u8 (x.toNat : Int)] rfl
  refine (callsIn_wide.1 (write_wide 4 (by decide) C n s hs (some ⟨w.heap.size, 0, none⟩) 1 [x] hl _ (ht.below (by have := hA.lt; omega) hB) hC1 (hA.below hB hA.lt) (fun hne => ?_))).mono ?_
  · obtain ⟨b, off, e, hb1, hb2⟩ := hb hne
    refine ⟨b, off, e, ⟨hb1, ?_⟩, hb2⟩
    have : w.heap.size = b := by cases e; rfl
    have := hA.lt
    omega
  · rintro e w' ⟨rfl, h1, h2⟩
    exact ⟨rfl, h1, ⟨h2.os, h2.tape, h2.output, Nat.le_trans hB.size h2.size, fun i hi hne => (h2.block i (Nat.lt_of_lt_of_le hi hB.size) hne).trans (hB.block i hi)⟩, Nat.le_trans hB.size h2.size⟩

/-- What holds at the head of a round of CrcSums: the sum a (block B) has the first k parts; c is not yet there, and ahead has these parts; or c (block C) has the first at parts, and so has ahead. -/
def SumsRel (w1 : World) (ls : List (List UInt8)) (at_ : Int) (B : Nat) (n2 : Nat) (k : Nat) (c va : Value) (wr : World) : Prop :=
  IsAdder wr B (ls.take k).flatten.length (crcRun 4294967295 (ls.take k).flatten) ∧ Below w1.heap.size w1 wr ∧ n2 ≤ wr.heap.size ∧
  ((c = .pointer none ∧ OwnB wr n2 va (ls.take k).flatten) ∨
   ∃ (C j : Nat), c = .pointer (some ⟨C, 0, none⟩) ∧ n2 ≤ C ∧ at_ = j ∧ j < k ∧ IsAdder wr C (ls.take j).flatten.length (crcRun 4294967295 (ls.take j).flatten) ∧ OwnB wr n2 va (ls.take j).flatten ∧ some C ≠ va.ownBlock)

set_option maxHeartbeats 8000000 in
set_option maxRecDepth 100000 in
theorem crcSums_any (a : Option Addr) (cap : Nat) (ls : List (List UInt8)) (x : UInt8) (at_ : Int) (hls : ls.length ≤ 9223372036854775807) (w : World) (hc : ArgParts w.heap.size w a ls) (ht : Tab w) (h1w : 1 ≤ w.heap.size) :
    Calls Tryd.prog 3 #[.slice a ls.length cap, .int .u8 (x.toNat : Int), .int .i64 at_] w fun e w' => e = .returned (.bool true) ∧ Below w.heap.size w w' := by
  go_enter Tryd.func3, Tryd.ntmps3
  go_wp2_with fail
  refine (joined_any a cap ls hls w hc).mono ?_
  rintro e w1 ⟨b1, rfl | ⟨v, rfl | ⟨rfl, O1, hfl, hl20⟩⟩⟩
  · go_wp2_with (go_at_call 10; refine (known_any _ (ht.below h1w b1) (Nat.le_trans h1w b1.size)).mono ?_; rintro e w' ⟨rfl, hb⟩)
    go_ret
    exact ⟨rfl, b1.trans (hb.mono b1.size)⟩
  · go_wp2_with (go_at_call 10; refine (known_any _ (ht.below h1w b1) (Nat.le_trans h1w b1.size)).mono ?_; rintro e w' ⟨rfl, hb⟩)
    go_ret
    exact ⟨rfl, b1.trans (hb.mono b1.size)⟩
  · obtain ⟨av, cv, rfl, hbv, hcv1, hcv2, hnv, -⟩ := O1.form
    clear O1 hnv
    have ht1 := ht.below h1w b1
    have h1w1 := Nat.le_trans h1w b1.size
    obtain ⟨fl, hflt⟩ : ∃ fl, ls.flatten = fl := ⟨_, rfl⟩
    have HFL := Lib.hid hflt
    rw [hflt] at hbv hcv1 hfl ⊢
    clear hflt
    have hcw := hc.below b1
    go_wp2_with (go_at_call 11; refine (new_any w1).mono ?_; rintro e w2 ⟨B, rfl, hB1, hA2, b2⟩)
    have hBz := hA2.lt
    have rel0 : SumsRel w1 ls at_ B w2.heap.size 0 (.pointer none) (.slice none 0 0) w2 := ⟨by simpa [crcRun] using hA2, b2, Nat.le_refl _, .inl ⟨rfl, OwnB.nil _ _⟩⟩
    obtain ⟨n2, hn2⟩ : ∃ n2, w2.heap.size = n2 := ⟨_, rfl⟩
    rw [hn2] at rel0 hBz
    clear hn2 hA2 b2
    go_loopw [10, 11, 12] (fun c va i wr => ∃ k : Nat, k ≤ ls.length ∧ i = .int .i64 k ∧ SumsRel w1 ls at_ B n2 k c va wr) (fun _ _ i _ => ls.length - (intOf i).toNat)
    case atStart => exact ⟨0, Nat.zero_le _, rfl, rel0⟩
    case round =>
      obtain ⟨k, hk, rfl, hA, hBel, hn2, hcase⟩ := hrel
      clear rel0
      have htr := ht1.below h1w1 hBel
      by_cases hlt : k < ls.length
      · obtain ⟨b, off, rfl, hb, hcs⟩ := hcw (by rintro rfl; simp at hlt)
        obtain ⟨hpl, ai, ci, hcx, hba, hci, hni⟩ := hcs k hlt
        have hcx' := (hBel.cell (p := ⟨b, off + k, none⟩) (Nat.lt_of_lt_of_le hb b1.size)).trans hcx
        have hba1 := hba.mono b1.size
        have hba' := hba1.below hBel
        have HF := Lib.hid (flat_succ hlt)
        have HNI := Lib.hid hni
        have hlk : (ls.take k).flatten.length + (ls[k]?.getD []).length ≤ 3000 := by
          rw [← List.length_append, ← HF.out]
          refine Nat.le_trans ?_ hfl
          rw [← HFL.out]
          have e : ls.flatten = (ls.take (k + 1)).flatten ++ (ls.drop (k + 1)).flatten := by rw [← List.flatten_append, List.take_append_drop]
          rw [e, List.length_append]; omega
        obtain ⟨pt, hpt⟩ : ∃ pt, ls[k]?.getD [] = pt := ⟨_, rfl⟩
        rw [hpt] at hcx' hba' hba1 hpl HF hci hlk
        clear hpt hcs hcx hni hba
        have hs := crcRun_lt (s := 4294967295) (by decide) (ls.take k).flatten
        have hwr := fun (wr' : World) (hA' : IsAdder wr' B (ls.take k).flatten.length (crcRun 4294967295 (ls.take k).flatten)) (ht' : Tab wr') (hb' : BytesAt w1.heap.size wr' ai pt) =>
          write_any B _ _ hs ai ci pt (by omega) wr' ht' (by omega) hA' (hb'.mono hB1)
        rw [← crcRun_append, ← List.length_append] at hwr
        have HW := Lib.hid hwr
        clear hwr
        have hBn2 : B < n2 := hBz
        have hw1n2 : w1.heap.size ≤ n2 := by omega
        rcases hcase with ⟨rfl, hO⟩ | ⟨C, j, rfl, hC1, rfl, hjk, hC2, hO, hCv⟩
        · have q1 : (ls.take k).flatten.length + pt.length ≤ 1099511627776 := by omega
          by_cases hat : (k : Int) = at_
          · subst hat
            clear q1
            go_wp2_with (first
              | (go_at_call 12; refine (copy_adder B _ _ wr hA).mono ?_; rintro e w4 ⟨C, rfl, hC1, hC2, b4⟩; have hcx4 := (b4.cell (p := ⟨b, off + k, none⟩) (cell_lt hcx')).trans hcx')
              | (go_at_call 13; refine (HW.out w4 (hA.below b4 hA.lt) (htr.below (Nat.le_trans h1w1 hBel.size) b4) ((hba'.below (b4.mono hBel.size)))).mono ?_; rintro e w5 ⟨rfl, hA5, g5⟩))
            go_roundw
            case rel =>
              refine ⟨k + 1, by omega, by go_num, by rw [HF.out]; exact hA5, (hBel.trans (b4.mono hBel.size)).grown g5 (Nat.le_trans hBel.size b4.size) (fun r e => by cases e; exact hB1), Nat.le_trans hn2 (Nat.le_trans b4.size g5.size), .inr ⟨C, k, rfl, by omega, rfl, by omega, ?_, ?_, hO.far hC1⟩⟩
              · exact hC2.kept g5 (fun e => by have := Option.some.inj e; omega)
              · exact (hO.kept (below_grown b4) (fun g e => by cases e)).kept g5 (fun g e => by cases e; exact hBn2)
            case measure => simp [intOf]; omega
          · have hbt : ((k : Int) == at_) = false := by simpa using hat
            have HAT := Lib.hid hat
            clear hat
            go_wp2_with (first
              | (at_builtin; refine wpList_append_bytes rfl _ _ rfl n2 w1.heap.size _ _ rfl hO ai pt ci rfl HNI.out hci hba' q1 hn2 ?_; intro v4 w4 O4 g4; have b4 := Lib.hid (hO.grown g4 hBel hw1n2 hBel.size); have hcx4 := (b4.out.cell (p := ⟨b, off + k, none⟩) (Nat.lt_of_lt_of_le hb b1.size)).trans (((hBel.cell (p := ⟨b, off + k, none⟩) (Nat.lt_of_lt_of_le hb b1.size)).symm).trans hcx'); have hA4 := hA.kept g4 (fun e => by have := hO.block B e.symm; omega); have s4 := g4.size; clear g4)
              | (go_at_call 13; refine (HW.out w4 hA4 (ht1.below h1w1 b4.out) (hba1.below b4.out)).mono ?_; rintro e w5 ⟨rfl, hA5, g5⟩))
            go_roundw
            case rel =>
              refine ⟨k + 1, by omega, by go_num, by rw [HF.out]; exact hA5, b4.out.grown g5 b4.out.size (fun r e => by cases e; exact hB1), Nat.le_trans hn2 (Nat.le_trans s4 g5.size), .inl ⟨rfl, ?_⟩⟩
              rw [HF.out]
              exact O4.kept g5 (fun g e => by cases e; exact hBn2)
            case measure => simp [intOf]; omega
        · have hbt : ((k : Int) == (j : Int)) = false := by simp; omega
          go_wp2_with (first
              | (go_at_call 13; refine (HW.out wr hA htr hba').mono ?_; rintro e w5 ⟨rfl, hA5, g5⟩))
          go_roundw
          case rel =>
            refine ⟨k + 1, by omega, by go_num, by rw [HF.out]; exact hA5, hBel.grown g5 hBel.size (fun r e => by cases e; exact hB1), Nat.le_trans hn2 g5.size, .inr ⟨C, j, rfl, hC1, rfl, by omega, ?_, ?_, hCv⟩⟩
            · exact hC2.kept g5 (fun e => by have := Option.some.inj e; omega)
            · exact hO.kept g5 (fun g e => by cases e; exact hBn2)
          case measure => simp [intOf]; omega
      · obtain rfl : k = ls.length := by omega
        rw [List.take_length, HFL.out] at hA hcase
        have hBn2 : B < n2 := hBz
        have hs := crcRun_lt (s := 4294967295) (by decide) fl
        have r1 := refSum_any w1.heap.size av cv fl (by omega) wr (hbv.below hBel)
        have r2 := sum_any a cap ls hls wr htr (Nat.le_trans h1w1 hBel.size) ((hcw.below (hBel.mono b1.size)).parts.mono (Nat.le_trans b1.size hBel.size))
        rw [HFL.out] at r2
        have q0 : (4294967295 - crcRun 4294967295 fl : Nat) = crcSum fl := rfl
        have r3 := fun (w3 : World) (hA' : IsAdder w3 B fl.length (crcRun 4294967295 fl)) => sumOf_adder B _ _ hs w3 hA'
        rw [q0] at r3
        obtain ⟨q, hq⟩ : ∃ q, crcSum fl = q := ⟨_, rfl⟩
        have hs1 := fun (W : World) (hb : BytesAt W.heap.size W av fl) (ht : Tab W) (h1 : 1 ≤ W.heap.size) => sum1_any W av cv fl (by omega) hb ht h1
        rw [hq] at r1 r2 r3 hs1
        have R3 := Lib.hid r3
        have HS1 := Lib.hid hs1
        clear q0 hq r3 hs1
        go_wp2_with fail
        refine r1.mono ?_; rintro e w' ⟨rfl, rfl⟩
        go_wp2_with fail
        refine r2.mono ?_; rintro e w3 ⟨rfl, b3⟩
        have B3 := Lib.hid (hBel.trans (b3.mono hBel.size))
        have hA3 := hA.below b3 hA.lt
        have s3 := b3.size
        have hcase3 : ∀ C m s', IsAdder wr C m s' → IsAdder w3 C m s' := fun C m s' h => h.below b3 h.lt
        have hown3 : ∀ v l, OwnB wr n2 v l → OwnB w3 n2 v l := fun v l h => h.kept (below_grown b3) (fun g e => by cases e)
        clear r1 r2 b3
        go_wp2_with fail
        refine (HS1.out w3 ((hbv.below B3.out).mono B3.out.size) (ht1.below h1w1 B3.out) (Nat.le_trans h1w1 B3.out.size)).mono ?_
        rintro e w4 ⟨rfl, b4⟩
        have B4 := Lib.hid (B3.out.trans (b4.mono B3.out.size))
        have hA4 := hA3.below b4 hA3.lt
        have s4 := Nat.le_trans hn2 (Nat.le_trans s3 b4.size)
        have H4 : Hid (∀ C m s', IsAdder wr C m s' → IsAdder w4 C m s') := fun C m s' h => (hcase3 C m s' h).below b4 (hcase3 C m s' h).lt
        have O4 : Hid (∀ v l, OwnB wr n2 v l → OwnB w4 n2 v l) := fun v l h => (hown3 v l h).kept (below_grown b4) (fun g e => by cases e)
        clear b4 hcase3 hown3 hA3 B3
        have r5 := R3.out w4 hA4
        have r6 := len_adder B _ _ w4 hA4
        have r7 := word_any x.toNat (UInt8.toNat_lt x) w4 (ht1.below h1w1 B4.out)
        have r8 := refWord_any x.toNat (UInt8.toNat_lt x) w4
        obtain ⟨qw, hqw⟩ : ∃ qw, crcWord x.toNat = qw := ⟨_, rfl⟩
        rw [hqw] at r7 r8
        clear hqw
        rcases hcase with ⟨rfl, hO⟩ | ⟨C, j, rfl, hC1, rfl, hjk, hC2, hO, hCv⟩
        · go_wp2_with (first
            | (go_at_call 16; refine r5.mono ?_; rintro e w' ⟨rfl, rfl⟩)
            | (go_at_call 17; refine r6.mono ?_; rintro e w' ⟨rfl, rfl⟩)
            | (go_at_call 18; refine r7.mono ?_; rintro e w' ⟨rfl, rfl⟩)
            | (go_at_call 19; refine r8.mono ?_; rintro e w' ⟨rfl, rfl⟩)
            | (go_at_call 10; refine (known_any w4 (ht1.below h1w1 B4.out) (Nat.le_trans h1w1 B4.out.size)).mono ?_; rintro e w5 ⟨rfl, b5⟩; have B5 := Lib.hid (b1.trans ((B4.out.trans (b5.mono B4.out.size)).mono b1.size)); clear b5))
          go_ret
          exact ⟨rfl, B5.out⟩
        · have hC4 := H4.out _ _ _ hC2
          have hO4 := O4.out _ _ hO
          have hjl : (ls.take j).flatten.length ≤ 3000 := by
            refine Nat.le_trans ?_ hfl
            rw [← HFL.out]
            have e : ls.flatten = (ls.take j).flatten ++ (ls.drop j).flatten := by rw [← List.flatten_append, List.take_append_drop]
            rw [e, List.length_append]; omega
          obtain ⟨fj, hfj⟩ : ∃ fj, (ls.take j).flatten = fj := ⟨_, rfl⟩
          rw [hfj] at hC4 hO4 hjl
          clear hfj hC2 hO
          have hsj := crcRun_lt (s := 4294967295) (by decide) fj
          obtain ⟨aj, cj, rfl, hbj, hcj1, hcj2, hnj, -⟩ := hO4.form
          have HNJ := Lib.hid hnj
          clear hnj
          have r9 := sumOf_adder C _ _ hsj w4 hC4
          rw [show (4294967295 - crcRun 4294967295 fj : Nat) = crcSum fj from rfl] at r9
          have r10 := refSum_any _ aj cj fj (by omega) w4 hbj
          have hx5 := writeOne_any C _ _ hsj x (by omega) w4 (ht1.below h1w1 B4.out) (by omega) hC4
          rw [← crcRun_snoc'] at hx5
          obtain ⟨qj, hqj⟩ : ∃ qj, crcSum fj = qj := ⟨_, rfl⟩
          rw [hqj] at r9 r10
          clear hqj
          go_wp2_with (first
            | (go_at_call 16; refine r5.mono ?_; rintro e w' ⟨rfl, rfl⟩; clear r5)
            | (go_at_call 17; refine r6.mono ?_; rintro e w' ⟨rfl, rfl⟩; clear r6)
            | (go_at_call 18; refine r7.mono ?_; rintro e w' ⟨rfl, rfl⟩; clear r7)
            | (go_at_call 19; refine r8.mono ?_; rintro e w' ⟨rfl, rfl⟩; clear r8; have tok : True := trivial)
            | (go_at_call 16; have _t := tok; refine r9.mono ?_; rintro e w' ⟨rfl, rfl⟩; clear r9)
            | (go_at_call 14; refine r10.mono ?_; rintro e w' ⟨rfl, rfl⟩; clear r10)
            | (go_at_call 13; refine hx5.mono ?_; rintro e w6 ⟨rfl, hC6, g6, h6⟩; clear hx5; skip))
          have hCB : C ≠ B := by omega
          have B6 := Lib.hid (B4.out.grown g6 B4.out.size (fun r e => by cases e; omega))
          have hA6 := hA4.kept g6 (fun e => hCB (Option.some.inj e).symm)
          have O6 : OwnB w6 n2 (.slice aj fj.length cj) fj := World.ownsRow.kept hO4 g6 (.inr (Ne.symm hCv))
          have O7 : OwnB (w6.alloc (.cells #[.int .u8 (x.toNat : Int)] 5)) n2 (.slice aj fj.length cj) fj := O6.kept (World.grownBy_alloc w6 _ none) (fun g e => by cases e)
          have hb7 := bytes_new w6 5 (0, 0) [x] #[.int .u8 (x.toNat : Int)] rfl
          have hA7 := hA6.kept (World.grownBy_alloc w6 (.cells #[.int .u8 (x.toNat : Int)] 5) none) (fun e => by cases e)
          have hC7 := hC6.kept (World.grownBy_alloc w6 (.cells #[.int .u8 (x.toNat : Int)] 5) none) (fun e => by cases e)
          have B7 : Hid (Below w1.heap.size w1 (w6.alloc (.cells #[.int .u8 (x.toNat : Int)] 5))) := B6.out.alloc B6.out.size _
          have s7 : n2 ≤ (w6.alloc (.cells #[.int .u8 (x.toNat : Int)] 5)).heap.size := by rw [World.size_alloc]; omega
          have r11 := sumOf_adder C _ _ (crcRun_lt (s := 4294967295) (by decide) (fj ++ [x])) w6 hC6
          rw [show (4294967295 - crcRun 4294967295 (fj ++ [x]) : Nat) = crcSum (fj ++ [x]) from rfl] at r11
          obtain ⟨qx, hqx⟩ : ∃ qx, crcSum (fj ++ [x]) = qx := ⟨_, rfl⟩
          rw [hqx] at r11
          have HQX := Lib.hid hqx
          have q1 : fj.length + [x].length ≤ 1099511627776 := by simp; omega
          have HN1 : Hid ((some (⟨w6.heap.size, 0, none⟩ : Addr)) = none → 1 = 0) := fun e => by cases e
          clear hqx hA4 hO4 O6 hC4 tok g6 h6
          refine r11.mono ?_; rintro e w' ⟨rfl, rfl⟩
          go_wp2_with (first
            | (at_builtin; refine wpList_append_bytes rfl _ _ rfl n2 _ _ _ rfl O7 (some ⟨w6.heap.size, 0, none⟩) [x] 1 rfl HN1.out (Nat.le_refl _) hb7 q1 s7 ?_; intro v8 w8 O8 g8; have B8 := Lib.hid (O7.grown g8 B7.out (by omega) B7.out.size); have hA8 := hA7.kept g8 (fun e => by have := O7.block B e.symm; omega); have hC8 := hC7.kept g8 hCv; clear g8; obtain ⟨a8, c8, rfl, hb8, -, -, -, -⟩ := O8.form; have r12 := refSum_any _ a8 c8 (fj ++ [x]) (by simp; omega) w8 hb8; rw [HQX.out] at r12; simp only [List.length_append, List.length_cons, List.length_nil, Nat.zero_add] at r12; have r13 := len_adder C _ _ w8 hC8; have r14 := R3.out w8 hA8; clear O8 hb8 hb7)
            | (go_at_call 14; refine r12.mono ?_; rintro e w' ⟨rfl, rfl⟩; clear r12)
            | (go_at_call 17; refine r13.mono ?_; rintro e w' ⟨rfl, rfl⟩; clear r13)
            | (go_at_call 16; refine r14.mono ?_; rintro e w' ⟨rfl, rfl⟩; clear r14)
            | (go_at_call 10; refine (known_any w8 (ht1.below h1w1 B8.out) (Nat.le_trans h1w1 B8.out.size)).mono ?_; rintro e w9 ⟨rfl, b9⟩; have B9 := Lib.hid (b1.trans ((B8.out.trans (b9.mono B8.out.size)).mono b1.size)); clear b9))
          go_ret
          exact ⟨rfl, B9.out⟩
end Go.Proofs.YtjpjijjnkjomnaaDoor
