/- Layer 13: what any text is. -/
import Derived.Test.YtkabdalnkmbloaaDoorTopW
import Derived.Test.YtkabdalnkmbloaaDoorTopT
namespace Go.Proofs.YtkabdalnkmbloaaDoor
open Go.RowKit Go.Shelf

set_option maxRecDepth 100000 in
theorem lsame_any (a b : Option Addr) (ca cb : Nat) (L : List (List UInt8)) (hL : L.length ≤ 1000000) (w : World) (h1 : TxAt w a L) (h2 : TxAt w b L) :
    Calls Tryd.prog 16 #[.slice a L.length ca, .slice b L.length cb] w fun e w' => BPost w true e w' := by
  have H1 := Lib.hid h1
  have H2 := Lib.hid h2
  obtain ⟨N, hN⟩ : ∃ N, L.length = N := ⟨_, rfl⟩
  have HN := Lib.hid hN
  rw [hN] at hL ⊢
  clear h1 h2 hN
  go_enter Tryd.func16, Tryd.ntmps16
  go_wp2
  go_loopw [5, 11, 12, 13, 14, 15, 16, 17, 18, 19, 20, 21, 22, 23, 24, 25] (fun i _ _ _ _ _ _ _ _ _ _ _ _ _ _ _ wr => ∃ k n : Nat, i = .int .i64 k ∧ k ≤ N ∧ wr = w.drewN n)
    (fun i _ _ _ _ _ _ _ _ _ _ _ _ _ _ _ _ => N - (intOf i).toNat)
  case atStart => exact ⟨0, 0, rfl, Nat.zero_le _, rfl⟩
  case round =>
    obtain ⟨k, n, rfl, hk, rfl⟩ := hrel
    by_cases hlt : k < N
    · have hkl : k < L.length := by have := HN.out; omega
      have hne1 : L ≠ [] := fun e => by rw [e] at hkl; simp at hkl
      obtain ⟨b1, o1, rfl, hb1, hc1⟩ := H1.out hne1
      obtain ⟨b2, o2, rfl, hb2, hc2⟩ := H2.out hne1
      obtain ⟨x, hx⟩ : ∃ x, L[k]? = some x := ⟨_, List.getElem?_eq_getElem hkl⟩
      have d1 := hc1 k x hx
      have d2 := hc2 k x hx
      clear hc1 hc2 hx hkl hne1
      go_wp2
      go_quiet (fail)
      go_wp2
      go_roundw
      case rel => exact ⟨k + 1, _, by go_num, by omega, rfl⟩
      case measure => simp [intOf]; omega
    · obtain rfl : k = N := by omega
      go_wp2
      go_ret
      exact ⟨rfl, below_dr' (Below.refl _ _) n⟩
set_option maxRecDepth 100000 in
theorem tells_any (s : ByteArray) (w : World) (ht : Tabs w) : Calls Tryd.prog 4 #[.string s] w fun e w' => BPost w true e w' := by
  have HT := Lib.hid (And.intro ht ht.two)
  by_cases h : s.size ≤ 300
  · have g1 : ¬ (300 : Int) < (s.size : Int) := by omega
    have hs : s.size ≤ 1000 := by omega
    have hll := lv_len_le s.data.toList
    rw [← Lib.size_eq] at hll
    have HLL := Lib.hid (show (lv s.data.toList).length ≤ 1000000 by omega)
    have C1 := Lib.hid (fun W => name_any s hs W)
    have C2 := Lib.hid (fun W => rname_any s hs W)
    have C3 := Lib.hid (fun W => filter_any s hs W)
    have C4 := Lib.hid (fun W => rfilter_any s hs W)
    have C5 := Lib.hid (fun W => plain_top s hs W)
    have C6 := Lib.hid (fun W => levelsF_any s hs W)
    have C7 := Lib.hid (fun W => rlevels_any s hs W)
    generalize nameL s.data.toList = nm at *
    generalize lv s.data.toList = L at *
    rcases Bool.eq_false_or_eq_true (filtL s.data.toList) with hA | hA <;>
    · rw [hA] at C3 C4 C5
      simp only [Bool.true_and, Bool.false_and] at C5
      clear hA ht hll h hs
      go_enter Tryd.func4, Tryd.ntmps4
      go_wp2_with fail
      refine (C1.out w HT.out.1).mono ?_
      rintro e w1 ⟨rfl, hb1⟩
      have HB1 := Lib.hid hb1
      clear hb1
      go_wp2_with fail
      refine (C2.out w1).mono ?_
      rintro e w2 ⟨rfl, hb2⟩
      have HB2 := Lib.hid (show Below w.heap.size w w2 from HB1.out.trans (hb2.mono HB1.out.size))
      clear hb2
      go_wp2_with fail
      refine (C3.out w2 (HT.out.1.below HB2.out HT.out.2)).mono ?_
      rintro e w3 ⟨rfl, hb3⟩
      have HB3 := Lib.hid (show Below w.heap.size w w3 from HB2.out.trans (hb3.mono HB2.out.size))
      clear hb3
      go_wp2_with fail
      refine (C4.out w3).mono ?_
      rintro e w4 ⟨rfl, hb4⟩
      have HB4 := Lib.hid (show Below w.heap.size w w4 from HB3.out.trans (hb4.mono HB3.out.size))
      clear hb4
      go_wp2_with fail
      refine (C5.out w4 (HT.out.1.below HB4.out HT.out.2)).mono ?_
      rintro e w5 ⟨rfl, hb5⟩
      have HB5 := Lib.hid (show Below w.heap.size w w5 from HB4.out.trans (hb5.mono HB4.out.size))
      clear hb5
      go_wp2_with fail
      refine (C4.out w5).mono ?_
      rintro e w6 ⟨rfl, hb6⟩
      have HB6 := Lib.hid (show Below w.heap.size w w6 from HB5.out.trans (hb6.mono HB5.out.size))
      clear hb6
      go_wp2_with fail
      first
        | (refine (C2.out w6).mono ?_
           rintro e w7 ⟨rfl, hb7⟩
           have HB7 := Lib.hid (show Below w.heap.size w w7 from HB6.out.trans (hb7.mono HB6.out.size))
           clear hb7
           go_wp2_with fail
           refine (C6.out w7).mono ?_
           rintro e w8 ⟨v8, rfl, ho8, hb8⟩
           obtain ⟨a8, c8, rfl, htx8, hc8, -, -⟩ := TxAt.own ho8
           have HB8 := Lib.hid (show Below w.heap.size w w8 from HB7.out.trans (hb8.mono HB7.out.size)))
        | (refine (C6.out w6).mono ?_
           rintro e w8 ⟨v8, rfl, ho8, hb8⟩
           obtain ⟨a8, c8, rfl, htx8, hc8, -, -⟩ := TxAt.own ho8
           have HB8 := Lib.hid (show Below w.heap.size w w8 from HB6.out.trans (hb8.mono HB6.out.size)))
      have HX8 := Lib.hid htx8
      clear hb8 ho8 htx8 hc8
      go_wp2_with fail
      refine (C7.out w8).mono ?_
      rintro e w9 ⟨v9, rfl, ho9, hb9⟩
      obtain ⟨a9, c9, rfl, htx9, hc9, -, -⟩ := TxAt.own ho9
      have HB9 := Lib.hid (show Below w.heap.size w w9 from HB8.out.trans (hb9.mono HB8.out.size))
      have HX9 := Lib.hid (And.intro (HX8.out.below hb9) htx9)
      clear hb9 ho9 htx9 hc9
      go_wp2_with fail
      refine (lsame_any a8 a9 c8 c9 L HLL.out w9 HX9.out.1 HX9.out.2).mono ?_
      rintro e w10 ⟨rfl, hb10⟩
      have HB10 := Lib.hid (show Below w.heap.size w w10 from HB9.out.trans (hb10.mono HB9.out.size))
      clear hb10
      go_wp2_with fail
      refine (known_top w10 (HT.out.1.below HB10.out HT.out.2)).mono ?_
      rintro e w11 ⟨rfl, hb11⟩
      have HB11 := Lib.hid (show Below w.heap.size w w11 from HB10.out.trans (hb11.mono HB10.out.size))
      clear hb11
      go_wp2
      go_ret
      exact ⟨rfl, HB11.out⟩
  · have g1 : (300 : Int) < (s.size : Int) := by omega
    clear ht h
    go_enter Tryd.func4, Tryd.ntmps4
    go_wp2_with fail
    refine (known_top w HT.out.1).mono ?_
    rintro e w4 ⟨rfl, hb4⟩
    have HB4 := Lib.hid hb4
    clear hb4
    go_wp2
    go_ret
    exact ⟨rfl, HB4.out⟩
end Go.Proofs.YtkabdalnkmbloaaDoor
