/- Layer 13: three filters, one within another. -/
import Derived.Test.YtkabdalnkmbloaaDoorTopS
namespace Go.Proofs.YtkabdalnkmbloaaDoor
open Go.RowKit Go.Shelf

def WPost (w : World) (x : Bool) (n : Int) (e : Ending) (w' : World) : Prop := e = .returned (.tuple #[.bool x, .int .i64 n]) ∧ Below w.heap.size w w'
set_option maxRecDepth 100000 in
theorem three_go (a b c : ByteArray) (x y z : Bool) (n1 n2 n3 : Int) (ha : a.size ≤ 300) (hb : b.size ≤ 300) (hc : c.size ≤ 300) (w : World) (ht : Tabs w)
    (h1 : ∀ W, Tabs W → Calls Tryd.prog 19 #[.string a, .string b] W fun e w' => WPost W x n1 e w')
    (h2 : ∀ W, Tabs W → Calls Tryd.prog 19 #[.string b, .string c] W fun e w' => WPost W y n2 e w')
    (h3 : ∀ W, Tabs W → Calls Tryd.prog 19 #[.string a, .string c] W fun e w' => WPost W z n3 e w')
    (h : n1 = 230 ∧ x = false ∨ n1 = 0 ∧ n2 = 230 ∧ x = false ∨ n1 = 0 ∧ n2 = 230 ∧ x = true ∧ y = false ∨ n1 = 0 ∧ n2 = 0 ∧ n3 = 0 ∧ x = false ∨ n1 = 0 ∧ n2 = 0 ∧ n3 = 0 ∧ x = true ∧ y = false ∨ n1 = 0 ∧ n2 = 0 ∧ n3 = 0 ∧ x = true ∧ y = true ∧ z = true) :
    Calls Tryd.prog 6 #[.string a, .string b, .string c] w fun e w' => BPost w true e w' := by
  have g1 : ¬ (300 : Int) < (a.size : Int) := by omega
  have g2 : ¬ (300 : Int) < (b.size : Int) := by omega
  have g3 : ¬ (300 : Int) < (c.size : Int) := by omega
  have HT := Lib.hid (And.intro ht ht.two)
  have H1 := Lib.hid h1
  have H2 := Lib.hid h2
  have H3 := Lib.hid h3
  clear h1 h2 h3 ht
  go_enter Tryd.func6, Tryd.ntmps6
  go_wp2_with fail
  refine (H1.out w HT.out.1).mono ?_
  rintro e w1 ⟨rfl, hb1⟩
  have HB1 := Lib.hid hb1
  clear hb1
  go_wp2_with fail
  refine (H2.out w1 (HT.out.1.below HB1.out HT.out.2)).mono ?_
  rintro e w2 ⟨rfl, hb2⟩
  have HB2 := Lib.hid (show Below w.heap.size w w2 from HB1.out.trans (hb2.mono HB1.out.size))
  clear hb2
  go_wp2_with fail
  refine (H3.out w2 (HT.out.1.below HB2.out HT.out.2)).mono ?_
  rintro e w3 ⟨rfl, hb3⟩
  have HB3 := Lib.hid (show Below w.heap.size w w3 from HB2.out.trans (hb3.mono HB2.out.size))
  clear hb3
  rcases h with ⟨rfl, rfl⟩ | ⟨rfl, rfl, rfl⟩ | ⟨rfl, rfl, rfl, rfl⟩ | ⟨rfl, rfl, rfl, rfl⟩ | ⟨rfl, rfl, rfl, rfl, rfl⟩ | ⟨rfl, rfl, rfl, rfl, rfl, rfl⟩ <;>
  · go_wp2_with fail
    refine (known_top w3 (HT.out.1.below HB3.out HT.out.2)).mono ?_
    rintro e w4 ⟨rfl, hb4⟩
    have HB4 := Lib.hid (show Below w.heap.size w w4 from HB3.out.trans (hb4.mono HB3.out.size))
    clear hb4
    go_wp2
    go_ret
    exact ⟨rfl, HB4.out⟩
set_option maxRecDepth 100000 in
theorem three_known (a b c : ByteArray) (h : 300 < a.size ∨ 300 < b.size ∨ 300 < c.size) (w : World) (ht : Tabs w) :
    Calls Tryd.prog 6 #[.string a, .string b, .string c] w fun e w' => BPost w true e w' := by
  have HT := Lib.hid ht
  clear ht
  obtain ⟨x, hx⟩ : ∃ x : Bool, decide ((300 : Int) < (a.size : Int)) = x := ⟨_, rfl⟩
  obtain ⟨y, hy⟩ : ∃ y : Bool, decide ((300 : Int) < (b.size : Int)) = y := ⟨_, rfl⟩
  have g : x = true ∨ x = false ∧ y = true ∨ x = false ∧ y = false ∧ (300 : Int) < (c.size : Int) := by
    subst hx hy
    simp only [decide_eq_true_eq, decide_eq_false_iff_not]
    omega
  rcases g with rfl | ⟨rfl, rfl⟩ | ⟨rfl, rfl, g3⟩ <;>
  · simp only [decide_eq_true_eq, decide_eq_false_iff_not] at hx hy
    go_enter Tryd.func6, Tryd.ntmps6
    go_wp2_with fail
    refine (known_top w HT.out).mono ?_
    rintro e w4 ⟨rfl, hb4⟩
    have HB4 := Lib.hid hb4
    clear hb4
    go_wp2
    go_ret
    exact ⟨rfl, HB4.out⟩
theorem three_any (a b c : ByteArray) (w : World) (ht : Tabs w) :
    Calls Tryd.prog 6 #[.string a, .string b, .string c] w fun e w' => BPost w true e w' := by
  by_cases h : 300 < a.size ∨ 300 < b.size ∨ 300 < c.size
  · exact three_known a b c h w ht
  · have ha : a.size ≤ 300 := by omega
    have hb : b.size ≤ 300 := by omega
    have hc : c.size ≤ 300 := by omega
    refine three_go a b c _ _ _ _ _ _ ha hb hc w ht (fun W h => within_any a b (by omega) (by omega) W h) (fun W h => within_any b c (by omega) (by omega) W h) (fun W h => within_any a c (by omega) (by omega) W h) ?_
    cases hA : filtL a.data.toList
    · left; simp
    · cases hB : filtL b.data.toList
      · left; simp
      · cases hC : filtL c.data.toList
        · right
          cases hx : covL b.data.toList (spL a.data.toList)
          · left; simp
          · right; left; simp
        · right; right; right
          cases hx : covL b.data.toList (spL a.data.toList)
          · left; simp
          · cases hy : covL c.data.toList (spL b.data.toList)
            · right; left; simp
            · right; right
              have hz := within_three hA hC hx hy
              simp [hz]
end Go.Proofs.YtkabdalnkmbloaaDoor
