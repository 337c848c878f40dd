/- Layer 12: are two lists the same; the document's strange runes. -/
import Derived.Deep.QuietTactic
import Derived.Test.YtbmnngcogdamkaaDoorUtfS
import Derived.Test.YtbmnngcogdamkaaDoorUtfParts
namespace Go.Proofs.YtbmnngcogdamkaaDoor
open Go.RowKit

/-- The slice value v holds these numbers, in memory that is there. -/
def RnVal (w : World) (v : Value) (l : List Int) : Prop := ∃ a c, v = .slice a l.length c ∧ RnOn (Lt w.heap.size) w a l
theorem RnVal.nil (w : World) : RnVal w (.slice none 0 0) [] := ⟨none, 0, rfl, fun h => absurd rfl h⟩
theorem OwnR.val {w : World} {base : Nat} {v : Value} {l : List Int} (h : OwnR w base v l) : RnVal w v l := by
  obtain ⟨a, c, rfl⟩ := row_slice h
  refine ⟨a, c, rfl, fun hne => ?_⟩
  have h1 := h
  rcases h with ⟨-, ⟨h0, hz⟩ | ⟨g, cap, cur, hv, hg, hh, -⟩⟩
  · exact absurd (List.eq_nil_of_length_eq_zero hz) hne
  · cases hv
    refine ⟨g, 0, rfl, (Array.getElem?_eq_some_iff.1 hh).1, fun j hj => ?_⟩
    rw [Nat.zero_add, h1.cellAt j (by omega)]
    unfold runeVals
    rw [List.getElem?_map, List.getElem?_eq_getElem hj]
    rfl
theorem RnVal.below {w w' : World} {v : Value} {l : List Int} (h : RnVal w v l) (hb : Below w.heap.size w w') : RnVal w' v l := by
  obtain ⟨a, c, rfl, h⟩ := h
  exact ⟨a, c, rfl, (h.keeps (KeepsOn.of_below hb fun _ h => h)).mono fun b hb' => Nat.lt_of_lt_of_le hb' hb.size⟩
theorem take_succ_int {l : List Int} {k : Nat} (h : k < l.length) : l.take (k + 1) = l.take k ++ [l[k]?.getD 0] := by
  rw [List.take_succ_eq_append_getElem h, List.getElem?_eq_getElem h]; rfl
theorem ne_at {l l' : List Int} {k : Nat} (h : l[k]?.getD 0 ≠ l'[k]?.getD 0) : l ≠ l' := fun e => h (by rw [e])
set_option maxRecDepth 100000 in
set_option maxHeartbeats 2000000 in
theorem same_any (v v' : Value) (l l' : List Int) (hl : l.length ≤ 1000000) (w : World) (h : RnVal w v l) (h' : RnVal w v' l') :
    Calls Tryd.prog 13 #[v, v'] w fun e w' => BoolPost w (decide (l = l')) e w' := by
  obtain ⟨a, c, rfl, h⟩ := h
  obtain ⟨a', c', rfl, h'⟩ := h'
  go_enter Tryd.func13, Tryd.ntmps13
  by_cases hn : l.length = l'.length
  · have HH := Lib.hid (And.intro h h')
    clear h h'
    obtain ⟨B, hB⟩ : ∃ B, w.heap.size = B := ⟨_, rfl⟩
    have HBe := Lib.hid hB
    clear hB
    have hnz : (l.length : Int) = l'.length := by omega
    go_wp2
    go_loopw [5, 11, 12, 13, 14, 15, 16, 17, 18, 19, 20, 21, 22, 23, 24, 25] (fun x _ _ _ _ _ _ _ _ _ _ _ _ _ _ _ wr => ∃ k : Nat, x = .int .i64 k ∧ k ≤ l.length ∧ l.take k = l'.take k ∧ Below B w wr)
      (fun x _ _ _ _ _ _ _ _ _ _ _ _ _ _ _ _ => l.length - (intOf x).toNat)
    case atStart => exact ⟨0, rfl, Nat.zero_le _, rfl, Below.refl _ _⟩
    case round =>
      obtain ⟨k, rfl, hk, ht, hb⟩ := hrel
      by_cases hlt : k < l.length
      · have hbs : B ≤ wr.heap.size := by have := hb.size; have := HBe.out; omega
        obtain ⟨b1, o1, rfl, hb1, hc1⟩ := (HH.out.1.keeps (KeepsOn.of_below (K := Lt w.heap.size) hb fun _ h => by rw [← HBe.out]; exact h)) (by intro e; rw [e] at hlt; simp at hlt)
        obtain ⟨b2, o2, rfl, hb2, hc2⟩ := (HH.out.2.keeps (KeepsOn.of_below (K := Lt w.heap.size) hb fun _ h => by rw [← HBe.out]; exact h)) (by intro e; rw [e, List.length_nil] at hn; omega)
        have hck1 := hc1 k hlt
        have hck2 := hc2 k (by omega)
        have ht1 := take_succ_int hlt
        have ht2 := take_succ_int (l := l') (k := k) (by omega)
        have hne := ne_at (l := l) (l' := l') (k := k)
        generalize l[k]?.getD 0 = x at *
        generalize l'[k]?.getD 0 = y at *
        have HX := Lib.hid (And.intro ht (And.intro hb (And.intro ht1 (And.intro ht2 hne))))
        have HBs := Lib.hid hbs
        clear hb ht ht1 ht2 hne hc1 hc2 hbs
        have hlk : (k : Int) < l.length := by omega
        have hlk' : (k : Int) < l'.length := by omega
        go_wp2_with fail
        go_quiet (fail)
        by_cases hxy : x = y
        · subst hxy
          go_wp2_with fail
          go_roundw
          case rel => exact ⟨k + 1, by go_num, by omega, by rw [HX.out.2.2.1, HX.out.2.2.2.1, HX.out.1], below_drewN HX.out.2.1 nq⟩
          case measure => simp [intOf]; omega
        · have hxy' : (x == y) = false := by simpa using hxy
          go_wp2_with fail
          go_ret
          refine ⟨?_, ?_⟩
          · rw [show decide (l = l') = false by simpa using HX.out.2.2.2.2 hxy]; rfl
          · rw [HBe.out]; exact below_drewN HX.out.2.1 nq
      · obtain rfl : k = l.length := by omega
        have hlk : ¬ ((l.length : Int) < l.length) := by omega
        rw [List.take_length, hn, List.take_length] at ht
        have HB2 := Lib.hid hb
        clear hb
        go_wp2_with fail
        go_ret
        refine ⟨?_, ?_⟩
        · rfl
        · rw [HBe.out]; exact HB2.out
  · have hnz : ((l.length : Int) == l'.length) = false := by simp; omega
    clear h h'
    go_wp2
    go_ret
    refine ⟨?_, Below.refl _ _⟩
    rw [show decide (l = l') = false by simp; intro e; exact hn (by rw [e])]; rfl
def strS (q : Int) : Bool := decide (q < 32) || (decide (127 ≤ q) && decide (q < 160)) || (decide (64976 ≤ q) && decide (q ≤ 65007)) || decide (65534 ≤ q % 65536)
set_option maxRecDepth 100000 in
set_option maxHeartbeats 2000000 in
theorem refPlain_any (v : Value) (l : List Int) (hl : l.length ≤ 1000000) (h0 : ∀ q ∈ l, 0 ≤ q ∧ q < 2000000) (w : World) (h : RnVal w v l) :
    Calls Tryd.prog 16 #[v] w fun e w' => BoolPost w (((l.filter strS).length : Int) == 0) e w' := by
  obtain ⟨a, c, rfl, h⟩ := h
  go_enter Tryd.func16, Tryd.ntmps16
  have HH := Lib.hid h
  have H0 := Lib.hid h0
  clear h h0
  go_wp2
  go_loopw [3, 4, 5, 6, 7, 8, 9, 10, 11, 12, 13, 14, 15, 16, 17, 18, 19, 20, 21, 22, 23, 24, 25, 26, 27, 28, 29, 30, 31, 32, 33, 34, 35, 36, 37] (fun x _ _ _ _ _ _ _ _ _ _ _ _ _ _ _ _ _ _ _ _ _ _ _ _ _ _ _ _ _ _ _ _ _ _ wr => ∃ k : Nat, x = .int .i64 k ∧ k ≤ l.length ∧ ((l.take k).filter strS).length = 0 ∧ w = wr)
    (fun x _ _ _ _ _ _ _ _ _ _ _ _ _ _ _ _ _ _ _ _ _ _ _ _ _ _ _ _ _ _ _ _ _ _ _ => l.length - (intOf x).toNat)
  case atStart => exact ⟨0, rfl, Nat.zero_le _, rfl, rfl⟩
  case round =>
    obtain ⟨k, rfl, hk, ht, rfl⟩ := hrel
    by_cases hlt : k < l.length
    · obtain ⟨b1, o1, rfl, hb1, hc1⟩ := HH.out (by intro e; rw [e] at hlt; simp at hlt)
      have hck1 := hc1 k hlt
      have ht1 := take_succ_int hlt
      have hq : 0 ≤ l[k]?.getD 0 ∧ l[k]?.getD 0 < 2000000 := H0.out _ (by rw [List.getElem?_eq_getElem hlt]; exact List.getElem_mem hlt)
      have hin : l[k]?.getD 0 ∈ l := by rw [List.getElem?_eq_getElem hlt]; exact List.getElem_mem hlt
      generalize l[k]?.getD 0 = q at *
      obtain ⟨q0, q1⟩ := hq
      have HX := Lib.hid (And.intro ht (And.intro ht1 hin))
      clear ht ht1 hc1 hin
      have hlk : (k : Int) < l.length := by omega
      cases hs : strS q with
      | false =>
        have hs' : (32 ≤ q ∧ q < 127 ∧ q % 65536 < 65534) ∨ (160 ≤ q ∧ q < 64976 ∧ q % 65536 < 65534) ∨ (65007 < q ∧ q % 65536 < 65534) := by unfold strS at hs; simp at hs; omega
        have HS := Lib.hid hs
        clear hs
        rcases hs' with ⟨_, _, hm⟩ | ⟨_, _, hm⟩ | ⟨_, hm⟩
        all_goals
          go_wp2_with fail
          go_roundw
          case rel => exact ⟨k + 1, by go_num, by omega, by rw [HX.out.2.1, List.filter_append, List.length_append, HX.out.1]; simp [HS.out], trivial⟩
          case measure => simp [intOf]; omega
      | true =>
        have hs' : q < 32 ∨ (127 ≤ q ∧ q < 160) ∨ (64976 ≤ q ∧ q ≤ 65007) ∨ (32 ≤ q ∧ q < 127 ∧ 65534 ≤ q % 65536) ∨ (160 ≤ q ∧ q < 64976 ∧ 65534 ≤ q % 65536) ∨ (65007 < q ∧ 65534 ≤ q % 65536) := by unfold strS at hs; simp at hs; omega
        have hres : (((l.filter strS).length : Int) == 0) = false := by
          rw [beq_eq_false_iff_ne]
          have := List.length_pos_of_mem (List.mem_filter.2 ⟨HX.out.2.2, hs⟩)
          omega
        have HRES := Lib.hid hres
        clear hs hres
        rcases hs' with _ | ⟨_, _⟩ | ⟨_, _⟩ | ⟨_, _, hm⟩ | ⟨_, _, hm⟩ | ⟨_, hm⟩
        all_goals try omega
        all_goals
          go_wp2_with fail
          go_ret
          exact ⟨by rw [HRES.out]; rfl, Below.refl _ _⟩
    · obtain rfl : k = l.length := by omega
      have hlk : ¬ ((l.length : Int) < l.length) := by omega
      rw [List.take_length] at ht
      have HTT := Lib.hid ht
      clear ht
      go_wp2_with fail
      go_ret
      exact ⟨by rw [HTT.out]; rfl, Below.refl _ _⟩
theorem strB_strS {q : Int} (h0 : 0 ≤ q) (h1 : q < 2000000) : strB q = strS q := by
  have hm : bits .and .i32 q 65535 = q % 65536 := bits_mask .i32 31 (by decide) wraps_i32 16 (by decide) q h0 (by omega)
  unfold strB strS inSp
  rw [hm, Bool.eq_iff_iff]
  simp only [Bool.or_eq_true, Bool.and_eq_true, decide_eq_true_eq]
  omega
theorem plnB_strS {s : List UInt8} {rs : List Nat} (hg : ∀ r ∈ rs, r < 2000000) (h : ¬ (textR rs).length < s.length) : plnB s rs = ((((rs.map fun (n : Nat) => (n : Int)).filter strS).length : Int) == 0) := by
  rw [plnB_right h]
  have : (rs.filter fun (r : Nat) => strB r).length = ((rs.map fun (n : Nat) => (n : Int)).filter strS).length := by
    rw [List.filter_map, List.length_map]
    refine congrArg List.length (List.filter_congr fun r hr => ?_)
    have := hg r hr
    exact strB_strS (by omega) (by omega)
  rw [this]
theorem plnB_wrong {s : List UInt8} {rs : List Nat} (h : (textR rs).length < s.length) : plnB s rs = false := by
  unfold plnB plsAll
  rw [if_pos h]
  have : 0 < (suchL strB (pls 0 rs ++ [((textR rs).length, (-1 : Int))])).length := by
    unfold suchL
    rw [List.length_map]
    exact List.length_pos_of_mem (List.mem_filter.2 ⟨List.mem_append_right _ (List.mem_singleton.2 rfl), show strB (-1) = true by simp [strB, inSp]⟩)
  rw [beq_eq_false_iff_ne]
  omega
end Go.Proofs.YtbmnngcogdamkaaDoor
