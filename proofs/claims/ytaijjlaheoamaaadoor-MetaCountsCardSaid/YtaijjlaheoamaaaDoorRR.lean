/- Texts of the proof in one file, in build order: MetaR, MetaRaws. -/
import Derived.Test.YtaijjlaheoamaaaDoorG7
import Derived.Test.YtaijjlaheoamaaaDoorG5
import Derived.Test.YtaijjlaheoamaaaDoorG3
import Derived.Test.YtaijjlaheoamaaaDoorR0
/- Layer 6: the document's bytes of a meta. -/
namespace Go.Proofs.YtaijjlaheoamaaaDoor
open Go.RowKit

theorem Mt.snoc (m : Mt) (k : Nat) (hk : k < 3) : laidParts (m.ps.take k) ++ laidB (m.ps.getD k (0, 0)).1 4 4 = laidParts (m.ps.take (k + 1)) ∧ (laidParts (m.ps.take k)).length ≤ 12 := by
  match k, hk with
  | 0, _ => exact ⟨by simp [Mt.ps, laidParts], by simp [laidParts]⟩
  | 1, _ => exact ⟨by simp [Mt.ps, laidParts], by simp [Mt.ps, laidParts, laidB_len]⟩
  | 2, _ => exact ⟨by simp [Mt.ps, laidParts], by simp [Mt.ps, laidParts, laidB_len]⟩
set_option maxRecDepth 100000 in
set_option maxHeartbeats 4000000 in
theorem mrraw_any (m : Mt) (hok : m.ok) (w : World) : Calls Tryd.prog 17 #[m.val] w fun e w' => LaidPost w m.raw e w' := by
  have hb0 : Below w.heap.size w (w.alloc (.cells #[.int .i64 m.t, .int .i64 m.r, .int .i64 m.f, .int .i64 m.h] 25)) := (Below.refl _ _).alloc (Nat.le_refl _) _
  have hr0 := heap_alloc_new w (.cells #[.int .i64 m.t, .int .i64 m.r, .int .i64 m.f, .int .i64 m.h] 25)
  have hsz : (w.alloc (.cells #[.int .i64 m.t, .int .i64 m.r, .int .i64 m.f, .int .i64 m.h] 25)).heap.size = w.heap.size + 1 := by simp
  have HB := Lib.hid (And.intro hb0 (And.intro hr0 hsz))
  have HK := Lib.hid hok
  obtain ⟨h1, h2, h3, h4, h5⟩ := hok
  have hr : (m.r : Int) ≤ 4096 ∧ (m.f : Int) ≤ 4096 ∧ (m.h : Int) ≤ 4096 := by omega
  have HR := Lib.hid hr
  clear hb0 hr0 hsz hr h1 h2 h3 h4 h5
  go_enter Tryd.func17, Tryd.ntmps17
  go_wp2_with fail
  obtain ⟨hb0, hr0, hsz⟩ := HB.out
  revert hb0 hr0 hsz
  generalize w.alloc (.cells #[.int .i64 m.t, .int .i64 m.r, .int .i64 m.f, .int .i64 m.h] 25) = W
  intro hb0 hr0 hsz
  have HW := Lib.hid (And.intro hb0 (And.intro hr0 hsz))
  clear hb0 hr0 hsz HB
  go_loopw [3, 4, 5, 6, 7, 8, 9, 10, 11, 12, 13, 14, 15, 16, 17, 18, 19, 20, 21, 22, 23, 24, 25, 26, 27, 28] (fun b i _ _ _ _ _ _ _ _ _ _ _ _ _ _ _ _ _ _ _ _ _ _ _ _ wr => ∃ k : Nat, i = .int .i64 k ∧ k ≤ 3 ∧ OwnB wr W.heap.size b (laidParts (m.ps.take k)) ∧ Below W.heap.size W wr)
    (fun _ i _ _ _ _ _ _ _ _ _ _ _ _ _ _ _ _ _ _ _ _ _ _ _ _ _ => 3 - (intOf i).toNat)
  case atStart => exact ⟨0, rfl, Nat.zero_le _, OwnB.nil _ _, Below.refl _ _⟩
  case round =>
    obtain ⟨k, rfl, hk, hO, hbr⟩ := hrel
    obtain ⟨q1, q2, q3⟩ := HR.out
    have hrow := go_row HW.out.2.1 hbr
    have hlS := (Array.getElem?_eq_some_iff.1 hrow).1
    have d1 := cell_of_row wr w.heap.size 1 _ _ _ hrow
    have d2 := cell_of_row wr w.heap.size 2 _ _ _ hrow
    have d3 := cell_of_row wr w.heap.size 3 _ _ _ hrow
    have d0 := cell_of_row wr w.heap.size 0 _ _ _ hrow
    simp only [List.getElem?_toArray, List.getElem?_cons_zero, List.getElem?_cons_succ] at d0 d1 d2 d3
    have HX := Lib.hid (And.intro hO hbr)
    clear hO hbr hrow
    by_cases hlt : k < 3
    · obtain rfl | rfl | rfl : k = 0 ∨ k = 1 ∨ k = 2 := by omega
      · have e1 : IntKind.u64.wrap (m.r : Int) = m.r := by rw [wrapU64]; omega
        have HN := Lib.hid (fun W' => refNum_any m.r (by omega) 4 W')
        clear hlt q1 q2 q3
        go_wp2_with fail
        refine (HN.out _).mono ?_
        rintro e w3 (⟨h, -⟩ | ⟨-, -, g, rfl, hO4, hb3⟩)
        · omega
        have hal : Below wr.heap.size wr (wr.alloc (.cells #[.int .i64 m.r, .int .i64 m.f, .int .i64 m.h] 2)) := (Below.refl _ _).alloc (Nat.le_refl _) _
        obtain ⟨hO, hbr⟩ := HX.out
        obtain ⟨hsn, hle⟩ := m.snoc 0 (by decide)
        have hbs := hO4.isBs
        have hO3 := (hO.below hal).below hb3
        have hB3 := go_on (go_on hbr hal) hb3
        have HY := Lib.hid (And.intro hO3 (And.intro hB3 (And.intro hbs (And.intro hsn hle))))
        clear hO4 hb3 hal hO hbr hsn hle hbs hO3 hB3 HX d0 d1 d2 d3
        go_wp2_with (at_builtin; refine wpList_append_len rfl _ _ rfl W _ (laidParts (m.ps.take 0)) rfl HY.out.1 HY.out.2.1 _ (laidB m.r 4 4) rfl HY.out.2.2.1 (by have := HY.out.2.2.2.2; rw [laidB_len]; omega) ?_; intro v' w' hO' hB'; have HO' := Lib.hid (And.intro hO' hB'); clear hO' hB')
        refine ⟨⟨1, rfl, by decide, ?_, HO'.out.2⟩, by simp [intOf]⟩
        have h1 := HO'.out.1
        rw [show laidParts (m.ps.take 0) ++ laidB m.r 4 4 = laidParts (m.ps.take 1) from HY.out.2.2.2.1] at h1
        exact h1
      · have e1 : IntKind.u64.wrap (m.f : Int) = m.f := by rw [wrapU64]; omega
        have HN := Lib.hid (fun W' => refNum_any m.f (by omega) 4 W')
        clear hlt q1 q2 q3
        go_wp2_with fail
        refine (HN.out _).mono ?_
        rintro e w3 (⟨h, -⟩ | ⟨-, -, g, rfl, hO4, hb3⟩)
        · omega
        have hal : Below wr.heap.size wr (wr.alloc (.cells #[.int .i64 m.r, .int .i64 m.f, .int .i64 m.h] 2)) := (Below.refl _ _).alloc (Nat.le_refl _) _
        obtain ⟨hO, hbr⟩ := HX.out
        obtain ⟨hsn, hle⟩ := m.snoc 1 (by decide)
        have hbs := hO4.isBs
        have hO3 := (hO.below hal).below hb3
        have hB3 := go_on (go_on hbr hal) hb3
        have HY := Lib.hid (And.intro hO3 (And.intro hB3 (And.intro hbs (And.intro hsn hle))))
        clear hO4 hb3 hal hO hbr hsn hle hbs hO3 hB3 HX d0 d1 d2 d3
        go_wp2_with (at_builtin; refine wpList_append_len rfl _ _ rfl W _ (laidParts (m.ps.take 1)) rfl HY.out.1 HY.out.2.1 _ (laidB m.f 4 4) rfl HY.out.2.2.1 (by have := HY.out.2.2.2.2; rw [laidB_len]; omega) ?_; intro v' w' hO' hB'; have HO' := Lib.hid (And.intro hO' hB'); clear hO' hB')
        refine ⟨⟨2, rfl, by decide, ?_, HO'.out.2⟩, by simp [intOf]⟩
        have h1 := HO'.out.1
        rw [show laidParts (m.ps.take 1) ++ laidB m.f 4 4 = laidParts (m.ps.take 2) from HY.out.2.2.2.1] at h1
        exact h1
      · have e1 : IntKind.u64.wrap (m.h : Int) = m.h := by rw [wrapU64]; omega
        have HN := Lib.hid (fun W' => refNum_any m.h (by omega) 4 W')
        clear hlt q1 q2 q3
        go_wp2_with fail
        refine (HN.out _).mono ?_
        rintro e w3 (⟨h, -⟩ | ⟨-, -, g, rfl, hO4, hb3⟩)
        · omega
        have hal : Below wr.heap.size wr (wr.alloc (.cells #[.int .i64 m.r, .int .i64 m.f, .int .i64 m.h] 2)) := (Below.refl _ _).alloc (Nat.le_refl _) _
        obtain ⟨hO, hbr⟩ := HX.out
        obtain ⟨hsn, hle⟩ := m.snoc 2 (by decide)
        have hbs := hO4.isBs
        have hO3 := (hO.below hal).below hb3
        have hB3 := go_on (go_on hbr hal) hb3
        have HY := Lib.hid (And.intro hO3 (And.intro hB3 (And.intro hbs (And.intro hsn hle))))
        clear hO4 hb3 hal hO hbr hsn hle hbs hO3 hB3 HX d0 d1 d2 d3
        go_wp2_with (at_builtin; refine wpList_append_len rfl _ _ rfl W _ (laidParts (m.ps.take 2)) rfl HY.out.1 HY.out.2.1 _ (laidB m.h 4 4) rfl HY.out.2.2.1 (by have := HY.out.2.2.2.2; rw [laidB_len]; omega) ?_; intro v' w' hO' hB'; have HO' := Lib.hid (And.intro hO' hB'); clear hO' hB')
        refine ⟨⟨3, rfl, by decide, ?_, HO'.out.2⟩, by simp [intOf]⟩
        have h1 := HO'.out.1
        rw [show laidParts (m.ps.take 2) ++ laidB m.h 4 4 = laidParts (m.ps.take 3) from HY.out.2.2.2.1] at h1
        exact h1
    · obtain rfl : k = 3 := by omega
      have hlt3 : ¬ ((3 : Int) < 3) := by decide
      obtain ⟨hO, hbr⟩ := HX.out
      obtain ⟨a, c, ev, hm1, hle, -, hno, -⟩ := hO.form
      rw [show laidParts (m.ps.take 3) = m.body from rfl, Mt.body_len] at ev hle
      subst ev
      have hm : (m.t : Int).tmod 2 = ((m.t % 2 : Nat) : Int) := Int.tmod_eq_emod_of_nonneg (by omega)
      have hw : wrap64 ((m.t % 2 : Nat) : Int) = ((m.t % 2 : Nat) : Int) := by unfold wrap64; omega
      have hbw : Below w.heap.size w wr := HW.out.1.trans (hbr.mono (by have := HW.out.2.2; omega))
      have hrw := rraw_any (m.t % 2) (by omega) m.pg (Mt.pg_ok HK.out) a c wr _ (Nat.le_refl _) hm1 hno (by rw [show m.pg.b.length = 12 from m.body_len]; exact hle)
      rw [show m.pg.b.length = 12 from m.body_len] at hrw
      have HQ := Lib.hid (And.intro hrw hbw)
      clear hO hbr hm1 hle hno hbw hrw HX d1 d2 d3 q1 q2 q3 hlt
      generalize ((m.t % 2 : Nat) : Int) = z at hm hw HQ
      go_wp2_with fail
      refine HQ.out.1.mono ?_
      have HQ2 := Lib.hid HQ.out.2
      clear HQ hm hw d0
      rintro e w5 ⟨v, rfl, hO5, hb5⟩
      have HO5 := Lib.hid (And.intro hO5 hb5)
      clear hO5 hb5
      go_wp2
      go_ret
      exact ⟨v, rfl, HO5.out.1.mono HQ2.out.size, go_on HQ2.out HO5.out.2⟩
end Go.Proofs.YtaijjlaheoamaaaDoor
/- Layer 6: the law on the bytes of any meta. Printed by wip/tools/mkraws6.py. -/
namespace Go.Proofs.YtaijjlaheoamaaaDoor
open Go.RowKit

section
variable {ops : Array Oper} {Q : Exit → Act → World → Prop} {i : Nat} {o : Oper} {a : Act} {w : World} {K : Act → World → Prop}
theorem wpOp_eqE {x y : Operand} {n m : Int} {c : Bool} (ho : ops[i]? = some o) (hg : Region.wanted o (yielded ops a.tmps) = true) (hop : o.op = .binOp .eql 26 x y 26) (hx : a.eval x = .int .i64 n) (hy : a.eval y = .int .i64 m) (hc : (n == m) = c) (hK : K (a.put o.dst (.bool c)) w) : wpOp Tryd.prog ops Q i K a w := by
  subst hc
  exact wpOp_val ho hg (by simp only [execOp, hop, hx, hy]; simp [go_sem]) hK
theorem wpOp_eqM {x y : Operand} {t r f h : Int} (ho : ops[i]? = some o) (hg : Region.wanted o (yielded ops a.tmps) = true) (hop : o.op = .binOp .eql 25 x y 25) (hx : a.eval x = mtv t r f h) (hy : a.eval y = mtv t r f h) (hK : K (a.put o.dst (.bool true)) w) : wpOp Tryd.prog ops Q i K a w :=
  wpOp_val (v := .bool true) (w' := w) ho hg (by simp only [execOp, hop, hx, hy]; simp [go_sem]) hK
theorem wpOp_neqB {x y : Operand} {b : Bool} (ho : ops[i]? = some o) (hg : Region.wanted o (yielded ops a.tmps) = true) (hop : o.op = .binOp .neq 4 x y 4) (hx : a.eval x = .bool b) (hy : a.eval y = .bool b) (hK : K (a.put o.dst (.bool false)) w) : wpOp Tryd.prog ops Q i K a w :=
  wpOp_val (v := .bool false) (w' := w) ho hg (by simp only [execOp, hop, hx, hy]; simp [go_sem]) hK
theorem wpOp_max0 {x : Operand} {n : Int} (ho : ops[i]? = some o) (hg : Region.wanted o (yielded ops a.tmps) = true) (hop : o.op = .call { callee := .builtin .max, args := #[x, .const (.int .i64 0)], argTypes := #[2, 2] }) (hx : a.eval x = .int .i64 n) (hK : K (a.put o.dst (.int .i64 (max n 0))) w) : wpOp Tryd.prog ops Q i K a w := by
  refine wpOp_val (v := .int .i64 (max n 0)) (w' := w) ho hg ?_ hK
  simp only [execOp, hop, resolve, invoke, Go.builtin, List.map_toArray, List.map_cons, List.map_nil, hx]
  by_cases h : n < 0
  · rw [show max n 0 = 0 by omega]; simp [go_sem, h]
  · rw [show max n 0 = n by omega]; simp [go_sem, h]
theorem wpOp_rem2 {x : Operand} {n m : Int} (ho : ops[i]? = some o) (hg : Region.wanted o (yielded ops a.tmps) = true) (hop : o.op = .binOp .rem 2 x (.const (.int .i64 2)) 2) (hx : a.eval x = .int .i64 n) (hm : n.tmod 2 = m) (hK : K (a.put o.dst (.int .i64 m)) w) : wpOp Tryd.prog ops Q i K a w := by
  refine wpOp_val (v := .int .i64 m) (w' := w) ho hg ?_ hK
  subst hm
  simp only [execOp, hop, hx]
  simp [go_sem]
end
def RsN (S : Nat) (t : Int) (v5 : Value) : Nat → Value → World → Prop
  | 0, v, _ => v = .slice none 0 0
  | 1, v, _ => v = .int .i64 0
  | 2, v, _ => v = .bool true
  | 3, v, _ => v = .bool true
  | 4, v, _ => v = .int .i64 2
  | 5, v, _ => v = .bool true
  | 6, v, _ => v = .bool true
  | 7, v, _ => v = .bool true
  | 8, v, _ => v = mpt S 0
  | 9, v, _ => v = .int .i64 t
  | 10, v, _ => v = v5
  | 11, v, _ => v = mpt S 0
  | 12, v, _ => v = .int .i64 t
  | 13, v, _ => v = .int .i64 (max t 0)
  | 14, v, _ => v = v5
  | 15, v, _ => v = .bool true
  | 16, v, _ => v = .bool true
  | 17, v, _ => v = .bool true
  | 18, v, _ => v = .bool true
  | 19, v, _ => v = .bool true
  | 20, v, _ => v = .bool true
  | _, _, _ => True
theorem RsN.below {S : Nat} {t : Int} {v5 : Value} {w' w'' : World} (_ : Below w'.heap.size w' w'') : ∀ j v, RsN S t v5 j v w' → RsN S t v5 j v w'' := fun j _ k => match j, k with
  | 0, k => k
  | 1, k => k
  | 2, k => k
  | 3, k => k
  | 4, k => k
  | 5, k => k
  | 6, k => k
  | 7, k => k
  | 8, k => k
  | 9, k => k
  | 10, k => k
  | 11, k => k
  | 12, k => k
  | 13, k => k
  | 14, k => k
  | 15, k => k
  | 16, k => k
  | 17, k => k
  | 18, k => k
  | 19, k => k
  | 20, k => k
  | _ + 21, _ => trivial
def RsY (S : Nat) (t : Int) (v3 v5 v5m : Value) (raw : List UInt8) : Nat → Value → World → Prop
  | 0, v, _ => v = .int .i64 0
  | 1, v, _ => v = .bool true
  | 2, v, _ => v = .bool true
  | 3, v, _ => v = v3
  | 4, v, _ => v = .string ⟨raw.toArray⟩
  | 5, v, _ => v = v5m
  | 6, v, w' => IsBs w'.heap.size w' v raw
  | 7, v, _ => v = .string ⟨raw.toArray⟩
  | 8, v, _ => v = .bool true
  | 9, v, _ => v = .bool true
  | 10, v, _ => v = .bool true
  | 11, v, _ => v = .int .i64 0
  | 12, v, _ => v = .bool true
  | 13, v, _ => v = .bool true
  | 14, v, _ => v = .bool true
  | 15, v, _ => v = v5m
  | 16, v, _ => v = v5m
  | 17, v, _ => v = .bool true
  | 18, v, _ => v = .bool true
  | 19, v, _ => v = .bool true
  | 20, v, _ => v = .int .i64 160
  | 21, v, _ => v = .bool true
  | 22, v, _ => v = .bool true
  | 23, v, _ => v = .bool true
  | 24, v, _ => v = mpt S 0
  | 25, v, _ => v = .int .i64 t
  | 26, v, _ => v = v5
  | 27, v, _ => v = mpt S 0
  | 28, v, _ => v = .int .i64 t
  | 29, v, _ => v = v5
  | 30, v, _ => v = .bool true
  | 31, v, _ => v = .bool true
  | 32, v, _ => v = .bool true
  | 33, v, _ => v = .bool true
  | 34, v, _ => v = .bool true
  | 35, v, _ => v = .bool true
  | _, _, _ => True
theorem RsY.below {S : Nat} {t : Int} {v3 v5 v5m : Value} {raw : List UInt8} {w' w'' : World} (hb : Below w'.heap.size w' w'') : ∀ j v, RsY S t v3 v5 v5m raw j v w' → RsY S t v3 v5 v5m raw j v w'' := fun j _ k => match j, k with
  | 0, k => k
  | 1, k => k
  | 2, k => k
  | 3, k => k
  | 4, k => k
  | 5, k => k
  | 6, k => IsBs.mono (IsBs.below k hb) hb.size
  | 7, k => k
  | 8, k => k
  | 9, k => k
  | 10, k => k
  | 11, k => k
  | 12, k => k
  | 13, k => k
  | 14, k => k
  | 15, k => k
  | 16, k => k
  | 17, k => k
  | 18, k => k
  | 19, k => k
  | 20, k => k
  | 21, k => k
  | 22, k => k
  | 23, k => k
  | 24, k => k
  | 25, k => k
  | 26, k => k
  | 27, k => k
  | 28, k => k
  | 29, k => k
  | 30, k => k
  | 31, k => k
  | 32, k => k
  | 33, k => k
  | 34, k => k
  | 35, k => k
  | _ + 36, _ => trivial
def RsC (mb : Bool) (mv : Value) : Nat → Value → World → Prop
  | 0, v, _ => v = mv
  | 1, v, _ => v = .int .i64 (if mb then 0 else 2)
  | 2, v, _ => v = .bool mb
  | 3, v, _ => v = mv
  | 4, v, _ => v = .bool mb
  | 5, v, _ => v = .bool false
  | _, _, _ => True
theorem RsC.any {mb : Bool} {mv : Value} {w' w'' : World} : ∀ j v, RsC mb mv j v w' → RsC mb mv j v w'' := fun j _ k => match j, k with
  | 0, k => k
  | 1, k => k
  | 2, k => k
  | 3, k => k
  | 4, k => k
  | 5, k => k
  | _ + 6, _ => trivial
set_option maxRecDepth 100000 in
set_option maxHeartbeats 16000000 in
theorem metaRaws_any (t r f h : Int) (w : World) (hT : Tab w) (hg : 0 + 1 ≤ w.heap.size) :
    Calls Tryd.prog 4 #[mtv t r f h] w fun e w' => e = .returned (.bool true) ∧ Below w.heap.size w w' := by
  have hb0 : Below w.heap.size w (w.alloc (.cells #[.int .i64 t, .int .i64 r, .int .i64 f, .int .i64 h] 25)) := (Below.refl _ _).alloc (Nat.le_refl _) _
  have hr0 := heap_alloc_new w (.cells #[.int .i64 t, .int .i64 r, .int .i64 f, .int .i64 h] 25)
  have H0 := Lib.hid (mraw_any t r f h _ (hT.below hg hb0) (Nat.le_trans hg hb0.size))
  have HB := Lib.hid (And.intro hb0 hr0)
  have HT := Lib.hid (And.intro hT hg)
  clear hT hg hb0 hr0
  go_enter Tryd.func4, Tryd.ntmps4
  go_wp2_with fail
  refine H0.out.mono ?_
  rintro e w1 ⟨hb1, aa, nn, cc, e1, rfl, hc1⟩
  have hbw := go_on HB.out.1 hb1
  have hR := go_row HB.out.2 hb1
  have hl := (Array.getElem?_eq_some_iff.1 hR).1
  have HX := Lib.hid (And.intro hbw (And.intro hR hc1))
  clear hb1 hbw hR hc1 HB H0
  go_wp2_with fail
  obtain ⟨mb, hmb⟩ : ∃ mb, metaB t r f h = mb := ⟨_, rfl⟩
  refine wp_region_m (fun _ w' => Below w1.heap.size w1 w') (RsC mb (mtv t r f h)) (by kernel_rfl) (by kernel_rfl) (by kernel_rfl) (by kernel_rfl) (Below.refl _ _).drew ?step ?fin
  case step =>
    intro q o ho listed a' w' hI hn' hpre
    have hq : q < 6 := (Array.getElem?_eq_some_iff.1 ho).1
    have hB := hI.inv
    have hrow := go_row HX.out.2.1 hB
    match q, hq with
    | 0, _ =>
      cases ho
      exact wpOp_load rfl rfl rfl (hI.kept (t := 1) (by kernel_rfl)) (load_mtv hrow) ⟨_, rfl, hB, fun _ => rfl, fun _ _ _ h => h⟩
    | 1, _ =>
      cases ho
      have e0 : a'.eval (.tmp 14) = mtv t r f h := hI.slot 0 14 rfl (hpre ⟨0, .data⟩ (by simp) rfl) rfl
      refine wpOp_callFn rfl rfl rfl (vs := #[mtv t r f h]) (by simp only [List.map_toArray, List.map_cons, List.map_nil, e0]) (fun _ _ => by kernel_rfl) ((mcheck_any t r f h w').mono ?_)
      rintro e w'' ⟨rfl, hb2⟩
      rw [hmb]
      exact ⟨_, rfl, _, rfl, hB.trans (hb2.mono hB.size), fun _ => rfl, fun j v _ h => RsC.any j v h⟩
    | 2, _ =>
      cases ho
      have e0 : a'.eval (.tmp 15) = .int .i64 (if mb then 0 else 2) := hI.slot 1 15 rfl (hpre ⟨1, .data⟩ (by simp) rfl) rfl
      exact wpOp_eqE rfl rfl rfl e0 rfl (m := 0) (c := mb) (by cases mb <;> rfl) ⟨_, rfl, hB, fun _ => rfl, fun _ _ _ h => h⟩
    | 3, _ =>
      cases ho
      exact wpOp_load rfl rfl rfl (hI.kept (t := 1) (by kernel_rfl)) (load_mtv hrow) ⟨_, rfl, hB, fun _ => rfl, fun _ _ _ h => h⟩
    | 4, _ =>
      cases ho
      have e0 : a'.eval (.tmp 17) = mtv t r f h := hI.slot 3 17 rfl (hpre ⟨3, .data⟩ (by simp) rfl) rfl
      refine wpOp_callFn rfl rfl rfl (vs := #[mtv t r f h]) (by simp only [List.map_toArray, List.map_cons, List.map_nil, e0]) (fun _ _ => by kernel_rfl) ((mright_any t r f h w').mono ?_)
      rintro e w'' ⟨rfl, hb2⟩
      rw [hmb]
      exact ⟨_, rfl, _, rfl, hB.trans (hb2.mono hB.size), fun _ => rfl, fun j v _ h => RsC.any j v h⟩
    | 5, _ =>
      cases ho
      have e0 : a'.eval (.tmp 16) = .bool mb := hI.slot 2 16 rfl (hpre ⟨2, .data⟩ (by simp) rfl) rfl
      have e4 : a'.eval (.tmp 18) = .bool mb := hI.slot 4 18 rfl (hpre ⟨4, .data⟩ (by simp) rfl) rfl
      exact wpOp_neqB rfl rfl rfl e0 e4 ⟨_, rfl, hB, fun _ => rfl, fun _ _ _ h => h⟩
  case fin =>
    intro listed a' w2 hI hall
    have hB := hI.inv
    have e19 : a'.tmps.getD 19 undef = .bool false := hI.slot 5 19 rfl (hall 5 (by decide)) rfl
    obtain ⟨vs, hvl, hvs, e⟩ := hI.frame 14 6 (Nat.le_of_ble_eq_true (by kernel_rfl)) (by kernel_rfl)
    have v5 := hvs 5 (by decide)
    clear hI hall hvs
    match vs, hvl with
    | [t0, t1, t2, t3, t4, t5], _ =>
    simp only [List.getElem?_cons_zero, List.getElem?_cons_succ, Option.some.injEq] at v5
    rw [show 14 + 5 = 19 from rfl, e19] at v5
    subst v5
    simp only [List.take_succ_cons, List.take_zero, List.drop_succ_cons, List.drop_zero, List.cons_append, List.nil_append, Nat.reduceAdd] at e
    subst e
    obtain ⟨hbw1, hR1, hc1⟩ := HX.out
    have hbw := go_on hbw1 hB
    have hrow := go_row hR1 hB
    have hl2 := (Array.getElem?_eq_some_iff.1 hrow).1
    have c0 := cell_of_row w2 w.heap.size 0 _ _ _ hrow
    have c1 := cell_of_row w2 w.heap.size 1 _ _ _ hrow
    have c2 := cell_of_row w2 w.heap.size 2 _ _ _ hrow
    have c3 := cell_of_row w2 w.heap.size 3 _ _ _ hrow
    simp only [List.getElem?_toArray, List.getElem?_cons_zero, List.getElem?_cons_succ] at c0 c1 c2 c3
    have HRT := Lib.hid (mright_any t r f h w2)
    rw [hmb] at HRT
    have HX2 := Lib.hid (And.intro hbw (And.intro hrow (And.intro hB (And.intro hc1 hmb))))
    clear e19 hB hbw1 hR1 hc1 hbw hrow HX hl hmb
    cases mb with
    | false =>
      go_wp2_with (go_at_call 15; refine HRT.out.mono ?_; rintro e w3 ⟨rfl, hb3⟩; have HB3 := Lib.hid hb3; clear hb3)
      obtain ⟨hbw, hrow', hB, hc1, hmb⟩ := HX2.out
      rcases hc1 with ⟨-, -, m, hok, q1, q2, q3, q4, -⟩ | ⟨rfl, rfl, rfl, rfl, -⟩
      · rw [Mt.ok_iff.2 ⟨m, hok, q1, q2, q3, q4⟩] at hmb; cases hmb
      have hrow := go_row hrow' HB3.out
      have hbw3 := go_on hbw HB3.out
      have hkn := fun w' (hB : Below w3.heap.size w3 w') => mknown_any w' (HT.out.1.below HT.out.2 (go_on hbw3 hB)) (Nat.le_trans HT.out.2 (go_on hbw3 hB).size)
      have hwt : Value.int .i64 (whereI t) = .int .i64 (whereI t) := rfl
      have hrm : (max t 0).tmod 2 = whereI t ∧ wrap64 (whereI t) = whereI t := by
        have h1 : whereI t = (max t 0) % 2 := by unfold whereI; split <;> omega
        rw [h1]
        exact ⟨Int.tmod_eq_emod_of_nonneg (by omega), by unfold wrap64; omega⟩
      clear c0 c1 c2 c3 hmb hl2 HRT
      refine wp_region_m (fun _ w' => Below w3.heap.size w3 w') (RsN w.heap.size t (.int .i64 (whereI t))) (by kernel_rfl) (by kernel_rfl) (by kernel_rfl) (by kernel_rfl) (Below.refl _ _).drew ?stepn ?finn
      case stepn =>
        intro q o ho listed a' w' hI hn' hpre
        have hq : q < 21 := (Array.getElem?_eq_some_iff.1 ho).1
        have hB := hI.inv
        match q, hq with
        | 0, _ =>
          cases ho
          exact wpOp_move rfl rfl (.inl rfl) (hI.kept (t := 3) (by kernel_rfl)) ⟨_, rfl, hB, fun _ => rfl, fun _ _ _ h => h⟩
        | 1, _ =>
          cases ho
          exact wpOp_lenS rfl rfl rfl (hI.slot 0 23 rfl (hpre ⟨0, .data⟩ (by simp) rfl) rfl) ⟨_, rfl, hB, fun _ => rfl, fun _ _ _ h => h⟩
        | 2, _ =>
          cases ho
          exact wpOp_eqI rfl rfl rfl (hI.slot 1 24 rfl (hpre ⟨1, .data⟩ (by simp) rfl) rfl) rfl (m := 0) ⟨_, rfl, hB, fun _ => rfl, fun _ _ _ h => h⟩
        | 3, _ =>
          cases ho
          exact wpOp_move rfl rfl (.inl rfl) (hI.slot 2 25 rfl (hpre ⟨2, .data⟩ (by simp) rfl) rfl) ⟨_, rfl, hB, fun _ => rfl, fun _ _ _ h => h⟩
        | 4, _ =>
          cases ho
          exact wpOp_move rfl (wantedOf (j := 3) (b := true) rfl rfl rfl (by rw [hI.len]; show _ < 95; decide) (hI.slot 3 26 rfl (hpre ⟨3, .guard⟩ (by simp) rfl) rfl)) (.inl rfl) (hI.kept (t := 4) (by kernel_rfl)) ⟨_, rfl, hB, fun _ => rfl, fun _ _ _ h => h⟩
        | 5, _ =>
          cases ho
          exact wpOp_eqE rfl (wantedOf (j := 3) (b := true) rfl rfl rfl (by rw [hI.len]; show _ < 95; decide) (hI.slot 3 26 rfl (hpre ⟨3, .guard⟩ (by simp) rfl) rfl)) rfl (hI.slot 4 27 rfl (hpre ⟨4, .data⟩ (by simp) rfl) rfl) rfl (m := 2) (c := true) (by rfl) ⟨_, rfl, hB, fun _ => rfl, fun _ _ _ h => h⟩
        | 6, _ =>
          cases ho
          have e0 : a'.eval (.tmp 26) = .bool true := (hI.slot 3 26 rfl (hpre ⟨3, .data⟩ (by simp) rfl) rfl)
          have e1 : a'.eval (.tmp 28) = .bool true := (hI.slot 5 28 rfl (hpre ⟨5, .data⟩ (by simp) rfl) rfl)
          exact wpOp_pick2 rfl rfl rfl e0 (fun _ => e1) (fun h => by cases h) rfl ⟨_, rfl, hB, fun _ => rfl, fun _ _ _ h => h⟩
        | 7, _ =>
          cases ho
          exact wpOp_move rfl rfl (.inl rfl) (hI.slot 6 29 rfl (hpre ⟨6, .data⟩ (by simp) rfl) rfl) ⟨_, rfl, hB, fun _ => rfl, fun _ _ _ h => h⟩
        | 8, _ =>
          cases ho
          exact wpOp_field rfl (wantedOf (j := 7) (b := true) rfl rfl rfl (by rw [hI.len]; show _ < 95; decide) (hI.slot 7 30 rfl (hpre ⟨7, .guard⟩ (by simp) rfl) rfl)) rfl (hI.kept (t := 1) (by kernel_rfl)) (v := mpt w.heap.size 0) (w' := w') (by simp [go_sem]) ⟨_, rfl, hB, fun _ => rfl, fun _ _ _ h => h⟩
        | 9, _ =>
          cases ho
          exact wpOp_load rfl (wantedOf (j := 7) (b := true) rfl rfl rfl (by rw [hI.len]; show _ < 95; decide) (hI.slot 7 30 rfl (hpre ⟨7, .guard⟩ (by simp) rfl) rfl)) rfl (hI.slot 8 31 rfl (hpre ⟨8, .data⟩ (by simp) rfl) rfl) (load_cellR (Tryd.isAgg2 w') (v := .int .i64 t) (cell_of_row w' w.heap.size 0 _ _ _ (go_row hrow hB))) ⟨_, rfl, hB, fun _ => rfl, fun _ _ _ h => h⟩
        | 10, _ =>
          cases ho
          have e0 : a'.eval (.tmp 32) = .int .i64 t := (hI.slot 9 32 rfl (hpre ⟨9, .data⟩ (by simp) rfl) rfl)
          refine wpOp_callFn rfl (wantedOf (j := 7) (b := true) rfl rfl rfl (by rw [hI.len]; show _ < 95; decide) (hI.slot 7 30 rfl (hpre ⟨7, .guard⟩ (by simp) rfl) rfl)) rfl (vs := #[.int .i64 t]) (by simp only [List.map_toArray, List.map_cons, List.map_nil, e0]) (fun _ _ => by kernel_rfl) ((where_any t w').mono ?_)
          rintro e w'' ⟨rfl, rfl⟩
          exact ⟨_, rfl, _, rfl, hB, fun _ => rfl, fun _ _ _ h => h⟩
        | 11, _ =>
          cases ho
          exact wpOp_field rfl (wantedOf (j := 7) (b := true) rfl rfl rfl (by rw [hI.len]; show _ < 95; decide) (hI.slot 7 30 rfl (hpre ⟨7, .guard⟩ (by simp) rfl) rfl)) rfl (hI.kept (t := 1) (by kernel_rfl)) (v := mpt w.heap.size 0) (w' := w') (by simp [go_sem]) ⟨_, rfl, hB, fun _ => rfl, fun _ _ _ h => h⟩
        | 12, _ =>
          cases ho
          exact wpOp_load rfl (wantedOf (j := 7) (b := true) rfl rfl rfl (by rw [hI.len]; show _ < 95; decide) (hI.slot 7 30 rfl (hpre ⟨7, .guard⟩ (by simp) rfl) rfl)) rfl (hI.slot 11 34 rfl (hpre ⟨11, .data⟩ (by simp) rfl) rfl) (load_cellR (Tryd.isAgg2 w') (v := .int .i64 t) (cell_of_row w' w.heap.size 0 _ _ _ (go_row hrow hB))) ⟨_, rfl, hB, fun _ => rfl, fun _ _ _ h => h⟩
        | 13, _ =>
          cases ho
          exact wpOp_max0 rfl (wantedOf (j := 7) (b := true) rfl rfl rfl (by rw [hI.len]; show _ < 95; decide) (hI.slot 7 30 rfl (hpre ⟨7, .guard⟩ (by simp) rfl) rfl)) rfl (hI.slot 12 35 rfl (hpre ⟨12, .data⟩ (by simp) rfl) rfl) ⟨_, rfl, hB, fun _ => rfl, fun _ _ _ h => h⟩
        | 14, _ =>
          cases ho
          exact wpOp_rem2 rfl (wantedOf (j := 7) (b := true) rfl rfl rfl (by rw [hI.len]; show _ < 95; decide) (hI.slot 7 30 rfl (hpre ⟨7, .guard⟩ (by simp) rfl) rfl)) rfl (hI.slot 13 36 rfl (hpre ⟨13, .data⟩ (by simp) rfl) rfl) hrm.1 ⟨_, rfl, hB, fun _ => rfl, fun _ _ _ h => h⟩
        | 15, _ =>
          cases ho
          exact wpOp_eqI6 rfl (wantedOf (j := 7) (b := true) rfl rfl rfl (by rw [hI.len]; show _ < 95; decide) (hI.slot 7 30 rfl (hpre ⟨7, .guard⟩ (by simp) rfl) rfl)) rfl (hI.slot 10 33 rfl (hpre ⟨10, .data⟩ (by simp) rfl) rfl) (hI.slot 14 37 rfl (hpre ⟨14, .data⟩ (by simp) rfl) rfl) (c := true) (by simp) ⟨_, rfl, hB, fun _ => rfl, fun _ _ _ h => h⟩
        | 16, _ =>
          cases ho
          have e0 : a'.eval (.tmp 30) = .bool true := (hI.slot 7 30 rfl (hpre ⟨7, .data⟩ (by simp) rfl) rfl)
          have e1 : a'.eval (.tmp 38) = .bool true := (hI.slot 15 38 rfl (hpre ⟨15, .data⟩ (by simp) rfl) rfl)
          exact wpOp_pick2 rfl rfl rfl e0 (fun _ => e1) (fun h => by cases h) rfl ⟨_, rfl, hB, fun _ => rfl, fun _ _ _ h => h⟩
        | 17, _ =>
          cases ho
          exact wpOp_move rfl rfl (.inl rfl) (hI.slot 16 39 rfl (hpre ⟨16, .data⟩ (by simp) rfl) rfl) ⟨_, rfl, hB, fun _ => rfl, fun _ _ _ h => h⟩
        | 18, _ =>
          cases ho
          refine wpOp_callFn rfl (wantedOf (j := 17) (b := true) rfl rfl rfl (by rw [hI.len]; show _ < 95; decide) (hI.slot 17 40 rfl (hpre ⟨17, .guard⟩ (by simp) rfl) rfl)) rfl (vs := #[]) (by simp) (fun _ _ => by kernel_rfl) ((hkn w' hB).mono ?_)
          rintro e w'' ⟨rfl, hb2⟩
          exact ⟨_, rfl, _, rfl, hB.trans (hb2.mono hB.size), fun _ => rfl, fun j v _ h => RsN.below hb2 j v h⟩
        | 19, _ =>
          cases ho
          have e0 : a'.eval (.tmp 40) = .bool true := (hI.slot 17 40 rfl (hpre ⟨17, .data⟩ (by simp) rfl) rfl)
          have e1 : a'.eval (.tmp 41) = .bool true := (hI.slot 18 41 rfl (hpre ⟨18, .data⟩ (by simp) rfl) rfl)
          exact wpOp_pick2 rfl rfl rfl e0 (fun _ => e1) (fun h => by cases h) rfl ⟨_, rfl, hB, fun _ => rfl, fun _ _ _ h => h⟩
        | 20, _ =>
          cases ho
          exact wpOp_move rfl rfl (.inr rfl) (hI.slot 19 42 rfl (hpre ⟨19, .data⟩ (by simp) rfl) rfl) ⟨_, rfl, hB, fun _ => rfl, fun _ _ _ h => h⟩
      case finn =>
        intro listed a' w4 hI hall
        have hB := hI.inv
        have e2 : a'.tmps.getD 2 undef = .bool true := hI.slot 20 2 rfl (hall 20 (by decide)) rfl
        obtain ⟨vs, us, hvl, hul, hvs, hus, e⟩ := hI.frame2 2 1 23 20 (by decide) (Nat.le_of_ble_eq_true (by kernel_rfl)) (by kernel_rfl)
        have v0 := hvs 0 (by decide)
        clear hI hall hvs hus
        match vs, hvl, us, hul with
        | [z2], _, [z23, z24, z25, z26, z27, z28, z29, z30, z31, z32, z33, z34, z35, z36, z37, z38, z39, z40, z41, z42], _ =>
        simp only [List.getElem?_cons_zero, Option.some.injEq] at v0
        rw [show 2 + 0 = 2 from rfl, e2] at v0
        subst v0
        simp only [List.take_succ_cons, List.take_zero, List.drop_succ_cons, List.drop_zero, List.cons_append, List.nil_append, Nat.reduceAdd, Nat.reduceSub] at e
        subst e
        go_wp2
        go_ret
        exact ⟨rfl, go_on hbw3 hB⟩
    | true =>
      obtain ⟨-, -, hCW, hc1, hmb⟩ := HX2.out
      have HCW := Lib.hid hCW
      clear hCW
      rcases hc1 with ⟨rfl, rfl, m, hok, rfl, rfl, rfl, rfl, hO⟩ | ⟨-, -, -, -, h⟩
      case inr => rw [h] at hmb; cases hmb
      have HOK := Lib.hid hok
      have HO := Lib.hid hO
      have hm : (m.t : Int).tmod 2 = ((m.t % 2 : Nat) : Int) := Int.tmod_eq_emod_of_nonneg (by omega)
      have hw : wrap64 ((m.t % 2 : Nat) : Int) = ((m.t % 2 : Nat) : Int) := by unfold wrap64; omega
      have hw1 : wrap64 (1 - ((m.t % 2 : Nat) : Int)) = 1 - ((m.t % 2 : Nat) : Int) := by unfold wrap64; omega
      obtain ⟨z, hz⟩ : ∃ z, ((m.t % 2 : Nat) : Int) = z := ⟨_, rfl⟩
      rw [hz] at hm hw hw1
      have HZ := Lib.hid hz
      have HM := Lib.hid hm
      clear hok hO hmb hz
      go_wp2_with (go_at_call 15; refine HRT.out.mono ?_; rintro e w3 ⟨rfl, hb3⟩; have hrw3 := go_row HX2.out.2.1 hb3; have k0 := cell_of_row w3 w.heap.size 0 _ _ _ hrw3; simp only [List.getElem?_toArray, List.getElem?_cons_zero] at k0; have HB3 := Lib.hid hb3; clear hb3 hrw3)
      obtain ⟨hbw2, hrow2, -, -, -⟩ := HX2.out
      have hbw3 := go_on hbw2 HB3.out
      have hrow3 := go_row hrow2 HB3.out
      have hO3 := (HO.out.below HCW.out).below HB3.out
      obtain ⟨aa', cc', ev, hmb3, hnb, hlb⟩ := own256 HOK.out hO3
      cases ev
      have hlen := Mt.raw_len HOK.out
      have hp0 := mparse_opt z m.raw aa cc _ (by omega) (by omega) w3 hmb3 (Nat.le_refl _) hnb (HT.out.1.below HT.out.2 hbw3) (Nat.le_trans HT.out.2 hbw3.size) (some m) (by have := isMt_self HOK.out; rw [HZ.out] at this; exact this)
      have hp1 := fun w' (h : Below w3.heap.size w3 w') => mparse_opt (1 - z) m.raw aa cc _ (by omega) (by omega) w' (hmb3.below h) h.size hnb (HT.out.1.below HT.out.2 (go_on hbw3 h)) (Nat.le_trans HT.out.2 (go_on hbw3 h).size) none (no_other HOK.out (by rw [HZ.out]; omega))
      rw [hlen, show optM (some m) = m.val from rfl, show optE z m.raw (some m) = 0 from rfl] at hp0
      simp only [hlen, show optM none = mtv 0 0 0 0 from rfl, show optE (1 - z) m.raw none = 160 from errM_raw HOK.out (by have := HZ.out; omega)] at hp1
      have H0 := Lib.hid hp0
      have H1 := Lib.hid hp1
      have HX3 := Lib.hid (And.intro hbw3 (And.intro hrow3 (And.intro hmb3 hlen)))
      clear hp0 hp1 hbw2 hrow2 hbw3 hrow3 hO3 hmb3 hnb hlb hlen HX2 c0 c1 c2 c3 hl2 HRT
      refine H0.out.mono ?_
      rintro e w4 ⟨rfl, hb4⟩
      have hal := (Below.refl w4.heap.size w4).alloc (Nat.le_refl _) (.cells #[.int .i64 m.t, .int .i64 m.r, .int .i64 m.f, .int .i64 m.h] 25)
      obtain ⟨hbw3, hrow3, hmb3, hlen⟩ := HX3.out
      have hrw4 := go_row hrow3 hb4
      have lS4 := (Array.getElem?_eq_some_iff.1 hrw4).1
      have k4 := cell_of_row w4 w.heap.size 0 _ _ _ hrw4
      simp only [List.getElem?_toArray, List.getElem?_cons_zero] at k4
      have HX4 := Lib.hid (And.intro (go_on hb4 hal) (And.intro (go_row hrw4 hal) (heap_alloc_new w4 (.cells #[.int .i64 m.t, .int .i64 m.r, .int .i64 m.f, .int .i64 m.h] 25))))
      clear hal hb4 hbw3 hrow3 hmb3 hlen hrw4 k0 H0
      go_wp2_with fail
      refine (H1.out _ HX4.out.1).mono ?_
      rintro e w5 ⟨rfl, hb5⟩
      obtain ⟨hb34, hrow4, hr54⟩ := HX4.out
      obtain ⟨hbw3, -, hmb3, hlen⟩ := HX3.out
      have hal := (Below.refl w5.heap.size w5).alloc (Nat.le_refl _) (.cells #[.int .i64 0, .int .i64 0, .int .i64 0, .int .i64 0] 25)
      have hb3Y := go_on (go_on hb34 hb5) hal
      have HX5 := Lib.hid (And.intro (go_on hbw3 hb3Y) (And.intro (go_row (go_row hrow4 hb5) hal) (And.intro (go_row (go_row hr54 hb5) hal) (And.intro ((hmb3.below hb3Y).mono hb3Y.size) hlen))))
      clear hal hb3Y hb34 hrow4 hr54 hbw3 hmb3 hlen hb5 HX4 HX3 H1 k4 lS4
      go_wp2_with fail
      obtain ⟨hbwY, hrow, hr5, hbb, hlen⟩ := HX5.out
      revert hbwY hrow hr5 hbb
      generalize w5.alloc (.cells #[.int .i64 0, .int .i64 0, .int .i64 0, .int .i64 0] 25) = wY
      intro hbwY hrow hr5 hbb
      have hkn := fun w' (hB : Below wY.heap.size wY w') => mknown_any w' (HT.out.1.below HT.out.2 (go_on hbwY hB)) (Nat.le_trans HT.out.2 (go_on hbwY hB).size)
      have hwt : whereI (m.t : Int) = z := by unfold whereI; rw [if_neg (by omega)]; exact HZ.out
      have hrm : (m.t : Int).tmod 2 = z ∧ True := ⟨HM.out, trivial⟩
      clear hm hw hw1
      refine wp_region_m (fun _ w' => Below wY.heap.size wY w') (RsY w.heap.size m.t (.slice aa 256 cc) (.int .i64 z) m.val m.raw) (by kernel_rfl) (by kernel_rfl) (by kernel_rfl) (by kernel_rfl) (Below.refl _ _).drew ?stepy ?finy
      case stepy =>
        intro q o ho listed a' w' hI hn' hpre
        have hq : q < 36 := (Array.getElem?_eq_some_iff.1 ho).1
        have hB := hI.inv
        match q, hq with
        | 0, _ =>
          cases ho
          exact wpOp_move rfl rfl (.inl rfl) (hI.kept (t := 4) (by kernel_rfl)) ⟨_, rfl, hB, fun _ => rfl, fun _ _ _ h => h⟩
        | 1, _ =>
          cases ho
          exact wpOp_eqE rfl rfl rfl (hI.slot 0 60 rfl (hpre ⟨0, .data⟩ (by simp) rfl) rfl) rfl (m := 0) (c := true) (by rfl) ⟨_, rfl, hB, fun _ => rfl, fun _ _ _ h => h⟩
        | 2, _ =>
          cases ho
          exact wpOp_move rfl rfl (.inl rfl) (hI.slot 1 61 rfl (hpre ⟨1, .data⟩ (by simp) rfl) rfl) ⟨_, rfl, hB, fun _ => rfl, fun _ _ _ h => h⟩
        | 3, _ =>
          cases ho
          exact wpOp_move rfl (wantedOf (j := 2) (b := true) rfl rfl rfl (by rw [hI.len]; show _ < 95; decide) (hI.slot 2 62 rfl (hpre ⟨2, .guard⟩ (by simp) rfl) rfl)) (.inl rfl) (hI.kept (t := 3) (by kernel_rfl)) ⟨_, rfl, hB, fun _ => rfl, fun _ _ _ h => h⟩
        | 4, _ =>
          cases ho
          have hc := conv_at w' aa m.raw cc wY.heap.size (hbb.below hB)
          rw [hlen] at hc
          exact wpOp_conv rfl (wantedOf (j := 2) (b := true) rfl rfl rfl (by rw [hI.len]; show _ < 95; decide) (hI.slot 2 62 rfl (hpre ⟨2, .guard⟩ (by simp) rfl) rfl)) rfl (hI.slot 3 63 rfl (hpre ⟨3, .data⟩ (by simp) rfl) rfl) hc ⟨_, rfl, hB, fun _ => rfl, fun _ _ _ h => h⟩
        | 5, _ =>
          cases ho
          exact wpOp_load rfl (wantedOf (j := 2) (b := true) rfl rfl rfl (by rw [hI.len]; show _ < 95; decide) (hI.slot 2 62 rfl (hpre ⟨2, .guard⟩ (by simp) rfl) rfl)) rfl (hI.kept (t := 1) (by kernel_rfl)) (load_mtv (go_row hrow hB)) ⟨_, rfl, hB, fun _ => rfl, fun _ _ _ h => h⟩
        | 6, _ =>
          cases ho
          have e0 : a'.eval (.tmp 65) = m.val := (hI.slot 5 65 rfl (hpre ⟨5, .data⟩ (by simp) rfl) rfl)
          refine wpOp_callFn rfl (wantedOf (j := 2) (b := true) rfl rfl rfl (by rw [hI.len]; show _ < 95; decide) (hI.slot 2 62 rfl (hpre ⟨2, .guard⟩ (by simp) rfl) rfl)) rfl (vs := #[m.val]) (by simp only [List.map_toArray, List.map_cons, List.map_nil, e0]) (fun _ _ => by kernel_rfl) ((mrraw_any m HOK.out w').mono ?_)
          rintro e w'' ⟨v, rfl, hO, hb2⟩
          exact ⟨_, rfl, _, rfl, hB.trans (hb2.mono hB.size), fun _ => hO.isBs, fun j v _ h => RsY.below hb2 j v h⟩
        | 7, _ =>
          cases ho
          obtain ⟨a9, c9, e9, h9, -⟩ : IsBs w'.heap.size w' (a'.eval (.tmp 66)) m.raw := (hI.slot 6 66 rfl (hpre ⟨6, .data⟩ (by simp) rfl) rfl)
          exact wpOp_conv rfl (wantedOf (j := 2) (b := true) rfl rfl rfl (by rw [hI.len]; show _ < 95; decide) (hI.slot 2 62 rfl (hpre ⟨2, .guard⟩ (by simp) rfl) rfl)) rfl e9 (conv_at w' a9 m.raw c9 w'.heap.size h9) ⟨_, rfl, hB, fun _ => rfl, fun _ _ _ h => h⟩
        | 8, _ =>
          cases ho
          have e0 : a'.eval (.tmp 64) = .string ⟨m.raw.toArray⟩ := (hI.slot 4 64 rfl (hpre ⟨4, .data⟩ (by simp) rfl) rfl)
          have e1 : a'.eval (.tmp 67) = .string ⟨m.raw.toArray⟩ := (hI.slot 7 67 rfl (hpre ⟨7, .data⟩ (by simp) rfl) rfl)
          refine wpOp_eqS rfl (wantedOf (j := 2) (b := true) rfl rfl rfl (by rw [hI.len]; show _ < 95; decide) (hI.slot 2 62 rfl (hpre ⟨2, .guard⟩ (by simp) rfl) rfl)) rfl e0 e1 ?_
          rw [beq_self_eq_true]
          exact ⟨_, rfl, hB, fun _ => rfl, fun _ _ _ h => h⟩
        | 9, _ =>
          cases ho
          have e0 : a'.eval (.tmp 62) = .bool true := (hI.slot 2 62 rfl (hpre ⟨2, .data⟩ (by simp) rfl) rfl)
          have e1 : a'.eval (.tmp 68) = .bool true := (hI.slot 8 68 rfl (hpre ⟨8, .data⟩ (by simp) rfl) rfl)
          exact wpOp_pick2 rfl rfl rfl e0 (fun _ => e1) (fun h => by cases h) rfl ⟨_, rfl, hB, fun _ => rfl, fun _ _ _ h => h⟩
        | 10, _ =>
          cases ho
          exact wpOp_move rfl rfl (.inl rfl) (hI.slot 9 69 rfl (hpre ⟨9, .data⟩ (by simp) rfl) rfl) ⟨_, rfl, hB, fun _ => rfl, fun _ _ _ h => h⟩
        | 11, _ =>
          cases ho
          exact wpOp_move rfl (wantedOf (j := 10) (b := true) rfl rfl rfl (by rw [hI.len]; show _ < 95; decide) (hI.slot 10 70 rfl (hpre ⟨10, .guard⟩ (by simp) rfl) rfl)) (.inl rfl) (hI.kept (t := 6) (by kernel_rfl)) ⟨_, rfl, hB, fun _ => rfl, fun _ _ _ h => h⟩
        | 12, _ =>
          cases ho
          exact wpOp_eqE rfl (wantedOf (j := 10) (b := true) rfl rfl rfl (by rw [hI.len]; show _ < 95; decide) (hI.slot 10 70 rfl (hpre ⟨10, .guard⟩ (by simp) rfl) rfl)) rfl (hI.slot 11 71 rfl (hpre ⟨11, .data⟩ (by simp) rfl) rfl) rfl (m := 0) (c := true) (by rfl) ⟨_, rfl, hB, fun _ => rfl, fun _ _ _ h => h⟩
        | 13, _ =>
          cases ho
          have e0 : a'.eval (.tmp 70) = .bool true := (hI.slot 10 70 rfl (hpre ⟨10, .data⟩ (by simp) rfl) rfl)
          have e1 : a'.eval (.tmp 72) = .bool true := (hI.slot 12 72 rfl (hpre ⟨12, .data⟩ (by simp) rfl) rfl)
          exact wpOp_pick2 rfl rfl rfl e0 (fun _ => e1) (fun h => by cases h) rfl ⟨_, rfl, hB, fun _ => rfl, fun _ _ _ h => h⟩
        | 14, _ =>
          cases ho
          exact wpOp_move rfl rfl (.inl rfl) (hI.slot 13 73 rfl (hpre ⟨13, .data⟩ (by simp) rfl) rfl) ⟨_, rfl, hB, fun _ => rfl, fun _ _ _ h => h⟩
        | 15, _ =>
          cases ho
          exact wpOp_load rfl (wantedOf (j := 14) (b := true) rfl rfl rfl (by rw [hI.len]; show _ < 95; decide) (hI.slot 14 74 rfl (hpre ⟨14, .guard⟩ (by simp) rfl) rfl)) rfl (hI.kept (t := 5) (by kernel_rfl)) (load_mtv (go_row hr5 hB)) ⟨_, rfl, hB, fun _ => rfl, fun _ _ _ h => h⟩
        | 16, _ =>
          cases ho
          exact wpOp_load rfl (wantedOf (j := 14) (b := true) rfl rfl rfl (by rw [hI.len]; show _ < 95; decide) (hI.slot 14 74 rfl (hpre ⟨14, .guard⟩ (by simp) rfl) rfl)) rfl (hI.kept (t := 1) (by kernel_rfl)) (load_mtv (go_row hrow hB)) ⟨_, rfl, hB, fun _ => rfl, fun _ _ _ h => h⟩
        | 17, _ =>
          cases ho
          exact wpOp_eqM rfl (wantedOf (j := 14) (b := true) rfl rfl rfl (by rw [hI.len]; show _ < 95; decide) (hI.slot 14 74 rfl (hpre ⟨14, .guard⟩ (by simp) rfl) rfl)) rfl (hI.slot 15 75 rfl (hpre ⟨15, .data⟩ (by simp) rfl) rfl) (hI.slot 16 76 rfl (hpre ⟨16, .data⟩ (by simp) rfl) rfl) ⟨_, rfl, hB, fun _ => rfl, fun _ _ _ h => h⟩
        | 18, _ =>
          cases ho
          have e0 : a'.eval (.tmp 74) = .bool true := (hI.slot 14 74 rfl (hpre ⟨14, .data⟩ (by simp) rfl) rfl)
          have e1 : a'.eval (.tmp 77) = .bool true := (hI.slot 17 77 rfl (hpre ⟨17, .data⟩ (by simp) rfl) rfl)
          exact wpOp_pick2 rfl rfl rfl e0 (fun _ => e1) (fun h => by cases h) rfl ⟨_, rfl, hB, fun _ => rfl, fun _ _ _ h => h⟩
        | 19, _ =>
          cases ho
          exact wpOp_move rfl rfl (.inl rfl) (hI.slot 18 78 rfl (hpre ⟨18, .data⟩ (by simp) rfl) rfl) ⟨_, rfl, hB, fun _ => rfl, fun _ _ _ h => h⟩
        | 20, _ =>
          cases ho
          exact wpOp_move rfl (wantedOf (j := 19) (b := true) rfl rfl rfl (by rw [hI.len]; show _ < 95; decide) (hI.slot 19 79 rfl (hpre ⟨19, .guard⟩ (by simp) rfl) rfl)) (.inl rfl) (hI.kept (t := 8) (by kernel_rfl)) ⟨_, rfl, hB, fun _ => rfl, fun _ _ _ h => h⟩
        | 21, _ =>
          cases ho
          exact wpOp_eqE rfl (wantedOf (j := 19) (b := true) rfl rfl rfl (by rw [hI.len]; show _ < 95; decide) (hI.slot 19 79 rfl (hpre ⟨19, .guard⟩ (by simp) rfl) rfl)) rfl (hI.slot 20 80 rfl (hpre ⟨20, .data⟩ (by simp) rfl) rfl) rfl (m := 160) (c := true) (by rfl) ⟨_, rfl, hB, fun _ => rfl, fun _ _ _ h => h⟩
        | 22, _ =>
          cases ho
          have e0 : a'.eval (.tmp 79) = .bool true := (hI.slot 19 79 rfl (hpre ⟨19, .data⟩ (by simp) rfl) rfl)
          have e1 : a'.eval (.tmp 81) = .bool true := (hI.slot 21 81 rfl (hpre ⟨21, .data⟩ (by simp) rfl) rfl)
          exact wpOp_pick2 rfl rfl rfl e0 (fun _ => e1) (fun h => by cases h) rfl ⟨_, rfl, hB, fun _ => rfl, fun _ _ _ h => h⟩
        | 23, _ =>
          cases ho
          exact wpOp_move rfl rfl (.inl rfl) (hI.slot 22 82 rfl (hpre ⟨22, .data⟩ (by simp) rfl) rfl) ⟨_, rfl, hB, fun _ => rfl, fun _ _ _ h => h⟩
        | 24, _ =>
          cases ho
          exact wpOp_field rfl (wantedOf (j := 23) (b := true) rfl rfl rfl (by rw [hI.len]; show _ < 95; decide) (hI.slot 23 83 rfl (hpre ⟨23, .guard⟩ (by simp) rfl) rfl)) rfl (hI.kept (t := 1) (by kernel_rfl)) (v := mpt w.heap.size 0) (w' := w') (by simp [go_sem]) ⟨_, rfl, hB, fun _ => rfl, fun _ _ _ h => h⟩
        | 25, _ =>
          cases ho
          exact wpOp_load rfl (wantedOf (j := 23) (b := true) rfl rfl rfl (by rw [hI.len]; show _ < 95; decide) (hI.slot 23 83 rfl (hpre ⟨23, .guard⟩ (by simp) rfl) rfl)) rfl (hI.slot 24 84 rfl (hpre ⟨24, .data⟩ (by simp) rfl) rfl) (load_cellR (Tryd.isAgg2 w') (v := (.int .i64 m.t)) (cell_of_row w' w.heap.size 0 _ _ _ (go_row hrow hB))) ⟨_, rfl, hB, fun _ => rfl, fun _ _ _ h => h⟩
        | 26, _ =>
          cases ho
          have e0 : a'.eval (.tmp 85) = (.int .i64 m.t) := (hI.slot 25 85 rfl (hpre ⟨25, .data⟩ (by simp) rfl) rfl)
          refine wpOp_callFn rfl (wantedOf (j := 23) (b := true) rfl rfl rfl (by rw [hI.len]; show _ < 95; decide) (hI.slot 23 83 rfl (hpre ⟨23, .guard⟩ (by simp) rfl) rfl)) rfl (vs := #[.int .i64 m.t]) (by simp only [List.map_toArray, List.map_cons, List.map_nil, e0]) (fun _ _ => by kernel_rfl) ((where_any m.t w').mono ?_)
          rintro e w'' ⟨rfl, rfl⟩
          rw [hwt]
          exact ⟨_, rfl, _, rfl, hB, fun _ => rfl, fun _ _ _ h => h⟩
        | 27, _ =>
          cases ho
          exact wpOp_field rfl (wantedOf (j := 23) (b := true) rfl rfl rfl (by rw [hI.len]; show _ < 95; decide) (hI.slot 23 83 rfl (hpre ⟨23, .guard⟩ (by simp) rfl) rfl)) rfl (hI.kept (t := 1) (by kernel_rfl)) (v := mpt w.heap.size 0) (w' := w') (by simp [go_sem]) ⟨_, rfl, hB, fun _ => rfl, fun _ _ _ h => h⟩
        | 28, _ =>
          cases ho
          exact wpOp_load rfl (wantedOf (j := 23) (b := true) rfl rfl rfl (by rw [hI.len]; show _ < 95; decide) (hI.slot 23 83 rfl (hpre ⟨23, .guard⟩ (by simp) rfl) rfl)) rfl (hI.slot 27 87 rfl (hpre ⟨27, .data⟩ (by simp) rfl) rfl) (load_cellR (Tryd.isAgg2 w') (v := (.int .i64 m.t)) (cell_of_row w' w.heap.size 0 _ _ _ (go_row hrow hB))) ⟨_, rfl, hB, fun _ => rfl, fun _ _ _ h => h⟩
        | 29, _ =>
          cases ho
          exact wpOp_rem2 rfl (wantedOf (j := 23) (b := true) rfl rfl rfl (by rw [hI.len]; show _ < 95; decide) (hI.slot 23 83 rfl (hpre ⟨23, .guard⟩ (by simp) rfl) rfl)) rfl (hI.slot 28 88 rfl (hpre ⟨28, .data⟩ (by simp) rfl) rfl) hrm.1 ⟨_, rfl, hB, fun _ => rfl, fun _ _ _ h => h⟩
        | 30, _ =>
          cases ho
          exact wpOp_eqI6 rfl (wantedOf (j := 23) (b := true) rfl rfl rfl (by rw [hI.len]; show _ < 95; decide) (hI.slot 23 83 rfl (hpre ⟨23, .guard⟩ (by simp) rfl) rfl)) rfl (hI.slot 26 86 rfl (hpre ⟨26, .data⟩ (by simp) rfl) rfl) (hI.slot 29 89 rfl (hpre ⟨29, .data⟩ (by simp) rfl) rfl) (c := true) (by simp) ⟨_, rfl, hB, fun _ => rfl, fun _ _ _ h => h⟩
        | 31, _ =>
          cases ho
          have e0 : a'.eval (.tmp 83) = .bool true := (hI.slot 23 83 rfl (hpre ⟨23, .data⟩ (by simp) rfl) rfl)
          have e1 : a'.eval (.tmp 90) = .bool true := (hI.slot 30 90 rfl (hpre ⟨30, .data⟩ (by simp) rfl) rfl)
          exact wpOp_pick2 rfl rfl rfl e0 (fun _ => e1) (fun h => by cases h) rfl ⟨_, rfl, hB, fun _ => rfl, fun _ _ _ h => h⟩
        | 32, _ =>
          cases ho
          exact wpOp_move rfl rfl (.inl rfl) (hI.slot 31 91 rfl (hpre ⟨31, .data⟩ (by simp) rfl) rfl) ⟨_, rfl, hB, fun _ => rfl, fun _ _ _ h => h⟩
        | 33, _ =>
          cases ho
          refine wpOp_callFn rfl (wantedOf (j := 32) (b := true) rfl rfl rfl (by rw [hI.len]; show _ < 95; decide) (hI.slot 32 92 rfl (hpre ⟨32, .guard⟩ (by simp) rfl) rfl)) rfl (vs := #[]) (by simp) (fun _ _ => by kernel_rfl) ((hkn w' hB).mono ?_)
          rintro e w'' ⟨rfl, hb2⟩
          exact ⟨_, rfl, _, rfl, hB.trans (hb2.mono hB.size), fun _ => rfl, fun j v _ h => RsY.below hb2 j v h⟩
        | 34, _ =>
          cases ho
          have e0 : a'.eval (.tmp 92) = .bool true := (hI.slot 32 92 rfl (hpre ⟨32, .data⟩ (by simp) rfl) rfl)
          have e1 : a'.eval (.tmp 93) = .bool true := (hI.slot 33 93 rfl (hpre ⟨33, .data⟩ (by simp) rfl) rfl)
          exact wpOp_pick2 rfl rfl rfl e0 (fun _ => e1) (fun h => by cases h) rfl ⟨_, rfl, hB, fun _ => rfl, fun _ _ _ h => h⟩
        | 35, _ =>
          cases ho
          exact wpOp_move rfl rfl (.inr rfl) (hI.slot 34 94 rfl (hpre ⟨34, .data⟩ (by simp) rfl) rfl) ⟨_, rfl, hB, fun _ => rfl, fun _ _ _ h => h⟩
      case finy =>
        intro listed a' w7 hI hall
        have hB := hI.inv
        have e2 : a'.tmps.getD 2 undef = .bool true := hI.slot 35 2 rfl (hall 35 (by decide)) rfl
        obtain ⟨vs, us, hvl, hul, hvs, hus, e⟩ := hI.frame2 2 1 60 35 (by decide) (Nat.le_of_ble_eq_true (by kernel_rfl)) (by kernel_rfl)
        have v0 := hvs 0 (by decide)
        clear hI hall hvs hus
        obtain ⟨z60, z61, z62, z63, z64, z65, z66, z67, z68, z69, z70, z71, z72, z73, z74, z75, z76, z77, z78, z79, rr, rfl, hrr⟩ := chunk20 (l := us) (m := 15) hul
        match vs, hvl, rr, hrr with
        | [z2], _, [z80, z81, z82, z83, z84, z85, z86, z87, z88, z89, z90, z91, z92, z93, z94], _ =>
        simp only [List.getElem?_cons_zero, Option.some.injEq] at v0
        rw [show 2 + 0 = 2 from rfl, e2] at v0
        subst v0
        simp only [List.take_succ_cons, List.take_zero, List.drop_succ_cons, List.drop_zero, List.cons_append, List.nil_append, Nat.reduceAdd, Nat.reduceSub] at e
        subst e
        clear hkn hrow hr5 hbb hlen hwt hrm HX5
        go_wp2
        go_ret
        exact ⟨rfl, go_on hbwY hB⟩
end Go.Proofs.YtaijjlaheoamaaaDoor
