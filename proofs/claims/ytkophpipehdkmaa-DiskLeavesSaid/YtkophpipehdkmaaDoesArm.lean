/- Layer 2: the law's 'does': arming. -/
import Derived.Test.YtkophpipehdkmaaDoes
namespace Go.Proofs.Ytkophpipehdkmaa
open Go.ChangeShapes Go.WideShapes Go.RowKit

set_option maxRecDepth 100000 in
set_option maxHeartbeats 4000000 in
theorem does_arm {n₀ : Nat} {w : World} {B : Nat} {d : Dsk} {la wa : Option Addr} {lc wc : Nat} {g : GD} (hD : IsDisk n₀ w B d) (hG : IsG w.heap.size w la lc wa wc g) (p : Int) (x : UInt8) (r : Int) (hw : (Lit.int .i64 r).wf = true) (hp : p ≤ 9223372036854775807) :
    Calls Try.prog 8 #[ptr B, gv la lc wa wc g, actV 3 p x r] w fun e w' => DoesPost n₀ w B (d.arm r p) (g.arm r p) e w' := by
  have hn0 := hD.n_le
  have HDF := Lib.hid (fun w' (hb : Below w.heap.size w w') => hD.below hb)
  have HGF := Lib.hid (fun w' (hb : Below w.heap.size w w') => garm_any ((hG.below hb).mono hb.size) r p)
  have HFd := Lib.hid (And.intro hw hp)
  clear hD hG hw hp
  obtain ⟨W1, hW1⟩ : ∃ W1, ((w.alloc (.cells #[.slice la g.lasts.length lc, .slice wa g.waits.length wc, .int .i64 g.k, .int .i64 g.l, .bool g.b, .int .i64 g.s] 34)).alloc (.cells #[.int .i64 3, .int .i64 p, .int .u8 (x.toNat : Int), .int .i64 r] 39)).alloc (.cells #[.slice none 0 0, .slice none 0 0, .int .i64 0, .int .i64 0, .bool false, .int .i64 0] 34) = W1 := ⟨_, rfl⟩
  have hb1 : Below w.heap.size w W1 := by subst hW1; exact (((Below.refl _ _).alloc (Nat.le_refl _) _).alloc (by simp) _).alloc (by simp; omega) _
  have hrA1 : W1.heap[w.heap.size]? = some (.cells #[.slice la g.lasts.length lc, .slice wa g.waits.length wc, .int .i64 g.k, .int .i64 g.l, .bool g.b, .int .i64 g.s] 34 (0, 0)) := by
    subst hW1
    exact (Below.heap_alloc _ _ _ (by simp; omega)).trans ((Below.heap_alloc _ _ _ (by simp)).trans (heap_alloc_new w _))
  have hrC1 : W1.heap[w.heap.size + 1 + 1]? = some (.cells #[.slice none 0 0, .slice none 0 0, .int .i64 0, .int .i64 0, .bool false, .int .i64 0] 34 (0, 0)) := by
    subst hW1
    have := heap_alloc_new' (w.alloc (.cells #[.slice la g.lasts.length lc, .slice wa g.waits.length wc, .int .i64 g.k, .int .i64 g.l, .bool g.b, .int .i64 g.s] 34)) (.cells #[.int .i64 3, .int .i64 p, .int .u8 (x.toNat : Int), .int .i64 r] 39) (.cells #[.slice none 0 0, .slice none 0 0, .int .i64 0, .int .i64 0, .bool false, .int .i64 0] 34)
    rw [World.size_alloc] at this
    exact this
  have hrB1 : W1.heap[w.heap.size + 1]? = some (.cells #[.int .i64 3, .int .i64 p, .int .u8 (x.toNat : Int), .int .i64 r] 39 (0, 0)) := by
    subst hW1
    exact (Below.heap_alloc _ _ _ (by simp)).trans (heap_alloc_new' w _ _)
  have hs1 : W1.heap.size = w.heap.size + 3 := by subst hW1; simp
  go_enter Try.func8, Try.ntmps8
  unfold gv rv actV
  have HB1 := Lib.hid (And.intro hb1 (And.intro hrA1 (And.intro hrC1 (And.intro hs1 hrB1))))
  have HW := Lib.hid hW1
  clear hb1 hrA1 hrC1 hs1 hW1 hrB1
  go_wp2_with (go_at_call 25; rw [HW.out]; refine (HGF.out W1 HB1.out.1).mono ?_; rintro e w3 ⟨la3, lc3, wa3, wc3, rfl, hG3, hb3⟩; unfold gv rv; have hrA := (hb3.block w.heap.size (by have := HB1.out.2.2.2.1; omega)).trans HB1.out.2.1; have c00 := cell_of_row w3 w.heap.size 0 _ _ _ hrA; have f00 := frozen_of_row w3 w.heap.size 0 _ _ hrA; have c01 := cell_of_row w3 w.heap.size 1 _ _ _ hrA; have f01 := frozen_of_row w3 w.heap.size 1 _ _ hrA; have c02 := cell_of_row w3 w.heap.size 2 _ _ _ hrA; have f02 := frozen_of_row w3 w.heap.size 2 _ _ hrA; have c03 := cell_of_row w3 w.heap.size 3 _ _ _ hrA; have f03 := frozen_of_row w3 w.heap.size 3 _ _ hrA; have c04 := cell_of_row w3 w.heap.size 4 _ _ _ hrA; have f04 := frozen_of_row w3 w.heap.size 4 _ _ hrA; have c05 := cell_of_row w3 w.heap.size 5 _ _ _ hrA; have f05 := frozen_of_row w3 w.heap.size 5 _ _ hrA; simp only [List.getElem?_toArray, List.getElem?_cons_zero, List.getElem?_cons_succ] at c00 c01 c02 c03 c04 c05; have hrB := (hb3.block (w.heap.size + 1) (by have := HB1.out.2.2.2.1; omega)).trans HB1.out.2.2.2.2; have c20 := cell_of_row w3 (w.heap.size + 1) 0 _ _ _ hrB; have f20 := frozen_of_row w3 (w.heap.size + 1) 0 _ _ hrB; have c21 := cell_of_row w3 (w.heap.size + 1) 1 _ _ _ hrB; have f21 := frozen_of_row w3 (w.heap.size + 1) 1 _ _ hrB; have c22 := cell_of_row w3 (w.heap.size + 1) 2 _ _ _ hrB; have f22 := frozen_of_row w3 (w.heap.size + 1) 2 _ _ hrB; have c23 := cell_of_row w3 (w.heap.size + 1) 3 _ _ _ hrB; have f23 := frozen_of_row w3 (w.heap.size + 1) 3 _ _ hrB; simp only [List.getElem?_toArray, List.getElem?_cons_zero, List.getElem?_cons_succ] at c20 c21 c22 c23)
  have hb03 : Below w.heap.size w w3 := HB1.out.1.trans (hb3.mono HB1.out.1.size)
  have hrC := (hb3.block (w.heap.size + 1 + 1) (by have := HB1.out.2.2.2.1; omega)).trans HB1.out.2.2.1
  have gA := set6_grown w3 w.heap.size (.slice la3 (g.arm r p).1.lasts.length lc3) (.slice wa3 (g.arm r p).1.waits.length wc3) (.int .i64 (g.arm r p).1.k) (.int .i64 (g.arm r p).1.l) (.bool (g.arm r p).1.b) (.int .i64 (g.arm r p).1.s)
  have hb05 := hb03.grown gA hb03.size (fun k e => by cases e; exact Nat.le_refl _)
  have hrA5 := set6_heap (.slice la3 (g.arm r p).1.lasts.length lc3) (.slice wa3 (g.arm r p).1.waits.length wc3) (.int .i64 (g.arm r p).1.k) (.int .i64 (g.arm r p).1.l) (.bool (g.arm r p).1.b) (.int .i64 (g.arm r p).1.s) hrA
  have hrC5 := (gA.block _ (Array.getElem?_eq_some_iff.1 hrC).1 (by simp; omega)).trans hrC
  refine (arm_disk (HDF.out _ hb05) r p HFd.out.1 HFd.out.2).mono ?_
  rintro e w6 ⟨rfl, hD6, hK6⟩
  have hrA6 := hK6.cells _ _ _ _ hrA5 (by decide) (by decide)
  have hrC6 := hK6.cells _ _ _ _ hrC5 (by decide) (by decide)
  clear c00 c01 c02 c03 c04 c05 f00 f01 f02 f03 f04 f05 c20 c21 c22 c23 f20 f21 f22 f23 hrB
  have c00 := cell_of_row w6 w.heap.size 0 _ _ _ hrA6; have f00 := frozen_of_row w6 w.heap.size 0 _ _ hrA6; have c01 := cell_of_row w6 w.heap.size 1 _ _ _ hrA6; have f01 := frozen_of_row w6 w.heap.size 1 _ _ hrA6; have c02 := cell_of_row w6 w.heap.size 2 _ _ _ hrA6; have f02 := frozen_of_row w6 w.heap.size 2 _ _ hrA6; have c03 := cell_of_row w6 w.heap.size 3 _ _ _ hrA6; have f03 := frozen_of_row w6 w.heap.size 3 _ _ hrA6; have c04 := cell_of_row w6 w.heap.size 4 _ _ _ hrA6; have f04 := frozen_of_row w6 w.heap.size 4 _ _ hrA6; have c05 := cell_of_row w6 w.heap.size 5 _ _ _ hrA6; have f05 := frozen_of_row w6 w.heap.size 5 _ _ hrA6; simp only [List.getElem?_toArray, List.getElem?_cons_zero, List.getElem?_cons_succ] at c00 c01 c02 c03 c04 c05
  have c10 := cell_of_row w6 (w.heap.size + 1 + 1) 0 _ _ _ hrC6; have f10 := frozen_of_row w6 (w.heap.size + 1 + 1) 0 _ _ hrC6; have c11 := cell_of_row w6 (w.heap.size + 1 + 1) 1 _ _ _ hrC6; have f11 := frozen_of_row w6 (w.heap.size + 1 + 1) 1 _ _ hrC6; have c12 := cell_of_row w6 (w.heap.size + 1 + 1) 2 _ _ _ hrC6; have f12 := frozen_of_row w6 (w.heap.size + 1 + 1) 2 _ _ hrC6; have c13 := cell_of_row w6 (w.heap.size + 1 + 1) 3 _ _ _ hrC6; have f13 := frozen_of_row w6 (w.heap.size + 1 + 1) 3 _ _ hrC6; have c14 := cell_of_row w6 (w.heap.size + 1 + 1) 4 _ _ _ hrC6; have f14 := frozen_of_row w6 (w.heap.size + 1 + 1) 4 _ _ hrC6; have c15 := cell_of_row w6 (w.heap.size + 1 + 1) 5 _ _ _ hrC6; have f15 := frozen_of_row w6 (w.heap.size + 1 + 1) 5 _ _ hrC6; simp only [List.getElem?_toArray, List.getElem?_cons_zero, List.getElem?_cons_succ] at c10 c11 c12 c13 c14 c15
  have HE := Lib.hid (And.intro hb05 (And.intro hD6 (And.intro hK6 (And.intro hrC6 (And.intro hG3 (And.intro hb3 gA))))))
  clear hb05 hD6 hK6 hrC6 hrA6 hrC5 hrA5 hG3 hb3 gA hrC hb03
  go_wp2
  obtain ⟨hb05, hD6, hK6, hrC6, hG3, hb3, gA⟩ := HE.out
  refine bodyPost_ret (results_ref rfl _ _ _ _ _ _ rfl (set6_heap _ _ _ _ _ _ hrC6) Try.underlying34 (by kernel_rfl)) rfl ?_
  have hfin := set6_grown w6 (w.heap.size + 1 + 1) (.slice la3 (g.arm r p).1.lasts.length lc3) (.slice wa3 (g.arm r p).1.waits.length wc3) (.int .i64 (g.arm r p).1.k) (.int .i64 (g.arm r p).1.l) (.bool (g.arm r p).1.b) (.int .i64 (g.arm r p).1.s)
  have hgG := ((hG3.besides gA hrA).keeps hK6).besides hfin hrC6
  refine ⟨la3, lc3, wa3, wc3, rfl, hgG.mono (Nat.le_trans gA.size (Nat.le_trans hK6.below.size hfin.size)), hD6.besides hfin hrC6 (by decide) (by decide), ⟨((hb05.mono hn0).trans hK6.below).grown hfin (Nat.le_trans hn0 (Nat.le_trans hb05.size hK6.below.size)) (fun k e => by cases e; omega), fun k cs T fr hk h1 h2 => ?_⟩⟩
  have hlt := (Array.getElem?_eq_some_iff.1 hk).1
  have h6 := hK6.cells k cs T fr ((hb05.block k hlt).trans hk) h1 h2
  exact (hfin.block k (Array.getElem?_eq_some_iff.1 h6).1 (fun e => by have := Option.some.inj e; omega)).trans h6
end Go.Proofs.Ytkophpipehdkmaa
