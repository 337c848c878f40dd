/- Layer 4: Look: what gives up by a panic is recovered at the face. -/
import Derived.Tactics2
import Derived.Defers
import Derived.Recover
import Derived.Laws.Pointers
import Derived.Test.YtjfpgclaefbhjaaDoorPageD
namespace Go.Proofs.YtjfpgclaefbhjaaDoor
open Go.RowKit

theorem assert_yes (n : Int) (w : World) : (Instr.typeAssert (.iface 27 (.int .i64 n)) 20 27 true).run Tryd.prog w = .ok (.tuple #[.int .i64 n, .bool true]) w := by kernel_rfl
theorem assert_no (w : World) : (Instr.typeAssert .nilIface 20 27 true).run Tryd.prog w = .ok (.tuple #[.int .i64 0, .bool false]) w := by kernel_rfl
set_option maxHeartbeats 1000000 in
set_option maxRecDepth 100000 in
theorem catch_panicking (E : Nat) (x n : Int) (older : List PanicEntry) (w : World) (hc : w.cell? ⟨E, 0, none⟩ = some (.int .i64 x)) (hz : w.frozen? ⟨E, 0, none⟩ = false) :
    CallsD Tryd.prog 24 #[.pointer (some ⟨E, 0, none⟩)] (.panicking ({ v := .iface 27 (.int .i64 n), recovered := false } :: older)) w fun e u' w' =>
      e = .returned (.tuple #[]) ∧ u' = .panicking ({ v := .iface 27 (.int .i64 n), recovered := true } :: older) ∧ w' = w.setCell ⟨E, 0, none⟩ (.int .i64 n) := by
  refine callsD_of_wpS Tryd.func24 rfl fun c₀ cs hu => ?_
  apply wpS_seq
  apply wpS_region
  simp [wpOpsS, go_sem, recoverD, hu, Tryd.ntmps24, Exit.thenS, assert_yes]
  apply wpS_seq
  apply wpS_region
  simp [wpOpsS, go_sem, Exit.thenS]
  refine wpS_cond (t := true) (by simp [Act.eval, Array.replicate]) ?_
  simp only [if_true]
  apply wpS_region
  simp [wpOpsS, go_sem, hc, hz, bodyPostS, results, Tryd.results24]
set_option maxHeartbeats 1000000 in
set_option maxRecDepth 100000 in
theorem catch_idle (E : Nat) (w : World) :
    CallsD Tryd.prog 24 #[.pointer (some ⟨E, 0, none⟩)] .returning w fun e u' w' => e = .returned (.tuple #[]) ∧ u' = .returning ∧ w' = w := by
  refine callsD_of_wpS Tryd.func24 rfl fun c₀ cs hu => ?_
  apply wpS_seq
  apply wpS_region
  simp [wpOpsS, go_sem, recoverD, hu, Tryd.ntmps24, Exit.thenS, assert_no]
  apply wpS_seq
  apply wpS_region
  simp [wpOpsS, go_sem, Exit.thenS]
  refine wpS_cond (t := false) (by simp [Act.eval, Array.replicate]) ?_
  simp only [Bool.false_eq_true, if_false]
  refine wpS_of_wp (wp_skip ?_)
  cases c₀
  simp_all [bodyPostS, results, Tryd.results24]
theorem results_look (tmps : Array Value) (w : World) (g E : Nat) (t : TypeId) (cs : Array Value) (fr : Nat × Nat) (v : Value)
    (hp : tmps.getD 3 undef = .pointer (some ⟨g, 0, none⟩)) (hg : w.heap[g]? = some (.cells cs t fr)) (hi : (Tryd.prog.info? 25).map (·.size) = some cs.size)
    (he : tmps.getD 4 undef = .pointer (some ⟨E, 0, none⟩)) (hv : w.cell? ⟨E, 0, none⟩ = some v) :
    (results Tryd.f13 tmps).run Tryd.prog w = .ok (.tuple #[tmps.getD 2 undef, .agg cs, v]) w := by
  have h1 : (results Tryd.f13 tmps).run Tryd.prog w = ((asAddr (tmps.getD 3 undef)).run Tryd.prog w).andThen fun a w => ((loadVar 25 a).run Tryd.prog w).andThen fun u w => ((asAddr (tmps.getD 4 undef)).run Tryd.prog w).andThen fun a w => ((loadVar 27 a).run Tryd.prog w).andThen fun v w => .ok (.tuple #[tmps.getD 2 undef, u, v]) w := by
    simp [results, Tryd.results13]
  rw [h1, hp, he]
  have h2 : (loadVar 27 ⟨E, 0, none⟩).run Tryd.prog w = .ok v w := by
    simp [loadVar, Tryd.isAgg27 w, go_sem, Result.andThen, hv]
  simp [asAddr, run_loadVar_row w g t 25 cs fr _ hg Tryd.underlying25 rfl hi, h2, Result.andThen]
theorem heap_alloc_two (w : World) (A B : Obj) : ((w.alloc A).alloc B).heap[w.heap.size + 1]? = some B := by
  have := heap_alloc_new (w.alloc A) B
  rw [World.size_alloc] at this
  exact this
def lookE (b : List UInt8) : Nat := if b.length ≠ 256 then 2 else if sumOk b then (if restOk b then 0 else 141) else 140
def LookPost (w : World) (b : List UInt8) (e : Ending) (w' : World) : Prop := Below w.heap.size w w' ∧
  ((lookE b = 0 ∧ ∃ ar c, e = .returned (.tuple #[.int .i64 (atN b), pgv (atK b) (wrap64 (atT b)) (atX b) (bodyAt ar (atS b)) (atS b) (atS b), .int .i64 0]) ∧ OwnB w' w.heap.size (.slice ar 234 c) (b.drop 22)) ∨
   (lookE b ≠ 0 ∧ e = .returned (.tuple #[.int .i64 0, pgv 0 0 0 none 0 0, .int .i64 (lookE b)])))
set_option maxHeartbeats 1000000 in
set_option maxRecDepth 100000 in
theorem look_any (b : List UInt8) (a : Option Addr) (c n₁ : Nat) (hc : b.length ≤ c) (w : World) (hm : BytesAt n₁ w a b) (hn₁ : n₁ ≤ w.heap.size) (hno : a = none → c = 0) (hT : Tab w) (hg : 1 + 1 ≤ w.heap.size) :
    Calls Tryd.prog 13 #[.slice a b.length c] w fun e w' => LookPost w b e w' := by
  have hmf : ∀ (fn : Fn) (first cap : Array Value) (w : World), (Instr.makeFunc fn first cap).run Tryd.prog w = .ok (.func fn first cap) w := fun _ _ _ _ => rfl
  by_cases hl : b.length = 256
  case neg =>
    have hd : ((b.length : Int) != 256) = true := by simp; omega
    have HL := Lib.hid hl
    clear hl hm hT hg hno
    go_enter_defers Tryd.func13, Tryd.ntmps13
    go_wp2
    have hr : ((w.alloc (.cells #[.int .i64 0, .int .i64 0, .int .i64 0, .slice none 0 0] 25)).alloc (.cells #[.int .i64 2] 27)).heap[w.heap.size]? = some (.cells #[.int .i64 0, .int .i64 0, .int .i64 0, .slice none 0 0] 25 (0, 0)) := (Below.heap_alloc _ _ _ (by simp)).trans (heap_alloc_new w _)
    have hE := cell_of_row _ _ 0 _ _ _ (heap_alloc_two w (.cells #[.int .i64 0, .int .i64 0, .int .i64 0, .slice none 0 0] 25) (.cells #[.int .i64 2] 27))
    refine ⟨_, results_look _ _ _ _ _ _ _ _ rfl hr (by kernel_rfl) rfl hE, ((Below.refl _ _).alloc (Nat.le_refl _) _).alloc (by simp) _, .inr ⟨?_, ?_⟩⟩
    · unfold lookE; rw [if_pos HL.out]; decide
    · unfold lookE; rw [if_pos HL.out]; rfl
  rw [hl] at hc ⊢
  have hb0 : Below w.heap.size w ((w.alloc (.cells #[.int .i64 0, .int .i64 0, .int .i64 0, .slice none 0 0] 25)).alloc (.cells #[.int .i64 0] 27)) := ((Below.refl _ _).alloc (Nat.le_refl _) _).alloc (by simp) _
  have HRD := Lib.hid (read_any b hl a c n₁ hc _ (hm.below (hb0.mono hn₁)) (Nat.le_trans hn₁ hb0.size) hno (hT.below hg hb0) (Nat.le_trans hg hb0.size))
  have HB0 := Lib.hid hb0
  clear hm hT hg hno hb0
  go_enter_defers Tryd.func13, Tryd.ntmps13
  go_wp2_with fail
  refine HRD.out.mono ?_
  have hz : (w.alloc (.cells #[.int .i64 0, .int .i64 0, .int .i64 0, .slice none 0 0] 25)).heap.size = w.heap.size + 1 := by simp
  have hR0 : ((w.alloc (.cells #[.int .i64 0, .int .i64 0, .int .i64 0, .slice none 0 0] 25)).alloc (.cells #[.int .i64 0] 27)).heap[w.heap.size]? = some (.cells #[.int .i64 0, .int .i64 0, .int .i64 0, .slice none 0 0] 25 (0, 0)) := (Below.heap_alloc _ _ _ (by simp)).trans (heap_alloc_new w _)
  have hE0 := heap_alloc_two w (.cells #[.int .i64 0, .int .i64 0, .int .i64 0, .slice none 0 0] 25) (.cells #[.int .i64 0] 27)
  have hb0 := HB0.out
  clear HRD HB0 hz
  revert hR0 hE0 hb0
  generalize (w.alloc (.cells #[.int .i64 0, .int .i64 0, .int .i64 0, .slice none 0 0] 25)).alloc (.cells #[.int .i64 0] 27) = w0
  intro hR0 hE0 hb0
  rintro e w1 ⟨hb1, ⟨hs, hr, ar, cr, rfl, hO⟩ | ⟨hs, rfl⟩ | ⟨hs, hr, rfl⟩⟩
  · have hE1 := go_row hE0 hb1
    have hR1 := go_row hR0 hb1
    have hb := go_on hb0 hb1
    have d0 := cell_of_row w1 w.heap.size 0 _ _ _ hR1; have f0 := frozen_of_row w1 w.heap.size 0 _ _ hR1
    have d1 := cell_of_row w1 w.heap.size 1 _ _ _ hR1; have f1 := frozen_of_row w1 w.heap.size 1 _ _ hR1
    have d2 := cell_of_row w1 w.heap.size 2 _ _ _ hR1; have f2 := frozen_of_row w1 w.heap.size 2 _ _ hR1
    have d3 := cell_of_row w1 w.heap.size 3 _ _ _ hR1; have f3 := frozen_of_row w1 w.heap.size 3 _ _ hR1
    simp only [List.getElem?_toArray, List.getElem?_cons_zero, List.getElem?_cons_succ] at d0 d1 d2 d3
    have e0 := cell_of_row w1 (w.heap.size + 1) 0 _ _ _ hE1; have g0 := frozen_of_row w1 (w.heap.size + 1) 0 _ _ hE1
    simp only [List.getElem?_toArray, List.getElem?_cons_zero] at e0
    have hb0sz := hb0.size
    have HX := Lib.hid (And.intro hE1 (And.intro hR1 (And.intro hb (And.intro hO (And.intro hs hr)))))
    clear hE1 hR1 hb hO hs hr hR0 hE0 hb0 hb1
    obtain ⟨ab, hab⟩ : ∃ ab, bodyAt ar (atS b) = ab := ⟨_, rfl⟩
    obtain ⟨n, hn⟩ : ∃ n, atN b = n := ⟨_, rfl⟩
    obtain ⟨k, hk⟩ : ∃ n, atK b = n := ⟨_, rfl⟩
    obtain ⟨t, ht⟩ : ∃ n, wrap64 (atT b) = n := ⟨_, rfl⟩
    obtain ⟨x, hx⟩ : ∃ n, atX b = n := ⟨_, rfl⟩
    obtain ⟨sz, hsz⟩ : ∃ n, atS b = n := ⟨_, rfl⟩
    rw [hab, hn, hk, ht, hx, hsz]
    have HAB := Lib.hid (And.intro hab (And.intro hn (And.intro hk (And.intro ht (And.intro hx hsz)))))
    clear hab hn hk ht hx hsz hn₁ hc
    go_wp2
    go_region
    go_wp2
    obtain ⟨hE1, hR1, hb, hO, hs, hr⟩ := HX.out
    obtain ⟨hab, hn, hk, ht, hx, hsz⟩ := HAB.out
    have hg1 := set4_grown w1 w.heap.size (.int .i64 (k : Int)) (.int .i64 t) (.int .i64 (x : Int)) (.slice ab sz sz)
    have hR2 := set4_heap (.int .i64 (k : Int)) (.int .i64 t) (.int .i64 (x : Int)) (.slice ab sz sz) hR1
    have hE2 := (hg1.block (w.heap.size + 1) (Array.getElem?_eq_some_iff.1 hE1).1 (by simp)).trans hE1
    have hO2 := hO.besides hR1 (by decide) hg1
    have hb2 := hb.grown hg1 hb.size (fun q e => by cases e; exact Nat.le_refl _)
    revert hR2 hE2 hO2 hb2
    clear hg1 hE1 hR1 hb hO
    generalize (((w1.setCell ⟨w.heap.size, 0, none⟩ (.int .i64 (k : Int))).setCell ⟨w.heap.size, 1, none⟩ (.int .i64 t)).setCell ⟨w.heap.size, 2, none⟩ (.int .i64 (x : Int))).setCell ⟨w.heap.size, 3, none⟩ (.slice ab sz sz) = w2
    intro hR2 hE2 hO2 hb2
    have hg1 := set4_grown w2 w.heap.size (.int .i64 (k : Int)) (.int .i64 t) (.int .i64 (x : Int)) (.slice ab sz sz)
    have hR3 := set4_heap (.int .i64 (k : Int)) (.int .i64 t) (.int .i64 (x : Int)) (.slice ab sz sz) hR2
    have hE3 := (hg1.block (w.heap.size + 1) (Array.getElem?_eq_some_iff.1 hE2).1 (by simp)).trans hE2
    have hO3 := hO2.besides hR2 (by decide) hg1
    have hb3 := hb2.grown hg1 hb2.size (fun q e => by cases e; exact Nat.le_refl _)
    revert hR3 hE3 hO3 hb3
    clear hg1 hR2 hE2 hb2 hO2
    generalize (((w2.setCell ⟨w.heap.size, 0, none⟩ (.int .i64 (k : Int))).setCell ⟨w.heap.size, 1, none⟩ (.int .i64 t)).setCell ⟨w.heap.size, 2, none⟩ (.int .i64 (x : Int))).setCell ⟨w.heap.size, 3, none⟩ (.slice ab sz sz) = w3
    intro hR3 hE3 hO3 hb3
    have hg4 := set_grown w3 ⟨w.heap.size + 1, 0, none⟩ (.int .i64 0)
    have hE4 := heap_setCell_same w3 (w.heap.size + 1) 0 _ _ (.int .i64 0) hE3
    have hR4 := (hg4.block w.heap.size (Array.getElem?_eq_some_iff.1 hR3).1 (by simp)).trans hR3
    have hO4 := hO3.besides hE3 (by decide) hg4
    have hb4 := hb3.grown hg4 hb3.size (fun q e => by cases e; exact Nat.le_succ _)
    refine leaves_cons (f := 24) (args := #[.pointer (some ⟨w.heap.size + 1, 0, none⟩)]) (by simp) (by simp [go_sem]) ?_
    refine (catch_idle (w.heap.size + 1) _).mono ?_
    rintro e u' w5 ⟨rfl, rfl, rfl⟩
    refine ⟨_, results_look _ _ _ _ _ _ _ _ rfl hR4 (by kernel_rfl) rfl (cell_of_row _ _ 0 _ _ _ hE4), hb4.drew, .inl ⟨?_, ar, cr, ?_, hO4.below (Below.refl _ _).drew |>.mono ?_⟩⟩
    · unfold lookE; rw [if_neg (by rw [hl]; simp), hs, hr]; rfl
    · rw [hn, hk, ht, hx, hsz, ← hsz, hab]; rfl
    · exact hb0sz
  · have hE1 := go_row hE0 hb1
    have hR1 := go_row hR0 hb1
    have hb := go_on hb0 hb1
    refine leaves_cons (f := 24) (args := #[.pointer (some ⟨w.heap.size + 1, 0, none⟩)]) (by simp) (by simp [go_sem]) ?_
    refine (catch_panicking (w.heap.size + 1) 0 140 [] _ (cell_of_row _ _ 0 _ _ _ hE1) (frozen_of_row _ _ 0 _ _ hE1)).mono ?_
    rintro e u' w2 ⟨rfl, rfl, rfl⟩
    have hE2 := heap_setCell_same w1 (w.heap.size + 1) 0 _ _ (.int .i64 140) hE1
    have hg2 := set_grown w1 ⟨w.heap.size + 1, 0, none⟩ (.int .i64 140)
    have hR2 := (hg2.block w.heap.size (Array.getElem?_eq_some_iff.1 hR1).1 (by simp)).trans hR1
    refine ⟨_, results_look _ _ _ _ _ _ _ _ rfl hR2 (by kernel_rfl) rfl (cell_of_row _ _ 0 _ _ _ hE2), hb.setCell (by simp) _, .inr ⟨?_, ?_⟩⟩
    · unfold lookE; rw [if_neg (by rw [hl]; simp), hs]; simp
    · unfold lookE; rw [if_neg (by rw [hl]; simp), hs]; rfl
  · have hE1 := go_row hE0 hb1
    have hR1 := go_row hR0 hb1
    have hb := go_on hb0 hb1
    refine leaves_cons (f := 24) (args := #[.pointer (some ⟨w.heap.size + 1, 0, none⟩)]) (by simp) (by simp [go_sem]) ?_
    refine (catch_panicking (w.heap.size + 1) 0 141 [] _ (cell_of_row _ _ 0 _ _ _ hE1) (frozen_of_row _ _ 0 _ _ hE1)).mono ?_
    rintro e u' w2 ⟨rfl, rfl, rfl⟩
    have hE2 := heap_setCell_same w1 (w.heap.size + 1) 0 _ _ (.int .i64 141) hE1
    have hg2 := set_grown w1 ⟨w.heap.size + 1, 0, none⟩ (.int .i64 141)
    have hR2 := (hg2.block w.heap.size (Array.getElem?_eq_some_iff.1 hR1).1 (by simp)).trans hR1
    refine ⟨_, results_look _ _ _ _ _ _ _ _ rfl hR2 (by kernel_rfl) rfl (cell_of_row _ _ 0 _ _ _ hE2), hb.setCell (by simp) _, .inr ⟨?_, ?_⟩⟩
    · unfold lookE; rw [if_neg (by rw [hl]; simp), hs, hr]; simp
    · unfold lookE; rw [if_neg (by rw [hl]; simp), hs, hr]; rfl
end Go.Proofs.YtjfpgclaefbhjaaDoor
