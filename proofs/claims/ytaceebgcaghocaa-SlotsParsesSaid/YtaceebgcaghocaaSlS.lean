/- Layer 5: Parse: what gives up by a panic is recovered at the face. -/
import Derived.Tactics2
import Derived.Defers
import Derived.Recover
import Derived.Laws.Pointers
import Derived.Test.YtaceebgcaghocaaSlNl
import Derived.Test.YtaceebgcaghocaaSlNb
namespace Go.Proofs.Ytaceebgcaghocaa
open Go.RowKit

theorem assert_yes (n : Int) (w : World) : (Instr.typeAssert (.iface 26 (.int .i64 n)) 20 26 true).run Try.prog w = .ok (.tuple #[.int .i64 n, .bool true]) w := by kernel_rfl
theorem assert_no (w : World) : (Instr.typeAssert .nilIface 20 26 true).run Try.prog w = .ok (.tuple #[.int .i64 0, .bool false]) w := by kernel_rfl
set_option maxHeartbeats 1000000 in
set_option maxRecDepth 100000 in
theorem catch_panicking (E : Nat) (x n : Int) (older : List PanicEntry) (w : World) (hc : w.cell? ⟨E, 0, none⟩ = some (.int .i64 x)) (hz : w.frozen? ⟨E, 0, none⟩ = false) :
    CallsD Try.prog 12 #[.pointer (some ⟨E, 0, none⟩)] (.panicking ({ v := .iface 26 (.int .i64 n), recovered := false } :: older)) w fun e u' w' =>
      e = .returned (.tuple #[]) ∧ u' = .panicking ({ v := .iface 26 (.int .i64 n), recovered := true } :: older) ∧ w' = w.setCell ⟨E, 0, none⟩ (.int .i64 n) := by
  refine callsD_of_wpS Try.func12 rfl fun c₀ cs hu => ?_
  apply wpS_seq
  apply wpS_region
  simp [wpOpsS, go_sem, recoverD, hu, Try.ntmps12, Exit.thenS, assert_yes]
  apply wpS_seq
  apply wpS_region
  simp [wpOpsS, go_sem, Exit.thenS]
  refine wpS_cond (t := true) (by simp [Act.eval, Array.replicate]) ?_
  simp only [if_true]
  apply wpS_region
  simp [wpOpsS, go_sem, hc, hz, bodyPostS, results, Try.results12]
set_option maxHeartbeats 1000000 in
set_option maxRecDepth 100000 in
theorem catch_idle (E : Nat) (w : World) :
    CallsD Try.prog 12 #[.pointer (some ⟨E, 0, none⟩)] .returning w fun e u' w' => e = .returned (.tuple #[]) ∧ u' = .returning ∧ w' = w := by
  refine callsD_of_wpS Try.func12 rfl fun c₀ cs hu => ?_
  apply wpS_seq
  apply wpS_region
  simp [wpOpsS, go_sem, recoverD, hu, Try.ntmps12, Exit.thenS, assert_no]
  apply wpS_seq
  apply wpS_region
  simp [wpOpsS, go_sem, Exit.thenS]
  refine wpS_cond (t := false) (by simp [Act.eval, Array.replicate]) ?_
  simp only [Bool.false_eq_true, if_false]
  refine wpS_of_wp (wp_skip ?_)
  cases c₀
  simp_all [bodyPostS, results, Try.results12]
theorem results_parse (tmps : Array Value) (w : World) (E : Nat) (v : Value)
    (he : tmps.getD 5 undef = .pointer (some ⟨E, 0, none⟩)) (hv : w.cell? ⟨E, 0, none⟩ = some v) :
    (results Try.f5 tmps).run Try.prog w = .ok (.tuple #[tmps.getD 4 undef, v]) w := by
  have h1 : (results Try.f5 tmps).run Try.prog w = ((asAddr (tmps.getD 5 undef)).run Try.prog w).andThen fun a w => ((loadVar 26 a).run Try.prog w).andThen fun v w => .ok (.tuple #[tmps.getD 4 undef, v]) w := by
    simp [results, Try.results5]
  rw [h1, he]
  have h2 : (loadVar 26 ⟨E, 0, none⟩).run Try.prog w = .ok v w := by
    simp [loadVar, Try.isAgg26 w, go_sem, Result.andThen, hv]
  simp [asAddr, h2, Result.andThen]
def ParsePost5 (w : World) (k : Int) (b : List UInt8) (e : Ending) (w' : World) : Prop := Below w.heap.size w w' ∧
  ((k ≠ 2 ∧ k ≠ 3 ∧ e = .returned (.tuple #[.slice none 0 0, .int .i64 2])) ∨
   (∃ L v, Parsed k b L ∧ e = .returned (.tuple #[v, .int .i64 0]) ∧ OwnC w' w.heap.size v L) ∨
   ((k = 2 ∨ k = 3) ∧ (∀ L, ¬ Parsed k b L) ∧ e = .returned (.tuple #[.slice none 0 0, .int .i64 151])))
set_option maxHeartbeats 1000000 in
set_option maxRecDepth 100000 in
theorem parse_some (k : Int) (hk : k = 2 ∨ k = 3) (b : List UInt8) (a : Option Addr) (c n₁ : Nat) (hc : b.length ≤ c) (w : World) (hm : BytesAt n₁ w a b) (hn₁ : n₁ ≤ w.heap.size) (hno : a = none → c = 0) (hbl : b.length ≤ 1000000) :
    Calls Try.prog 5 #[.int .i64 k, .slice a b.length c] w fun e w' => ParsePost5 w k b e w' := by
  have hmf : ∀ (fn : Fn) (first cap : Array Value) (w : World), (Instr.makeFunc fn first cap).run Try.prog w = .ok (.func fn first cap) w := fun _ _ _ _ => rfl
  have hb0 : Below w.heap.size w (w.alloc (.cells #[.int .i64 0] 26)) := (Below.refl _ _).alloc (Nat.le_refl _) _
  have HB0 := Lib.hid (And.intro hb0 (And.intro hm (And.intro hno hc)))
  have HK := Lib.hid hk
  have hkf : ∃ fn, kindF k.toNat = some fn ∧ (k.toNat : Int) = k := by
    rcases hk with rfl | rfl
    · exact ⟨_, kindF_2, rfl⟩
    · exact ⟨_, kindF_3, rfl⟩
  obtain ⟨fn, hkf, hkn⟩ := hkf
  have hkl : k.toNat ≤ 9223372036854775807 := by rcases hk with rfl | rfl <;> decide
  have HKF := Lib.hid hkf
  have HKN := Lib.hid hkn
  clear hb0 hm hno hc hk hkf hkn
  go_enter_defers Try.func5, Try.ntmps5
  go_wp2_with fail
  refine (kinds_any _).mono ?_
  rintro e w1 ⟨rfl, hmm, hb1⟩
  rw [World.size_alloc] at hmm
  have HM := Lib.hid (And.intro hmm hb1)
  clear hmm hb1
  go_wp2_with (refine wpList_look rfl _ _ true rfl Try.underlying22 Try.underlying43 zeroPart HM.out.1 rfl k.toNat hkl (by rw [HKN.out]; rfl) ?_; rw [HKF.out]; simp only [Option.isSome_some, Option.getD_some, if_true])
  have hbk : Below w.heap.size w w1 := go_on HB0.out.1 HM.out.2
  have hE1 : w1.heap[w.heap.size]? = some (.cells #[.int .i64 0] 26 (0, 0)) := go_row (heap_alloc_new w _) HM.out.2
  have HRD := Lib.hid (show Calls Try.prog 13 #[.int .i64 k, .slice a b.length c] w1 fun e w' => ReadPost5 w1 k b e w' from by
    rcases HK.out with rfl | rfl
    · exact read_leaf b a c n₁ HB0.out.2.2.2 w1 (HB0.out.2.1.below (hbk.mono hn₁)) HB0.out.2.2.1 hbl
    · exact read_branch b a c n₁ HB0.out.2.2.2 w1 (HB0.out.2.1.below (hbk.mono hn₁)) HB0.out.2.2.1 hbl)
  have HE1 := Lib.hid (And.intro hbk hE1)
  clear hbk hE1
  go_wp2_with fail
  refine HRD.out.mono ?_
  obtain ⟨hbk, hE1⟩ := HE1.out
  have hwl := hbk.size
  rintro e w2 ⟨hb2, ⟨L, v, hp, rfl, hO⟩ | ⟨hp, rfl⟩⟩
  · have hE2 := go_row hE1 hb2
    have hb := go_on hbk hb2
    have e0 := cell_of_row w2 w.heap.size 0 _ _ _ hE2; have g0 := frozen_of_row w2 w.heap.size 0 _ _ hE2
    simp only [List.getElem?_toArray, List.getElem?_cons_zero] at e0
    have HX := Lib.hid (And.intro hE2 (And.intro hb (And.intro hp hO)))
    clear hE2 hb hp hO hb2
    go_wp2
    obtain ⟨hE2, hb, hp, hO⟩ := HX.out
    have hE3 := heap_setCell_same w2 w.heap.size 0 _ _ (.int .i64 0) hE2
    have hb3 := hb.setCell (p := ⟨w.heap.size, 0, none⟩) (Nat.le_refl _) (.int .i64 0)
    have hO3 := hO.kept (w' := w2.setCell ⟨w.heap.size, 0, none⟩ (.int .i64 0)) (fun g hg => Below.heap_setCell w2 _ _ g (by have := hO.block g hg; show g ≠ w.heap.size; have := (Array.getElem?_eq_some_iff.1 hE1).1; omega))
    refine leaves_cons (f := 12) (args := #[.pointer (some ⟨w.heap.size, 0, none⟩)]) (by simp) (by simp [go_sem]) ?_
    refine (catch_idle w.heap.size _).mono ?_
    rintro e u' w5 ⟨rfl, rfl, rfl⟩
    refine ⟨_, results_parse _ _ _ _ rfl (cell_of_row _ _ 0 _ _ _ hE3), hb3, .inr (.inl ⟨L, _, hp, rfl, hO3.mono hwl⟩)⟩
  · have hE2 := go_row hE1 hb2
    have hb := go_on hbk hb2
    refine leaves_cons (f := 12) (args := #[.pointer (some ⟨w.heap.size, 0, none⟩)]) (by simp) (by simp [go_sem]) ?_
    refine (catch_panicking w.heap.size 0 151 [] _ (cell_of_row _ _ 0 _ _ _ hE2) (frozen_of_row _ _ 0 _ _ hE2)).mono ?_
    rintro e u' w3 ⟨rfl, rfl, rfl⟩
    have hE3 := heap_setCell_same w2 w.heap.size 0 _ _ (.int .i64 151) hE2
    refine ⟨_, results_parse _ _ _ _ rfl (cell_of_row _ _ 0 _ _ _ hE3), hb.setCell (Nat.le_refl _) _, .inr (.inr ⟨HK.out, hp, rfl⟩)⟩
set_option maxHeartbeats 1000000 in
set_option maxRecDepth 100000 in
theorem parse_none (k : Int) (hw : (Lit.int .i64 k).wf = true) (h2 : k ≠ 2) (h3 : k ≠ 3) (b : List UInt8) (a : Option Addr) (c : Nat) (w : World) :
    Calls Try.prog 5 #[.int .i64 k, .slice a b.length c] w fun e w' => ParsePost5 w k b e w' := by
  have hb0 : Below w.heap.size w (w.alloc (.cells #[.int .i64 0] 26)) := (Below.refl _ _).alloc (Nat.le_refl _) _
  have HB0 := Lib.hid (And.intro hb0 (And.intro h2 h3))
  have HK := Lib.hid (kindF_none h2 h3)
  clear hb0 h2 h3
  go_enter_defers Try.func5, Try.ntmps5
  go_wp2_with fail
  refine (kinds_any _).mono ?_
  rintro e w1 ⟨rfl, hmm, hb1⟩
  rw [World.size_alloc] at hmm
  have hE1 : w1.heap[w.heap.size]? = some (.cells #[.int .i64 0] 26 (0, 0)) := go_row (heap_alloc_new w _) hb1
  have e0 := cell_of_row w1 w.heap.size 0 _ _ _ hE1; have g0 := frozen_of_row w1 w.heap.size 0 _ _ hE1
  simp only [List.getElem?_toArray, List.getElem?_cons_zero] at e0
  have HM := Lib.hid (And.intro hmm (And.intro (go_on HB0.out.1 hb1) hE1))
  clear hmm hb1 hE1
  go_wp2_with (refine wpList_look_none rfl _ _ true rfl Try.underlying22 Try.underlying43 zeroPart HM.out.1 rfl k hw HK.out rfl ?_)
  obtain ⟨-, hb, hE1⟩ := HM.out
  have hE3 := heap_setCell_same w1 w.heap.size 0 _ _ (.int .i64 2) hE1
  refine ⟨_, results_parse _ _ _ _ rfl (cell_of_row _ _ 0 _ _ _ hE3), hb.setCell (Nat.le_refl _) _, .inl ⟨HB0.out.2.1, HB0.out.2.2, rfl⟩⟩
theorem parse_any (k : Int) (hw : (Lit.int .i64 k).wf = true) (b : List UInt8) (a : Option Addr) (c n₁ : Nat) (hc : b.length ≤ c) (w : World) (hm : BytesAt n₁ w a b) (hn₁ : n₁ ≤ w.heap.size) (hno : a = none → c = 0) (hbl : b.length ≤ 1000000) :
    Calls Try.prog 5 #[.int .i64 k, .slice a b.length c] w fun e w' => ParsePost5 w k b e w' := by
  by_cases h2 : k = 2
  · exact parse_some k (.inl h2) b a c n₁ hc w hm hn₁ hno hbl
  by_cases h3 : k = 3
  · exact parse_some k (.inr h3) b a c n₁ hc w hm hn₁ hno hbl
  · exact parse_none k hw h2 h3 b a c w
end Go.Proofs.Ytaceebgcaghocaa
