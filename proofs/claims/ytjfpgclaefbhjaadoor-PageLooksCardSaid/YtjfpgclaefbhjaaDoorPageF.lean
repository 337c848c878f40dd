/- Layer 4: Parse; kinds told by an array of texts. -/
import Derived.Laws.ResultCell
import Derived.Test.YtjfpgclaefbhjaaDoorPageE
namespace Go.Proofs.YtjfpgclaefbhjaaDoor
open Go.RowKit

def parseE (n : Int) (b : List UInt8) : Nat := if numB n = true then (if lookE b = 0 then (if (atN b : Int) = n then 0 else 141) else lookE b) else 2
def ParsePost (w : World) (n : Int) (b : List UInt8) (e : Ending) (w' : World) : Prop := Below w.heap.size w w' ∧
  ((parseE n b = 0 ∧ ∃ ar c, e = .returned (.tuple #[pgv (atK b) (wrap64 (atT b)) (atX b) (bodyAt ar (atS b)) (atS b) (atS b), .int .i64 0]) ∧ OwnB w' w.heap.size (.slice ar 234 c) (b.drop 22)) ∨
   (parseE n b ≠ 0 ∧ e = .returned (.tuple #[pgv 0 0 0 none 0 0, .int .i64 (parseE n b)])))
theorem results_ct {fn : Func} {p u : Tmp} {ty : TypeId} {fs : Array Field} (h : fn.results = #[.cell p ty, .tmp u]) (tmps : Array Value) (w : World) (g : Nat) (t : TypeId) (cs : Array Value) (fr : Nat × Nat)
    (hp : tmps.getD p undef = .pointer (some ⟨g, 0, none⟩)) (hg : w.heap[g]? = some (.cells cs t fr)) (hu : Tryd.prog.underlying ty = some (.struct fs)) (hi : (Tryd.prog.info? ty).map (·.size) = some cs.size) :
    (results fn tmps).run Tryd.prog w = .ok (.tuple #[.agg cs, tmps.getD u undef]) w := by
  rw [results_cell_tmp h]
  rw [hp]
  simp [asAddr, run_loadVar_row w g t ty cs fr _ hg hu rfl hi, Result.andThen]
set_option maxHeartbeats 1000000 in
set_option maxRecDepth 100000 in
theorem parse_any (n : Int) (b : List UInt8) (a : Option Addr) (c n₁ : Nat) (hc : b.length ≤ c) (w : World) (hm : BytesAt n₁ w a b) (hn₁ : n₁ ≤ w.heap.size) (hno : a = none → c = 0) (hT : Tab w) (hg : 1 + 1 ≤ w.heap.size) :
    Calls Tryd.prog 12 #[.int .i64 n, .slice a b.length c] w fun e w' => ParsePost w n b e w' := by
  have hb0 : Below w.heap.size w (w.alloc (.cells #[.int .i64 0, .int .i64 0, .int .i64 0, .slice none 0 0] 25)) := (Below.refl _ _).alloc (Nat.le_refl _) _
  by_cases hn : numB n = true
  case neg =>
    have hn2 : numB n = false := by simpa using hn
    have HB0 := Lib.hid hb0
    clear hn hm hT hg hno hb0
    go_enter Tryd.func12, Tryd.ntmps12
    go_wp2_with (go_at_call 19; refine (isNumber_any _ _).mono ?_; rintro e w' ⟨rfl, rfl⟩)
    refine bodyPost_ret (results_ct rfl _ _ _ _ _ _ rfl (heap_alloc_new _ _) Tryd.underlying25 (by kernel_rfl)) rfl ?_
    refine ⟨HB0.out, .inr ⟨?_, ?_⟩⟩
    · unfold parseE; rw [hn2]; simp
    · unfold parseE; rw [hn2]; rfl
  have HLK := Lib.hid (look_any b a c n₁ hc _ (hm.below (hb0.mono hn₁)) (Nat.le_trans hn₁ hb0.size) hno (hT.below hg hb0) (Nat.le_trans hg hb0.size))
  have HB0 := Lib.hid hb0
  have hr0 := heap_alloc_new w (.cells #[.int .i64 0, .int .i64 0, .int .i64 0, .slice none 0 0] 25)
  have HR0 := Lib.hid hr0
  clear hm hT hg hno hb0 hr0
  go_enter Tryd.func12, Tryd.ntmps12
  go_wp2_with (go_at_call 19; refine (isNumber_any _ _).mono ?_; rintro e w' ⟨rfl, rfl⟩)
  refine HLK.out.mono ?_
  rintro e w1 ⟨hb1, ⟨hlk, ar, cr, rfl, hO⟩ | ⟨hlk, rfl⟩⟩
  · have hb := go_on HB0.out hb1
    have hR1 := go_row HR0.out hb1
    have hsz := HB0.out.size
    obtain ⟨ab, hab⟩ : ∃ ab, bodyAt ar (atS b) = ab := ⟨_, rfl⟩
    obtain ⟨m, hme⟩ : ∃ n, atN b = n := ⟨_, rfl⟩
    obtain ⟨k, hk⟩ : ∃ n, atK b = n := ⟨_, rfl⟩
    obtain ⟨t, ht⟩ : ∃ n, wrap64 (atT b) = n := ⟨_, rfl⟩
    obtain ⟨x, hx⟩ : ∃ n, atX b = n := ⟨_, rfl⟩
    obtain ⟨sz, hsz2⟩ : ∃ n, atS b = n := ⟨_, rfl⟩
    rw [hab, hme, hk, ht, hx, hsz2]
    have HAB := Lib.hid (And.intro hab (And.intro hme (And.intro hk (And.intro ht (And.intro hx hsz2)))))
    have d0 := cell_of_row w1 w.heap.size 0 _ _ _ hR1; have f0 := frozen_of_row w1 w.heap.size 0 _ _ hR1
    have d1 := cell_of_row w1 w.heap.size 1 _ _ _ hR1; have f1 := frozen_of_row w1 w.heap.size 1 _ _ hR1
    have d2 := cell_of_row w1 w.heap.size 2 _ _ _ hR1; have f2 := frozen_of_row w1 w.heap.size 2 _ _ hR1
    have d3 := cell_of_row w1 w.heap.size 3 _ _ _ hR1; have f3 := frozen_of_row w1 w.heap.size 3 _ _ hR1
    simp only [List.getElem?_toArray, List.getElem?_cons_zero, List.getElem?_cons_succ] at d0 d1 d2 d3
    have hlt := (Array.getElem?_eq_some_iff.1 hR1).1
    have HX := Lib.hid (And.intro hR1 (And.intro hb (And.intro hO hlk)))
    clear hab hme hk ht hx hsz2 hR1 hb hO hlk HB0 hb1 HLK hc hn₁
    by_cases hq : (m : Int) = n
    · have hq1 : ((m : Int) != n) = false := by simpa using hq
      go_wp2
      obtain ⟨hR1, hb, hO, hlk⟩ := HX.out
      obtain ⟨hab, hme, hk, ht, hx, hsz2⟩ := HAB.out
      have hg1 := set4_grown w1 w.heap.size (.int .i64 (k : Int)) (.int .i64 t) (.int .i64 (x : Int)) (.slice ab sz sz)
      have hR2 := set4_heap (.int .i64 (k : Int)) (.int .i64 t) (.int .i64 (x : Int)) (.slice ab sz sz) hR1
      have hO2 := hO.besides hR1 (by decide) hg1
      have hb2 := hb.grown hg1 hb.size (fun q e => by cases e; exact Nat.le_refl _)
      refine bodyPost_ret (results_ct rfl _ _ _ _ _ _ rfl ((Below.heap_alloc _ _ _ (Array.getElem?_eq_some_iff.1 hR2).1).trans hR2) Tryd.underlying25 (by kernel_rfl)) rfl ?_
      refine ⟨hb2.alloc hb2.size _, .inl ⟨?_, ar, cr, ?_, (hO2.alloc _).mono hsz⟩⟩
      · unfold parseE; rw [hn, hlk, hme]; simp [hq]
      · rw [hk, ht, hx, hsz2, ← hsz2, hab]; rfl
    · have hq1 : ((m : Int) != n) = true := by simpa using hq
      go_wp2
      obtain ⟨hR1, hb, hO, hlk⟩ := HX.out
      obtain ⟨hab, hme, hk, ht, hx, hsz2⟩ := HAB.out
      have hg1 := set4_grown w1 w.heap.size (.int .i64 0) (.int .i64 0) (.int .i64 0) (.slice none 0 0)
      have hR2 := set4_heap (.int .i64 0) (.int .i64 0) (.int .i64 0) (.slice none 0 0) hR1
      have hb2 := hb.grown hg1 hb.size (fun q e => by cases e; exact Nat.le_refl _)
      refine bodyPost_ret (results_ct rfl _ _ _ _ _ _ rfl ((Below.heap_alloc _ _ _ (Array.getElem?_eq_some_iff.1 hR2).1).trans hR2) Tryd.underlying25 (by kernel_rfl)) rfl ?_
      refine ⟨hb2.alloc hb2.size _, .inr ⟨?_, ?_⟩⟩
      · unfold parseE; rw [hn, hlk, hme]; simp [hq]
      · unfold parseE; rw [hn, hlk, hme]; simp [hq]
  · have hb := go_on HB0.out hb1
    have hR1 := go_row HR0.out hb1
    obtain ⟨m, hme⟩ : ∃ m, lookE b = m := ⟨_, rfl⟩
    rw [hme] at hlk ⊢
    have hm0 : ((m : Int) == 0) = false := by simpa using hlk
    have d0 := cell_of_row w1 w.heap.size 0 _ _ _ hR1; have f0 := frozen_of_row w1 w.heap.size 0 _ _ hR1
    have d1 := cell_of_row w1 w.heap.size 1 _ _ _ hR1; have f1 := frozen_of_row w1 w.heap.size 1 _ _ hR1
    have d2 := cell_of_row w1 w.heap.size 2 _ _ _ hR1; have f2 := frozen_of_row w1 w.heap.size 2 _ _ hR1
    have d3 := cell_of_row w1 w.heap.size 3 _ _ _ hR1; have f3 := frozen_of_row w1 w.heap.size 3 _ _ hR1
    simp only [List.getElem?_toArray, List.getElem?_cons_zero, List.getElem?_cons_succ] at d0 d1 d2 d3
    have hlt := (Array.getElem?_eq_some_iff.1 hR1).1
    have HX := Lib.hid (And.intro hR1 (And.intro hb (And.intro hme hlk)))
    clear hR1 hb hme hlk HB0 hb1 HLK hc hn₁
    go_wp2
    obtain ⟨hR1, hb, hme, hlk⟩ := HX.out
    have hg1 := set4_grown w1 w.heap.size (.int .i64 0) (.int .i64 0) (.int .i64 0) (.slice none 0 0)
    have hR2 := set4_heap (.int .i64 0) (.int .i64 0) (.int .i64 0) (.slice none 0 0) hR1
    have hb2 := hb.grown hg1 hb.size (fun q e => by cases e; exact Nat.le_refl _)
    refine bodyPost_ret (results_ct rfl _ _ _ _ _ _ rfl ((Below.heap_alloc _ _ _ (Array.getElem?_eq_some_iff.1 hR2).1).trans hR2) Tryd.underlying25 (by kernel_rfl)) rfl ?_
    refine ⟨hb2.alloc hb2.size _, .inr ⟨?_, ?_⟩⟩
    · unfold parseE; rw [hn, hme, if_pos rfl, if_neg hlk]; exact hlk
    · unfold parseE; rw [hn, hme, if_pos rfl, if_neg hlk]; rfl
def textOf (k : Int) : List UInt8 := if k = 1 then [109, 101, 116, 97] else if k = 2 then [108, 101, 97, 102] else if k = 3 then [98, 114, 97, 110, 99, 104] else if k = 4 then [99, 104, 97, 105, 110] else if k = 5 then [102, 114, 101, 101] else []
/-- The array of texts holds them. -/
def Texts (w : World) : Prop := ∀ i : Nat, i < 6 → w.cell? ⟨0, i, none⟩ = some (.string ⟨(textOf i).toArray⟩)
theorem Texts.below {A B : World} {n₀ : Nat} (hn : 0 + 1 ≤ n₀) (h : Below n₀ A B) (k : Texts A) : Texts B := fun i hi => (h.cell (p := ⟨0, i, none⟩) hn).trans (k i hi)
theorem text_any (k : Int) (w : World) (hX : Texts w) : Calls Tryd.prog 18 #[.int .i64 k] w fun e w' => e = .returned (.tuple #[.string ⟨(if kindB k then textOf k else []).toArray⟩, .int .i64 (if kindB k then 0 else 2)]) ∧ w = w' := by
  by_cases h1 : kindB k = true
  · have hk : 0 ≤ k ∧ k < 6 := by simp [kindB] at h1; omega
    have hc := hX k.toNat (by omega)
    have hkn : ((k.toNat : Nat) : Int) = k := by omega
    rw [hkn] at hc
    simp only [h1, if_true]
    obtain ⟨s, hs⟩ : ∃ s : ByteArray, ⟨(textOf k).toArray⟩ = s := ⟨_, rfl⟩
    rw [hs] at hc ⊢
    have HK := Lib.hid hkn
    clear hkn hs hX
    obtain ⟨hk1, hk2⟩ := hk
    go_enter Tryd.func18, Tryd.ntmps18
    go_wp2_with (go_at_call 23; refine (isKind_any _ _).mono ?_; rintro e w' ⟨rfl, rfl⟩)
    go_ret2
    exact ⟨rfl, rfl⟩
  · have h2 : kindB k = false := by simpa using h1
    simp only [h2, Bool.false_eq_true, if_false]
    clear h1 hX
    go_enter Tryd.func18, Tryd.ntmps18
    go_wp2_with (go_at_call 23; refine (isKind_any _ _).mono ?_; rintro e w' ⟨rfl, rfl⟩)
    go_ret2
    exact ⟨rfl, rfl⟩
end Go.Proofs.YtjfpgclaefbhjaaDoor
