/- Layer 2: the document's disk in memory; its Flush. -/
import Derived.Test.YtkophpipehdkmaaStops
import Derived.Test.YtkophpipehdkmaaRefD5
import Derived.StillTailTactics
namespace Go.Proofs.Ytkophpipehdkmaa
open Go.RowKit

theorem infoStr : (Try.prog.info? 9).map (fun i => (i.zero, i.size, i.bytes)) = some (some (.string ⟨#[]⟩), 1, 16) := by kernel_rfl
/-- A row of pages, which the call made. -/
def OwnS (w : World) (base : Nat) (v : Value) (ls : List ByteArray) : Prop := w.ownsRow base 9 1 v ls.length (ls.map .string)
theorem copy_lasts (w : World) (ty : TypeId) (base : Nat) (hb : base ≤ w.heap.size) (la : Option Addr) (lc : Nat) (ls : List ByteArray) (hn : la = none → lc = 0) (hle : ls.length ≤ lc) (hf : ls.length ≤ 1000000) (hl : LiesAt w.heap.size w 9 la (ls.map .string)) :
    ∃ v' w', (Builtin.append_ #[29, 29] ty #[.slice none 0 0, .slice la ls.length lc]).run Try.prog w = .ok v' w' ∧ OwnS w' base v' ls ∧ Below w.heap.size w w' := by
  obtain ⟨i0, hi, hz0, hz1, hz2⟩ := info_parts infoStr
  have hnil : w.ownsRow base 9 1 (.slice none 0 0) 0 [] := World.ownsRow_nil w base _ _
  cases la with
  | none =>
    obtain rfl := hn rfl
    obtain rfl : ls = [] := List.eq_nil_of_length_eq_zero (by omega)
    have hrun := run_append_owned_none (P := Try.prog) (w := w) base 29 ty 9 i0 1 Try.underlying29 hi (.slice none 0 0) 0 [] hnil
    exact ⟨_, _, hrun, hnil, Below.refl _ _⟩
  | some a =>
    have hnews : ∀ j u, (ls.map Value.string)[j]? = some u → w.cell? (a.add j) = some u := fun j u hu => by
      obtain ⟨b, off, e, hlt, -, hc⟩ := hl (by rintro h; rw [h] at hu; simp at hu)
      cases e
      rw [addr_add]
      exact hc j u hu
    obtain ⟨v', w', hr, h2, h3, -, -⟩ := run_append_own_at (P := Try.prog) w base 29 ty 9 i0 _ 1 16 Try.underlying29 hi hz0 hz1 hz2 rfl (by decide) (.slice none 0 0) 0 [] hnil a ls.length lc (ls.map .string) (by simp) hnews (by intro u hu; obtain ⟨x, _, rfl⟩ := List.mem_map.1 hu; rfl) (by unfold maxLen; omega) (by omega) hb
    exact ⟨v', w', hr, by unfold OwnS; simpa using h2, ⟨h3.os, h3.tape, h3.output, h3.size, fun k hk => h3.block k hk (by intro e; cases e)⟩⟩
/-- The pages behind these writes. -/
def flushed (ls : List ByteArray) (ws : List (Int × ByteArray)) : List ByteArray := ws.foldl (fun ls x => ls.set x.1.toNat x.2) ls
theorem flushed_len (ls : List ByteArray) (ws : List (Int × ByteArray)) : (flushed ls ws).length = ls.length := by
  unfold flushed
  induction ws generalizing ls with
  | nil => rfl
  | cons x ws ih => rw [List.foldl_cons, ih, List.length_set]
theorem flushed_snoc (ls : List ByteArray) (ws : List (Int × ByteArray)) (x : Int × ByteArray) : flushed ls (ws ++ [x]) = (flushed ls ws).set x.1.toNat x.2 := by simp [flushed]
def GD.flush (g : GD) : GD × Int := if g.stepped.2 = 0 then ({ g.stepped.1 with lasts := flushed g.lasts g.waits, waits := [] }, 0) else g.stepped
/-- One page set. -/
theorem OwnS.set {w : World} {base gl cap : Nat} {n : Nat} {ls : List ByteArray} (h : OwnS w base (.slice (some ⟨gl, 0, none⟩) n cap) ls) (p : Nat) (s : ByteArray) : OwnS (w.setCell ⟨gl, p, none⟩ (.string s)) base (.slice (some ⟨gl, 0, none⟩) n cap) (ls.set p s) := by
  obtain ⟨h1, h2⟩ := h
  rcases h2 with ⟨e, _⟩ | ⟨g', cap', cur, e, hb, hc, hle, hm, hs, ht⟩
  · cases e
  · have e1 : g' = gl := by injection e with e1 e2 e3; injection e1 with e1; injection e1 with e1; exact e1.symm
    have e2 : n = ls.length := by injection e
    have e3 : cap' = cap := by injection e with _ _ e3; exact e3.symm
    subst e1; subst e2; subst e3
    refine ⟨by simp, .inr ⟨g', cap', cur.set! p (.string s), by simp, hb, heap_setCell_same w g' p _ _ _ hc, by simpa using hle, hm, by simpa using hs, ?_⟩⟩
    simp only [Array.set!_eq_setIfInBounds, Array.toList_setIfInBounds, List.length_set, List.map_set]
    rw [← ht, List.take_set]
theorem wtsCells_get {ws : List (Int × ByteArray)} {k : Nat} {x : Int × ByteArray} (h : ws[k]? = some x) : (wtsCells ws)[k * 2]? = some (.int .i64 x.1) ∧ (wtsCells ws)[k * 2 + 1]? = some (.string x.2) := by
  induction ws generalizing k with
  | nil => simp at h
  | cons y ws ih =>
    cases k with
    | zero => simp at h; subst h; exact ⟨rfl, rfl⟩
    | succ k =>
      have := ih (k := k) (by simpa using h)
      rw [show (k + 1) * 2 = k * 2 + 1 + 1 by omega]
      exact this
/-- What holds at each write of the flush. -/
structure FlI (w wr : World) (Wn : Nat) (c0 c1 : Array Value) (u : Value) (ls : List ByteArray) : Prop where
  row : OwnS wr Wn u ls
  one : wr.heap[w.heap.size]? = some (.cells c0 34 (0, 0))
  two : wr.heap[w.heap.size + 1]? = some (.cells c1 34 (0, 0))
  bel : Below w.heap.size w wr
  far : w.heap.size + 1 < Wn
set_option maxRecDepth 100000 in
set_option maxHeartbeats 4000000 in
theorem gflush_ok {w : World} {la wa : Option Addr} {lc wc : Nat} {g : GD} (L n : Nat) (hL : g.lasts.length = L) (hn : g.waits.length = n) (rk rl : Int) (rb : Bool) (rs : Int)
    (hf : g.waits.length ≤ 1000000) (hpg : ∀ x ∈ g.waits, 0 ≤ x.1 ∧ x.1 < (L : Int))
    (ST : Hid (∀ w : World, Calls Try.prog 43 #[rv la L lc wa n wc g.k g.l g.b g.s] w fun e w' => e = .returned (.tuple #[rv la L lc wa n wc rk rl rb rs, .int .i64 0]) ∧ Below w.heap.size w w'))
    (HH : Hid (IsG w.heap.size w la lc wa wc g)) :
    Calls Try.prog 24 #[.agg #[.slice la L lc, .slice wa n wc, .int .i64 g.k, .int .i64 g.l, .bool g.b, .int .i64 g.s]] w fun e w' => GPost w ({ g with k := rk, l := rl, b := rb, s := rs, lasts := flushed g.lasts g.waits, waits := [] }, 0) e w' := by
  simp only [rv] at ST
  have HF := Lib.hid (And.intro hf hpg)
  clear hf hpg
  go_enter Try.func24, Try.ntmps24
  go_wp2_with (first | (at_builtin; refine stop_here ?_) | (go_at_call 43; refine (ST.out _).mono ?_; rintro e w3 ⟨rfl, hb3⟩; have hr0 := (hb3.block w.heap.size (by simp; omega)).trans ((Below.heap_alloc _ _ _ (by simp)).trans (heap_alloc_new w (.cells #[.slice la L lc, .slice wa n wc, .int .i64 g.k, .int .i64 g.l, .bool g.b, .int .i64 g.s] 34))); have hr1 := (hb3.block (w.heap.size + 1) (by simp)).trans (heap_alloc_new' w (.cells #[.slice la L lc, .slice wa n wc, .int .i64 g.k, .int .i64 g.l, .bool g.b, .int .i64 g.s] 34) (.cells #[.slice none 0 0, .slice none 0 0, .int .i64 0, .int .i64 0, .bool false, .int .i64 0] 34)); have c00 := cell_of_row w3 w.heap.size 0 _ _ _ hr0; have f00 := frozen_of_row w3 w.heap.size 0 _ _ hr0; have c01 := cell_of_row w3 w.heap.size 1 _ _ _ hr0; have f01 := frozen_of_row w3 w.heap.size 1 _ _ hr0; have c02 := cell_of_row w3 w.heap.size 2 _ _ _ hr0; have f02 := frozen_of_row w3 w.heap.size 2 _ _ hr0; have c03 := cell_of_row w3 w.heap.size 3 _ _ _ hr0; have f03 := frozen_of_row w3 w.heap.size 3 _ _ hr0; have c04 := cell_of_row w3 w.heap.size 4 _ _ _ hr0; have f04 := frozen_of_row w3 w.heap.size 4 _ _ hr0; have c05 := cell_of_row w3 w.heap.size 5 _ _ _ hr0; have f05 := frozen_of_row w3 w.heap.size 5 _ _ hr0; have c10 := cell_of_row w3 (w.heap.size + 1) 0 _ _ _ hr1; have f10 := frozen_of_row w3 (w.heap.size + 1) 0 _ _ hr1; have c11 := cell_of_row w3 (w.heap.size + 1) 1 _ _ _ hr1; have f11 := frozen_of_row w3 (w.heap.size + 1) 1 _ _ hr1; have c12 := cell_of_row w3 (w.heap.size + 1) 2 _ _ _ hr1; have f12 := frozen_of_row w3 (w.heap.size + 1) 2 _ _ hr1; have c13 := cell_of_row w3 (w.heap.size + 1) 3 _ _ _ hr1; have f13 := frozen_of_row w3 (w.heap.size + 1) 3 _ _ hr1; have c14 := cell_of_row w3 (w.heap.size + 1) 4 _ _ _ hr1; have f14 := frozen_of_row w3 (w.heap.size + 1) 4 _ _ hr1; have c15 := cell_of_row w3 (w.heap.size + 1) 5 _ _ _ hr1; have f15 := frozen_of_row w3 (w.heap.size + 1) 5 _ _ hr1; simp only [List.getElem?_toArray, List.getElem?_cons_zero, List.getElem?_cons_succ] at c00 c01 c02 c03 c04 c05 c10 c11 c12 c13 c14 c15))
  refine Lib.hid ?_
  have hr0W := set6_heap (.slice la L lc) (.slice wa n wc) (.int .i64 rk) (.int .i64 rl) (.bool rb) (.int .i64 rs) hr0
  have g0 := set6_grown w3 w.heap.size (.slice la L lc) (.slice wa n wc) (.int .i64 rk) (.int .i64 rl) (.bool rb) (.int .i64 rs)
  have hr1W := (g0.block (w.heap.size + 1) (Array.getElem?_eq_some_iff.1 hr1).1 (by simp)).trans hr1
  have hbA : Below w.heap.size w w3 := (((Below.refl _ _).alloc (Nat.le_refl _) _).alloc (by simp) _).trans (hb3.mono (by simp; omega))
  have hbW := hbA.grown g0 hbA.size (fun k e => by cases e; exact Nat.le_refl _)
  clear g0 hbA hr0 hr1 hb3 c00 c01 c02 c03 c04 c05 c10 c11 c12 c13 c14 c15 f00 f01 f02 f03 f04 f05 f10 f11 f12 f13 f14 f15
  revert hr0W hr1W hbW
  generalize ((((((w3.setCell ⟨w.heap.size, 0, none⟩ (.slice la L lc)).setCell ⟨w.heap.size, 1, none⟩ (.slice wa n wc)).setCell ⟨w.heap.size, 2, none⟩ (.int .i64 rk)).setCell ⟨w.heap.size, 3, none⟩ (.int .i64 rl)).setCell ⟨w.heap.size, 4, none⟩ (.bool rb)).setCell ⟨w.heap.size, 5, none⟩ (.int .i64 rs)) = W
  intro hr0W hr1W hbW
  have hWb : w.heap.size + 1 < W.heap.size := (Array.getElem?_eq_some_iff.1 hr1W).1
  obtain ⟨u, w4, hrun, hO, hb4⟩ := copy_lasts W 29 W.heap.size (Nat.le_refl _) la lc g.lasts HH.out.lnone HH.out.lle HH.out.fewl ((HH.out.lasts.below hbW).mono hbW.size)
  rw [hL] at hrun
  obtain ⟨ua, uc, rfl⟩ : ∃ ua uc, u = .slice ua L uc := by
    rcases hO.2 with ⟨rfl, e⟩ | ⟨gl, cap, cur, rfl, _⟩
    · exact ⟨none, 0, by rw [← hL, e]⟩
    · exact ⟨_, _, by rw [hL]⟩
  have hF0 : FlI w w4 W.heap.size #[.slice la L lc, .slice wa n wc, .int .i64 rk, .int .i64 rl, .bool rb, .int .i64 rs] #[.slice none 0 0, .slice none 0 0, .int .i64 0, .int .i64 0, .bool false, .int .i64 0] (.slice ua L uc) g.lasts :=
    ⟨hO, (hb4.block _ (by omega)).trans hr0W, (hb4.block _ hWb).trans hr1W, hbW.trans (hb4.mono hbW.size), hWb⟩
  refine wpList_append_val rfl rfl rfl rfl hrun ?_
  clear hrun hO hb4 hr0W hr1W hbW hWb
  revert hF0
  generalize W.heap.size = Wn
  intro hF0
  go_wp2
  go_loopw [6] (fun i wr => ∃ k : Nat, i = .int .i64 k ∧ k ≤ n ∧ FlI w wr Wn #[.slice la L lc, .slice wa n wc, .int .i64 rk, .int .i64 rl, .bool rb, .int .i64 rs] #[.slice none 0 0, .slice none 0 0, .int .i64 0, .int .i64 0, .bool false, .int .i64 0] (.slice ua L uc) (flushed g.lasts (g.waits.take k))) (fun i _ => n - (intOf i).toNat)
  case atStart => exact ⟨0, rfl, Nat.zero_le _, hF0⟩
  case round =>
    clear hF0
    obtain ⟨k, rfl, hk, hF1⟩ := hrel
    have HFI := Lib.hid hF1
    have hr0 := hF1.one
    have hr1 := hF1.two
    by_cases hkn : k < n
    · have hkI : (k : Int) < (n : Int) := by omega
      obtain ⟨x, hx⟩ : ∃ x, g.waits[k]? = some x := ⟨_, List.getElem?_eq_getElem (by omega)⟩
      obtain ⟨w0, w1⟩ := wtsCells_get hx
      obtain ⟨b, off, rfl, hblt, -, hcw⟩ := HH.out.waits.below hF1.bel (by intro e; rw [e] at w0; simp at w0)
      have cw0 := hcw _ _ w0
      have cw1 := hcw _ _ w1
      rw [← Nat.add_assoc] at cw1
      obtain ⟨hx0, hxL⟩ := HF.out.2 x (List.mem_of_getElem? hx)
      obtain ⟨P, hP⟩ : ∃ P : Nat, x.1 = (P : Int) := ⟨x.1.toNat, by omega⟩
      have hPL : P < L := by omega
      have hPI : (P : Int) < (L : Int) := by omega
      have hls : (flushed g.lasts (g.waits.take k)).length = L := by rw [flushed_len, hL]
      have hstep : flushed g.lasts (g.waits.take (k + 1)) = (flushed g.lasts (g.waits.take k)).set P x.2 := by
        rw [List.take_add_one, hx, Option.toList_some, flushed_snoc, hP, Int.toNat_natCast]
      rw [hP] at cw0
      obtain ⟨gl, hua⟩ : ∃ gl, ua = some ⟨gl, 0, none⟩ := by
        rcases hF1.row.2 with ⟨e, e0⟩ | ⟨gl, cap, cur, e, -⟩
        · rw [hls] at e0; omega
        · exact ⟨gl, by injection e⟩
      subst hua
      have hcell := World.ownsRow.cells hF1.row (g := gl) rfl P _ (by rw [List.getElem?_map, List.getElem?_eq_getElem (by omega)]; rfl)
      rw [addr_add, Nat.zero_add] at hcell
      have hfz : wr.frozen? ⟨gl, P, none⟩ = false := by
        rcases hF1.row.2 with ⟨e, -⟩ | ⟨gl', cap, cur, e, -, hc, -⟩
        · cases e
        · injection e with e1; injection e1 with e1; injection e1 with e1; subst e1
          exact frozen_of_row wr _ P _ _ hc
      generalize (flushed g.lasts (g.waits.take k))[P] = old at hcell
      have HSTEP := Lib.hid hstep
      have HX := Lib.hid (And.intro hP (And.intro hPL hls))
      have cw0d : wr.drew.cell? ⟨b, off + k * 2, none⟩ = some (.int .i64 P) := cw0
      have cw1d : wr.drew.cell? ⟨b, off + k * 2 + 1, none⟩ = some (.string x.2) := cw1
      have hcelld : wr.drew.cell? ⟨gl, P, none⟩ = some (.string old) := hcell
      have hfzd : wr.drew.frozen? ⟨gl, P, none⟩ = false := hfz
      have c01 := cell_of_row wr w.heap.size 1 _ _ _ hr0
      simp only [List.getElem?_toArray, List.getElem?_cons_zero, List.getElem?_cons_succ] at c01
      have c01d : wr.drew.cell? ⟨w.heap.size, 1, none⟩ = some (.slice (some ⟨b, off, none⟩) n wc) := c01
      clear hF1 hstep hls hcw w0 w1 hx hx0 hxL hr0 hr1 cw0 cw1 hcell hfz hblt
      go_wp2_with fail
      go_still_tail 14, (by kernel_rfl)
      change wpList _ _ _ _ _ wr.drew
      go_wp2
      have e1 : wrap64 ((k : Int) + 1) = ((k + 1 : Nat) : Int) := by have := HF.out.1; unfold wrap64; omega
      rw [e1]
      obtain ⟨hO, hr0, hr1, hbw, hfar⟩ := HFI.out
      have hsg := one_grown wr ⟨gl, P, none⟩ (.string x.2)
      have hgl := (World.ownsRow.lt hO gl rfl).1
      refine ⟨⟨k + 1, rfl, hkn, ⟨?_, ?_, ?_, ?_, hfar⟩⟩, by simp only [intOf]; omega⟩
      · rw [HSTEP.out]
        exact World.ownsRow.drew (OwnS.set hO P x.2)
      · exact (hsg.block w.heap.size (Array.getElem?_eq_some_iff.1 hr0).1 (by simp; omega)).trans hr0
      · exact (hsg.block (w.heap.size + 1) (Array.getElem?_eq_some_iff.1 hr1).1 (by simp; omega)).trans hr1
      · exact (hbw.grown hsg hbw.size (fun k e => by cases e; show w.heap.size ≤ gl; omega)).drew
    · obtain rfl : k = n := by omega
      have hkI : ¬ ((k : Int) < (k : Int)) := by omega
      clear hF1
      have c00 := cell_of_row wr w.heap.size 0 _ _ _ hr0; have f00 := frozen_of_row wr w.heap.size 0 _ _ hr0
      have c01 := cell_of_row wr w.heap.size 1 _ _ _ hr0; have f01 := frozen_of_row wr w.heap.size 1 _ _ hr0
      have c02 := cell_of_row wr w.heap.size 2 _ _ _ hr0; have f02 := frozen_of_row wr w.heap.size 2 _ _ hr0
      have c03 := cell_of_row wr w.heap.size 3 _ _ _ hr0; have f03 := frozen_of_row wr w.heap.size 3 _ _ hr0
      have c04 := cell_of_row wr w.heap.size 4 _ _ _ hr0; have f04 := frozen_of_row wr w.heap.size 4 _ _ hr0
      have c05 := cell_of_row wr w.heap.size 5 _ _ _ hr0; have f05 := frozen_of_row wr w.heap.size 5 _ _ hr0
      have c10 := cell_of_row wr (w.heap.size + 1) 0 _ _ _ hr1; have f10 := frozen_of_row wr (w.heap.size + 1) 0 _ _ hr1
      have c11 := cell_of_row wr (w.heap.size + 1) 1 _ _ _ hr1; have f11 := frozen_of_row wr (w.heap.size + 1) 1 _ _ hr1
      have c12 := cell_of_row wr (w.heap.size + 1) 2 _ _ _ hr1; have f12 := frozen_of_row wr (w.heap.size + 1) 2 _ _ hr1
      have c13 := cell_of_row wr (w.heap.size + 1) 3 _ _ _ hr1; have f13 := frozen_of_row wr (w.heap.size + 1) 3 _ _ hr1
      have c14 := cell_of_row wr (w.heap.size + 1) 4 _ _ _ hr1; have f14 := frozen_of_row wr (w.heap.size + 1) 4 _ _ hr1
      have c15 := cell_of_row wr (w.heap.size + 1) 5 _ _ _ hr1; have f15 := frozen_of_row wr (w.heap.size + 1) 5 _ _ hr1
      simp only [List.getElem?_toArray, List.getElem?_cons_zero, List.getElem?_cons_succ] at c00 c01 c02 c03 c04 c05 c10 c11 c12 c13 c14 c15
      clear hr0 hr1
      go_wp2
      obtain ⟨hO, hr0, hr1, hbw, hfar⟩ := HFI.out
      rw [show g.waits.take k = g.waits by rw [List.take_of_length_le (by omega)]] at hO
      have hS := (one_grown wr ⟨w.heap.size, 0, none⟩ (.slice ua L uc)).trans (one_grown _ ⟨w.heap.size, 1, none⟩ (.slice none 0 0))
      have hr1' := (hS.block (w.heap.size + 1) (Array.getElem?_eq_some_iff.1 hr1).1 (by simp)).trans hr1
      refine bodyPost_ret (results_ref rfl _ _ _ _ _ _ rfl (set6_heap _ _ _ _ _ _ hr1') Try.underlying34 (by kernel_rfl)) rfl ?_
      have hfin := set6_grown ((wr.setCell ⟨w.heap.size, 0, none⟩ (.slice ua L uc)).setCell ⟨w.heap.size, 1, none⟩ (.slice none 0 0)) (w.heap.size + 1) (.slice ua L uc) (.slice none 0 0) (.int .i64 rk) (.int .i64 rl) (.bool rb) (.int .i64 rs)
      have hb5 := hbw.grown hS hbw.size (fun k e => by cases e; exact Nat.le_refl _)
      have hbF := hb5.grown hfin hb5.size (fun k e => by cases e; omega)
      have hlenF : (flushed g.lasts g.waits).length = L := by rw [flushed_len, hL]
      have hI := HH.out
      rcases hO.2 with ⟨e, e0⟩ | ⟨gl, cap, cur, e, hgl, hc, hle, hm, hs, ht⟩
      · injection e with e1 e2 e3
        subst e1; subst e3
        have hz : flushed g.lasts g.waits = [] := List.eq_nil_of_length_eq_zero (by omega)
        exact ⟨none, 0, none, 0, by unfold gv rv; simp only [hlenF]; rfl, ⟨fun h => absurd (by simp only [hz]; rfl) h, fun h => absurd rfl h, by simp only [hz]; exact Nat.le_refl _, Nat.le_refl _, fun _ => rfl, fun _ => rfl, by simp only [hz]; exact Nat.zero_le _⟩, hbF⟩
      · injection e with e1 e2 e3
        subst e1; subst e3
        have hOF := hO
        refine ⟨some ⟨gl, 0, none⟩, uc, none, 0, by unfold gv rv; simp only [hlenF]; rfl, ⟨fun _ => ⟨gl, 0, rfl, Nat.lt_of_lt_of_le (Array.getElem?_eq_some_iff.1 hc).1 (Nat.le_trans hS.size hfin.size), ⟨_, _, (hfin.block gl (Nat.lt_of_lt_of_le (Array.getElem?_eq_some_iff.1 hc).1 hS.size) (by simp; omega)).trans ((hS.block gl (Array.getElem?_eq_some_iff.1 hc).1 (by simp; omega)).trans hc)⟩, fun j u hu => ?_⟩, fun h => absurd rfl h, by simp only [hlenF]; omega, Nat.le_refl _, fun _ => rfl, (fun h => by cases h), by simp only [hlenF]; have := hI.fewl; omega⟩, hbF⟩
        have hc0 := World.ownsRow.cells hO (g := gl) rfl j u hu
        rw [addr_add] at hc0
        exact hfin.cell (hS.cell hc0 (fun e => by have := Option.some.inj e; simp at this; omega)) (fun e => by have := Option.some.inj e; simp at this; omega)
end Go.Proofs.Ytkophpipehdkmaa
