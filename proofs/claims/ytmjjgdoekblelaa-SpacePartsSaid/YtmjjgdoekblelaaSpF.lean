/- Layer 7: sieved; Free, New, Held, Will. -/
import Derived.Test.YtmjjgdoekblelaaSpE
namespace Go.Proofs.Ytmjjgdoekblelaa
open Go.RowKit Go.Shelf

attribute [local go_sem] Oper.semAt_some

theorem of1_any (G g : Nat) (ls : List Nat) (cap q : Nat) (w : World) (hl : ls.length ≤ 9223372036854775807) (hG : w.cell? ⟨G, 0, none⟩ = some (.slice (some ⟨g, 0, none⟩) ls.length cap)) (h : PlAt w g ls) :
    Calls Try.prog 39 #[.int .i64 q, .pointer (some ⟨G, 0, none⟩)] w fun e w' => e = .returned (.bool (ls.contains q)) ∧ w = w' := by
  have HC := Lib.hid (contains_any g ls cap q w hl h)
  clear h
  generalize ls.contains q = b at HC ⊢
  go_enter Try.func39, Try.ntmps39
  go_wp2_with (go_at_call 40; refine HC.out.mono ?_; rintro e w' ⟨rfl, rfl⟩)
  go_ret
  exact ⟨rfl, rfl⟩
theorem infoI64 : (Try.prog.info? 2).map (fun i => (i.zero, i.size, i.bytes)) = some (some (.int .i64 0), 1, 8) := by kernel_rfl
def natVals (l : List Nat) : List Value := l.map fun (k : Nat) => Value.int .i64 k
set_option maxRecDepth 100000 in
set_option maxHeartbeats 4000000 in
theorem sieved_wide (n : Nat) (hn : 4 ≤ n) (E S h e G g cap : Nat) (now : Pl) (ls : List Nat) (hh : h ≤ 4096) (he : e ≤ 4096) (w : World) (pg : PgAt (fun k => k < w.heap.size) w E S h e now)
    (kG : G < w.heap.size) (kg : g < w.heap.size) (hl : ls.length ≤ 9223372036854775807) (hG : w.cell? ⟨G, 0, none⟩ = some (.slice (some ⟨g, 0, none⟩) ls.length cap)) (hP : PlAt w g ls) :
    CallsIn Fence.wide n Try.prog 38 #[.func (.func 36) #[] #[.pointer (some ⟨E, 0, none⟩), .pointer (some ⟨S, 0, none⟩)], .func (.func 39) #[] #[.pointer (some ⟨G, 0, none⟩)]] w fun en W' =>
      ∃ v, en = .returned v ∧ W'.ownsRow w.heap.size 2 1 v (ofL ls (pgL h now e)).length (natVals (ofL ls (pgL h now e))) ∧ Below w.heap.size w W' := by
  have h1 : 1 ≤ n := by omega
  obtain ⟨i0, hi, hz0, hz1, hz2⟩ := info_parts infoI64
  have HPG := Lib.hid pg
  have HGG := Lib.hid hG
  have HP := Lib.hid hP
  clear pg hG hP
  refine callsIn_of_wp_marks Try.func38 rfl trivial ?_ rfl
  simp only [Try.ntmps38, List.size_toArray, List.length_cons, List.length_nil, Nat.reduceAdd, Nat.reduceSub, Array.replicate_succ, Array.replicate_zero, List.push_toArray, List.append_toArray, List.nil_append, List.cons_append]
  gi_wp2
  obtain ⟨w1, hw1⟩ : ∃ w1, w.alloc (.cells #[.func (.func 39) #[] #[.pointer (some ⟨G, 0, none⟩)]] 79) = w1 := ⟨_, rfl⟩
  obtain ⟨w2, hw2⟩ : ∃ w2, w1.alloc (.cells #[.slice none 0 0] 23) = w2 := ⟨_, rfl⟩
  rw [hw1, hw2]
  have hs1 : w1.heap.size = w.heap.size + 1 := by rw [← hw1]; simp
  have hs2 : w2.heap.size = w.heap.size + 2 := by rw [← hw2]; simp [hs1]
  have bS : Boxed w2 w.heap.size 79 (.func (.func 39) #[] #[.pointer (some ⟨G, 0, none⟩)]) := by rw [← hw2, ← hw1]; exact (Boxed.new w _ _).alloc _
  have bV : Boxed w2 (w.heap.size + 1) 23 (.slice none 0 0) := by rw [← hw2, ← hs1]; exact Boxed.new w1 _ _
  have hB0 : Below w.heap.size w w2 := by rw [← hw2, ← hw1]; exact ((Below.refl _ w).alloc (Nat.le_refl _) _).alloc (by simp) _
  clear hw1 hw2 hs1
  obtain ⟨N0, hN0⟩ : ∃ N0, w.heap.size = N0 := ⟨_, rfl⟩
  rw [hN0] at HPG kG kg hs2 bS bV hB0 ⊢
  refine wpIn_rangeFunc_ownF rfl h1 (gf := 36) (lb := #[.pointer (some ⟨E, 0, none⟩), .pointer (some ⟨S, 0, none⟩)]) rfl trivial (enters_of Try.func36 (by kernel_rfl) rfl)
    (pages_stops (n - 1) (by omega) E S h e now (fun k => k < N0) hh he w2 (fun k hk => by have : k < N0 := hk; omega) (HPG.out.keeps (KeepsOn.of_below hB0 (fun k hk => hk)))) KeepsOn.trans (keepsOn_pb (fun k hk => by have : k < N0 := hk; omega)) (Below.refl _ _) (fun _ => rfl)
    (fun pre W => ((∃ v, Boxed W (N0 + 1) 23 v ∧ W.ownsRow N0 2 1 v (ofL ls pre).length (natVals (ofL ls pre)) ∧ True) ∧ Boxed W N0 79 (.func (.func 39) #[] #[.pointer (some ⟨G, 0, none⟩)])) ∧ Below N0 w W)
    (fun _ _ _ => False)
    (OwnFrom.and (OwnFrom.and (Own.from (holdsRow_own N0 (N0 + 1) 23 2 1 (fun pre => (ofL ls pre).length) (fun pre => natVals (ofL ls pre)) (fun _ _ => True)) _) (Own.from (fun s A C row hs hg hr => hs.kept hg (fun e' => by obtain ⟨o, ho, hc⟩ := hr _ e'.symm; rw [show A.heap[N0]? = _ from hs] at ho; cases ho; cases hc)) _)) (ownFrom_below (by omega) (by omega)))
    (fun _ _ _ _ _ hs _ _ => hs)
    ⟨⟨⟨_, bV, World.ownsRow_nil _ _ _ _, trivial⟩, bS⟩, hB0⟩
    (fun x => { tmps := #[.func (.func 36) #[] #[.pointer (some ⟨E, 0, none⟩), .pointer (some ⟨S, 0, none⟩)], .func (.func 39) #[] #[.pointer (some ⟨G, 0, none⟩)], undef, .pointer (some ⟨N0, 0, none⟩), .pointer (some ⟨N0 + 1, 0, none⟩), .int .i64 x.1, .int .i64 x.2, .func (.func 36) #[] #[.pointer (some ⟨E, 0, none⟩), .pointer (some ⟨S, 0, none⟩)], .int .i64 x.1, .int .i64 x.2, undef, undef, undef, undef, undef, undef, undef, undef], defers := [] }) ?assign ?body ?done ?stop
  case assign =>
    intro l x W K hK
    gi_wp2
    exact hK
  case body =>
    rintro l pre ⟨x1, x2⟩ W ⟨⟨⟨v, hv, hrow, -⟩, hS⟩, hB⟩ hlt
    have hc := hv.cell
    have hcs := hS.cell
    have hpl := ofL_len ls pre
    have HC := Lib.hid (of1_any G g ls cap x2 W hl ((hB.cell (p := ⟨G, 0, none⟩) kG).trans HGG.out) (HP.out.below hB kg))
    have hdp : Fence.wide.depth.isSome = true → 1 ≤ n - 1 - 1 := fun _ => by omega
    have HX := Lib.hid (And.intro (And.intro hv (And.intro hrow hS)) hB)
    have HH := Lib.hid (@ofL_hit ls pre (x1, x2))
    have HM := Lib.hid (@ofL_miss ls pre (x1, x2))
    simp only at HH HM
    generalize ls.contains x2 = b at HC HH HM
    cases b with
    | false =>
      clear hv hrow hS hB
      gi_wp2_with (refine ⟨trivial, hdp, ?_⟩; refine (CallsIn.inRound l (callsIn_wide.2 HC.out)).mono ?_; rintro en w' ⟨rfl, rfl⟩)
      obtain ⟨⟨hv, hrow, hS⟩, hB⟩ := HX.out
      exact ⟨KeepsOthers.refl _, KeepsOn.refl _ _, ⟨⟨v, hv, by rw [HM.out (by trivial)]; exact hrow, trivial⟩, hS⟩, hB⟩
    | true =>
      obtain ⟨va, vc, rfl⟩ := row_slice hrow
      have hBs := hB.size
      have hbase : N0 ≤ (W.alloc (.cells #[.int .i64 x1] 2)).heap.size := by have := hB.size; simp; omega
      have hrw := hrow.alloc (.cells #[.int .i64 x1] 2)
      have HR := Lib.hid (And.intro hrw hbase)
      clear hv hrow hS hB hrw hbase hBs
      have hml : (ofL ls pre).length + 1 ≤ maxLen := by unfold maxLen; omega
      gi_wp2_with (first
        | (refine ⟨trivial, hdp, ?_⟩; refine (CallsIn.inRound l (callsIn_wide.2 HC.out)).mono ?_; rintro en w' ⟨rfl, rfl⟩)
        | (gi_at_builtin; refine wpListIn_append_own _ rfl _ _ 23 rfl N0 2 i0 (.int .i64 0) 1 8 Try.underlying23 hi hz0 hz1 hz2 rfl (by decide) _ _ _ rfl HR.out.1 ⟨W.heap.size, 0, none⟩ 1 1 [.int .i64 x1] rfl rfl (cell_one_new _ _ _) (by simp [Value.oneCell']) hml (by omega) HR.out.2 ?_; intro v' w1 hown' hgrow _; obtain ⟨g', cap', rfl⟩ := ownsRow_succ hown'; obtain ⟨hv1, hv2, hr2, hk2, hb2⟩ := HX.out.1.1.appended (by decide) HX.out.1.2.1 (hN0 ▸ HX.out.2.size) (by omega) hown' hgrow; have hc1 := hv1.cell; have hf1 := hv1.frozen))
      obtain ⟨⟨hv, hrow, hS⟩, hB⟩ := HX.out
      refine ⟨hk2, KeepsOn.of_below hb2 (fun k hk => hk), ⟨⟨_, hv2, ?_, trivial⟩, Boxed.other ((hS.alloc _).kept hgrow (hS.not_row (by decide) hrow)) (by omega) _⟩, hB.trans hb2⟩
      rw [HH.out (by trivial)]; simpa [natVals] using hr2
  case done =>
    rintro D ys W hD rfl ⟨⟨⟨v, hv, hrow, -⟩, hS⟩, hB⟩ hK
    obtain ⟨va, vc, rfl⟩ := row_slice hrow
    have hc := hv.cell
    have hf := hv.frozen
    have HX := Lib.hid (And.intro hv (And.intro hrow hB))
    clear hv hrow
    gi_wp2
    obtain ⟨hv, hrow, hB'⟩ := HX.out
    have hDk : (W.setCell ⟨N0 + 1, 0, none⟩ (.slice va (ofL ls (pgL h now e)).length vc)).heap[D]? = some (.deferred (some [])) := (Below.heap_setCell W _ _ D (by show D ≠ N0 + 1; omega)).trans hK
    have hv2 := hv.set (.slice va (ofL ls (pgL h now e)).length vc)
    have hr2 : (W.setCell ⟨N0 + 1, 0, none⟩ (.slice va (ofL ls (pgL h now e)).length vc)).ownsRow N0 2 1 (.slice va (ofL ls (pgL h now e)).length vc) (ofL ls (pgL h now e)).length (natVals (ofL ls (pgL h now e))) := hrow.kept (grownBy_setCell' W (N0 + 1) _) (.inr (hv.not_row (by decide) hrow).symm)
    refine ⟨by simp, .inl ⟨_, _, rfl, run_takeDeferred hDk, ?_⟩⟩
    refine ⟨_, results_cell1 rfl _ _ ⟨N0 + 1, 0, none⟩ _ rfl (Try.isAgg23 _) ((Boxed.kept hv2 (grownBy_putObj' _ D _) (fun e' => by have := Option.some.inj e'; omega)).cell), _, rfl, ?_, ?_⟩
    · rw [hN0]; exact ownsRow_putObj hr2 _ hDk rfl
    · rw [hN0]; exact (hB'.setCell (p := ⟨N0 + 1, 0, none⟩) (by show N0 ≤ N0 + 1; omega) _).trans (belowK_b (w := w2) (by omega) _ D _ _ hD hDk rfl rfl)
  case stop =>
    rintro D c pre W _ _ hx _
    exact hx.elim

theorem row_mono {w : World} {b b' : Nat} {e : TypeId} {size n : Nat} {v : Value} {xs : List Value} (h : w.ownsRow b e size v n xs) (hn : b' ≤ b) : w.ownsRow b' e size v n xs := by
  refine ⟨h.1, ?_⟩
  rcases h.2 with e | ⟨g, cp, cur, e, hg, r⟩
  · exact .inl e
  · exact .inr ⟨g, cp, cur, e, Nat.le_trans hn hg, r⟩
/-- What a call that tells pages leaves. -/
def NumsPost (w : World) (l : List Nat) (e : Ending) (w' : World) : Prop := ∃ v, e = .returned v ∧ w'.ownsRow w.heap.size 2 1 v l.length (natVals l) ∧ Below w.heap.size w w'
def Spc.of (s : Spc) (ls : List Nat) : List Nat := ofL ls (pgL s.high s.now s.high)
set_option maxRecDepth 100000 in
theorem of_any {w : World} {B bl bp : Nat} {s : Spc} (hs : SpAt w B bl bp s) (g cap : Nat) (ls : List Nat) (hl : ls.length ≤ 9223372036854775807) (hg : g < w.heap.size) (hP : PlAt w g ls) :
    Calls Try.prog 30 #[ptr B, .slice (some ⟨g, 0, none⟩) ls.length cap] w fun e w' => NumsPost w (s.of ls) e w' := by
  obtain ⟨N0, hN0⟩ : ∃ N0, w.heap.size = N0 := ⟨_, rfl⟩
  obtain ⟨w1, hw1⟩ : ∃ w1, w.alloc (.cells #[.slice (some ⟨g, 0, none⟩) ls.length cap] 76) = w1 := ⟨_, rfl⟩
  obtain ⟨w2, hw2⟩ : ∃ w2, (w1.alloc (.cells #[ptr B] 26)).alloc (.cells #[.int .i64 s.high] 2) = w2 := ⟨_, rfl⟩
  have hs1 : w1.heap.size = N0 + 1 := by rw [← hw1]; simp [hN0]
  have hs2 : w2.heap.size = N0 + 3 := by rw [← hw2]; simp [hs1]
  have hb1 : Below N0 w w1 := by rw [← hw1, ← hN0]; exact (Below.refl _ w).alloc (Nat.le_refl _) _
  have hb2 : Below N0 w w2 := by rw [← hw2]; exact (hb1.alloc (by omega) _).alloc (by simp; omega) _
  have hG : w2.cell? ⟨N0, 0, none⟩ = some (.slice (some ⟨g, 0, none⟩) ls.length cap) := by rw [← hw2, ← hw1, ← hN0]; exact (((Boxed.new w _ _).alloc _).alloc _).cell
  have hS : w2.cell? ⟨N0 + 1, 0, none⟩ = some (ptr B) := by rw [← hw2, ← hs1]; exact ((Boxed.new w1 _ _).alloc _).cell
  have hE : w2.cell? ⟨N0 + 2, 0, none⟩ = some (.int .i64 s.high) := by
    have := (Boxed.new (w1.alloc (.cells #[ptr B] 26)) 2 (.int .i64 s.high)).cell
    rw [hw2, World.size_alloc, hs1] at this; exact this
  have h1 := hs.below (by rw [hN0]; exact hb1)
  have h2 := hs.below (by rw [hN0]; exact hb2)
  have hh := Nat.le_trans hs.ok.hi hs.ok.most_hi
  have hBl := hs.row.lt
  have hpl := hs.now.lt
  have hsv := callsIn_wide.1 (sieved_wide 4 (by decide) (N0 + 2) (N0 + 1) s.high s.high N0 g cap s.now ls hh hh w2
    ⟨by show N0 + 2 < w2.heap.size; omega, hE, fun _ => ⟨by show N0 + 1 < w2.heap.size; omega, B, bp, s.most, s.lhigh, _, hS, hs.pos, h2.row, h2.now, by show B < w2.heap.size; omega, by show bp < w2.heap.size; omega⟩⟩
    (by omega) (by omega) hl hG (hP.below hb2 (by omega)))
  have hhi := high_yes h1.row h1.pos
  have HV := Lib.hid hsv
  have HHI := Lib.hid hhi
  have HW1 := Lib.hid hw1
  have HW2 := Lib.hid hw2
  have HS1 := Lib.hid hs1
  have HS2 := Lib.hid hs2
  have HN := Lib.hid hN0
  have HB2 := Lib.hid hb2
  clear hsv hhi hw1 hw2 hs1 hs2 hN0 hG hS hE hb2 hs h1 h2
  go_enter Try.func30, Try.ntmps30
  go_wp2_with (first
    | (go_at_call 8; rw [HW1.out, HN.out]; refine HHI.out.mono ?_; rintro e w' ⟨rfl, rfl⟩)
    | (go_at_call 26; refine (callsIn_wide.1 (pages_in Fence.wide 4 trivial rfl (some ⟨B, 0, none⟩) s.high w1)).mono ?_; rintro e w' ⟨rfl, rfl⟩)
    | (go_at_call 38; rw [HW2.out, HS1.out]; refine HV.out.mono ?_; rintro e w3 ⟨v, rfl, hv, hb3⟩))
  go_ret
  have e2 := HS2.out
  have e0 := HN.out
  refine ⟨v, rfl, row_mono hv (by omega), ?_⟩
  rw [e0]
  exact HB2.out.trans (hb3.mono (by omega))
end Go.Proofs.Ytmjjgdoekblelaa
