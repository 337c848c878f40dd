/- Layer 7: Take. -/
import Derived.IntWalk
import Derived.StillTailTactics
import Derived.Test.YtmjjgdoekblelaaSpI
namespace Go.Proofs.Ytmjjgdoekblelaa
open Go.RowKit Go.Shelf

attribute [local go_sem] Oper.semAt_some

theorem wpIn_scope {n : Nat} {P : Program} {c : Code} {Q : Exit → Act → World → Prop} {a : Act} {w : World} (h : c.wpIn Fence.wide n P (Exit.noGoto Q) a w) : (Code.scope c).wpIn Fence.wide n P Q a w := wpIn_wide.2 (wp_scope_straight (wpIn_wide.1 h))
/-- May such a page be taken? -/
def fitP (x : Nat × Nat) : Bool := x.2 == 4 || x.2 == 0
def Spc.taken (s : Spc) : Option Nat := ((pgL s.high s.now s.most).find? fitP).map (·.1)
def Spc.take (s : Spc) : Spc × Nat × Nat := match s.taken with
  | none => (s, 0, 170)
  | some k => ({ s with high := max s.high (k + 1), now := plPut s.now k 2 }, k, 0)
theorem pgL_split (h : Nat) (now : Pl) {k e : Nat} (hk : 2 ≤ k) (he : k ≤ e) : ∃ r, pgL h now e = pgL h now k ++ r := by
  induction e with
  | zero => omega
  | succ e ih =>
    by_cases hke : k ≤ e
    · obtain ⟨r, hr⟩ := ih hke
      exact ⟨r ++ [(e, isP h now e)], by rw [pgL_succ h now (by omega), hr, List.append_assoc]⟩
    · obtain rfl : k = e + 1 := by omega
      exact ⟨[], by simp⟩
theorem taken_mem {s : Spc} {k : Nat} (h : s.taken = some k) : 2 ≤ k ∧ k < s.most ∧ (isP s.high s.now k = 4 ∨ isP s.high s.now k = 0) := by
  unfold Spc.taken at h
  cases hf : (pgL s.high s.now s.most).find? fitP with
  | none => rw [hf] at h; cases h
  | some x =>
    rw [hf] at h
    cases h
    obtain ⟨h1, h2, h3⟩ := mem_pgL.1 (List.mem_of_find?_eq_some hf)
    have h4 := List.find?_some hf
    unfold fitP at h4
    simp only [Bool.or_eq_true, beq_iff_eq] at h4
    rw [h3] at h4
    exact ⟨h1, h2, h4⟩
theorem Spc.Ok.take {s : Spc} (h : s.Ok) : s.take.1.Ok := by
  unfold Spc.take
  cases ht : s.taken with
  | none => exact h
  | some k =>
    obtain ⟨h1, h2, -⟩ := taken_mem ht
    have hlh := h.lh
    have hhi := h.hi
    refine ⟨h.most_hi, h.lo, by show s.lhigh ≤ max s.high (k + 1); omega, by show max s.high (k + 1) ≤ s.most; omega, fun j p hj => ?_, h.last_⟩
    simp only [plPut] at hj
    show 2 ≤ j ∧ j < max s.high (k + 1) ∧ _
    split at hj
    · cases hj; subst_vars; exact ⟨h1, by omega, .inl rfl⟩
    · obtain ⟨a, b, c⟩ := h.now_ j p hj
      exact ⟨a, by omega, c⟩
theorem ownFrom_boxed {β : Type} (N : Nat) (B : Nat) (t : TypeId) (v : Value) : OwnFrom N (fun (_ : β) W => Boxed W B t v) :=
  Own.from (fun s A C row hs hg hr => hs.kept hg (fun e' => by obtain ⟨o, ho, hc⟩ := hr _ e'.symm; rw [show A.heap[B]? = _ from hs] at ho; cases ho; cases hc)) _
theorem find_hit {pre : List (Nat × Nat)} {x : Nat × Nat} (h : pre.find? fitP = none) (hx : fitP x = true) : (pre ++ [x]).find? fitP = some x := by
  rw [List.find?_append, h]; simp [hx]
theorem find_miss {pre : List (Nat × Nat)} {x : Nat × Nat} (h : pre.find? fitP = none) (hx : fitP x = false) : (pre ++ [x]).find? fitP = none := by
  rw [List.find?_append, h]; simp [hx]
def TakePost (w : World) (B bl bp : Nat) (s : Spc) (e : Ending) (w' : World) : Prop := e = .returned (.tuple #[.int .i64 s.take.2.1, .int .i64 s.take.2.2]) ∧ SpAt w' B bl bp s.take.1 ∧ Beside [B, bp] w w'
set_option maxRecDepth 100000 in
set_option maxHeartbeats 4000000 in
theorem take_any {w : World} {B bl bp : Nat} {s : Spc} (h : SpAt w B bl bp s) :
    Calls Try.prog 10 #[ptr B] w fun e w' => TakePost w B bl bp s e w' := by
  have ht := there_yes h.row h.pos
  obtain ⟨-, -, c2, -, -, -⟩ := h.row.all
  have hlt0 := h.row.lt
  have hpl := h.now.lt
  have hmost := h.ok.most_hi
  have hhm := h.ok.hi
  have H0 := Lib.hid h
  clear h
  refine (callsIn_wide (n := 9)).1 ?_
  refine callsIn_of_wp_marks Try.func10 rfl trivial ?_ rfl
  simp only [Try.ntmps10, List.size_toArray, List.length_cons, List.length_nil, Nat.reduceAdd, Nat.reduceSub, Array.replicate_succ, Array.replicate_zero, List.push_toArray, List.append_toArray, List.nil_append, List.cons_append]
  gi_wp2
  refine wpIn_scope ?_
  gi_wp2_with (first
    | (refine ⟨trivial, ?_⟩; gi_at_call 25; refine (callsIn_wide.2 ht).mono ?_; rintro e w' ⟨rfl, rfl⟩))
  refine wpIn_label ?_
  gi_wp2_with (first
    | (refine ⟨trivial, ?_⟩; gi_at_call 26; refine (pages_in Fence.wide _ trivial rfl (some ⟨B, 0, none⟩) s.most _).mono ?_; rintro e w' ⟨rfl, rfl⟩))
  obtain ⟨L, hL⟩ : ∃ L, w.heap.size = L := ⟨_, rfl⟩
  obtain ⟨w1, hw1⟩ : ∃ w1, w.alloc (.cells #[.int .i64 s.most] 2) = w1 := ⟨_, rfl⟩
  obtain ⟨w2, hw2⟩ : ∃ w2, (w1.alloc (.cells #[ptr B] 26)).alloc (.cells #[.int .i64 s.most] 2) = w2 := ⟨_, rfl⟩
  have hs1 : w1.heap.size = L + 1 := by rw [← hw1]; simp [hL]
  have hs2 : w2.heap.size = L + 3 := by rw [← hw2]; simp [hs1]
  have hb2 : Below L w w2 := by rw [← hw2, ← hw1, ← hL]; exact (((Below.refl _ w).alloc (Nat.le_refl _) _).alloc (by simp) _).alloc (by simp; omega) _
  have bL : Boxed w2 L 2 (.int .i64 s.most) := by rw [← hw2, ← hw1, ← hL]; exact ((Boxed.new w _ _).alloc _).alloc _
  have hS : w2.cell? ⟨L + 1, 0, none⟩ = some (ptr B) := by rw [← hw2, ← hs1]; exact ((Boxed.new w1 _ _).alloc _).cell
  have hE : w2.cell? ⟨L + 2, 0, none⟩ = some (.int .i64 s.most) := by
    have := (Boxed.new (w1.alloc (.cells #[ptr B] 26)) 2 (.int .i64 s.most)).cell
    rw [hw2, World.size_alloc, hs1] at this; exact this
  have hg := H0.out.below (by rw [hL]; exact hb2)
  rw [hw1]
  rw [show (w1.alloc (Obj.cells #[.pointer (some ⟨B, 0, none⟩)] 26)).alloc (.cells #[.int .i64 s.most] 2) = w2 from hw2, hL]
  clear hw1 hw2 hs1
  rw [hL] at hlt0 hpl
  refine wpIn_rangeFunc_ownF rfl (by decide) (gf := 36) (lb := #[.pointer (some ⟨L + 1 + 1, 0, none⟩), .pointer (some ⟨L + 1, 0, none⟩)]) rfl trivial (enters_of Try.func36 (by kernel_rfl) rfl)
    (pages_stops (9 - 1) (by omega) (L + 2) (L + 1) s.high s.most s.now (fun k => k = L + 1 ∨ k = L + 2 ∨ k = B ∨ k = bp) (by omega) hmost w2 (fun k hk => by rcases hk with rfl | rfl | rfl | rfl <;> omega)
      ⟨.inr (.inl rfl), hE, fun _ => ⟨.inl rfl, B, bp, s.most, s.lhigh, _, hS, H0.out.pos, hg.row, hg.now, .inr (.inr (.inl rfl)), .inr (.inr (.inr rfl))⟩⟩)
    KeepsOn.trans (keepsOn_pb (fun k hk => by rcases hk with rfl | rfl | rfl | rfl <;> omega)) (Below.refl _ _) (fun _ => rfl)
    (fun pre W => (Boxed W L 2 (.int .i64 s.most) ∧ Below L w W) ∧ pre.find? fitP = none)
    (fun c pre W => c = .exit 0 ∧ ∃ x, pre.find? fitP = some x ∧ Boxed W L 2 (.int .i64 x.1) ∧ Below L w W)
    (OwnFrom.and (OwnFrom.and (ownFrom_boxed _ L 2 _) (ownFrom_below (by omega) (by omega))) (ownFrom_pure _ _))
    (fun c s A C row hs hg hr => by
      obtain ⟨e, x, h1, h2, h3⟩ := hs
      exact ⟨e, x, h1, ownFrom_boxed _ L 2 _ () A C row h2 hg hr, ownFrom_below (β := Unit) (n₀ := L) (B := w2.heap.size) (by omega) (by omega) () A C row h3 hg hr⟩)
    ⟨⟨bL, hb2⟩, rfl⟩
    (fun x => { tmps := #[ptr B, undef, .int .i64 0, .int .i64 0, .pointer (some ⟨L, 0, none⟩), .int .i64 x.1, .int .i64 x.2, ptr B, .bool true, .bool false, ptr B, .pointer (some ⟨B, 0, none⟩), .pointer (some ⟨B, 2, none⟩), .int .i64 s.most, ptr B, ptr B, .pointer (some ⟨B, 0, none⟩), .pointer (some ⟨B, 2, none⟩), .int .i64 s.most, .func (.func 36) #[] #[.pointer (some ⟨L + 1 + 1, 0, none⟩), .pointer (some ⟨L + 1, 0, none⟩)], .int .i64 x.1, .int .i64 x.2,
      undef, undef, undef, undef, undef, undef, undef, undef, undef, undef, undef, undef, undef, undef, undef, undef, undef, undef, undef, undef, undef, undef, undef, undef, undef, undef, undef], defers := [] }) ?assign ?body ?done ?stop
  case assign =>
    intro l x W K hK
    gi_wp2
    exact hK
  case body =>
    rintro l pre ⟨x1, x2⟩ W ⟨⟨hb, hB⟩, hno⟩ hlt
    have hc := hb.cell
    have hf := hb.frozen
    have HB := Lib.hid hb
    have HH := Lib.hid (@find_hit pre (x1, x2))
    have HM := Lib.hid (@find_miss pre (x1, x2))
    have hk : KeepsOn (fun k => k = L + 1 ∨ k = L + 2 ∨ k = B ∨ k = bp) W (W.setCell ⟨L, 0, none⟩ (.int .i64 x1)) := fun k hk => Below.heap_setCell W _ _ k (by intro e1; have e2 : k = L := e1; rcases hk with e | e | e | e <;> (have e' : k = _ := e; omega))
    have HN := Lib.hid hno
    have HK := Lib.hid hk
    clear hb hno hk
    by_cases h4 : x2 = 4
    · subst h4
      gi_wp2
      exact ⟨KeepsOthers.setCell _ _ _, rfl, (x1, 4), HH.out HN.out rfl, HB.out.set _, hB.setCell (by show L ≤ L; omega) _⟩
    · by_cases h0 : x2 = 0
      · subst h0
        gi_wp2
        exact ⟨KeepsOthers.setCell _ _ _, rfl, (x1, 0), HH.out HN.out rfl, HB.out.set _, hB.setCell (by show L ≤ L; omega) _⟩
      · have q4 : ((x2 : Int) == 4) = false := by simp; omega
        have q0 : ((x2 : Int) == 0) = false := by simp; omega
        have hx : fitP (x1, x2) = false := by unfold fitP; simp [h4, h0]
        have HX := Lib.hid hx
        clear hx h4 h0
        gi_wp2
        exact ⟨KeepsOthers.refl _, KeepsOn.refl _ _, ⟨HB.out, hB⟩, HM.out HN.out HX.out⟩
  case done =>
    rintro D ys W hD rfl ⟨⟨hb, hB⟩, hno⟩ hK
    have htk : s.taken = none := by unfold Spc.taken; rw [hno]; rfl
    have hW := H0.out.below (by rw [hL]; exact hB)
    obtain ⟨-, -, d2, d3, d4, -⟩ := hW.row.all
    have hc := hb.cell
    have HB := Lib.hid hb
    clear hno hb
    gi_wp2
    refine wpIn_wide.2 ?_
    go_quiet (fail)
    gi_wp2
    have hDq := hK
    generalize hq5 : World.drewN W _ = W5
    have hD5 : W5.heap[D]? = some (.deferred (some [])) := by rw [← hq5]; exact hK
    have hB5 : Below L w W5 := by rw [← hq5]; exact hB.trans ⟨rfl, rfl, rfl, Nat.le_refl _, fun _ _ => rfl⟩
    have he : s.take = (s, 0, 170) := by unfold Spc.take; rw [htk]
    have hBD : Below L w (W5.putObj D (.deferred none)) := hB5.trans (belowK_b (w := w2) (by omega) W5 D _ _ hD hD5 rfl rfl)
    refine ⟨by simp, .inl ⟨_, _, rfl, run_takeDeferred hD5, ?_⟩⟩
    refine ⟨_, results_tmp2 rfl _ _ _, ?_⟩
    unfold TakePost
    rw [he]
    exact ⟨rfl, H0.out.below (by rw [hL]; exact hBD), Beside.of_below (by rw [hL]; exact hBD) _⟩
  case stop =>
    rintro D c pre W hD ⟨k, hk2, hke, rfl⟩ ⟨rfl, x, hx, hb, hB⟩ hK
    have hW := H0.out.below (by rw [hL]; exact hB)
    obtain ⟨-, -, d2, d3, d4, -, -, f3, f4⟩ := hW.row.all
    have hc := hb.cell
    have hx1 : s.taken = some x.1 := by
      obtain ⟨r, hr⟩ := pgL_split s.high s.now (k := k + 1) (e := s.most) (by omega) (by omega)
      unfold Spc.taken; rw [hr, List.find?_append, hx]; rfl
    have hxm := taken_mem hx1
    obtain ⟨x1, x2⟩ := x
    simp only at hb hc hx1 hxm
    have hne : ((x1 : Int) == s.most) = false := by simp; omega
    have HB := Lib.hid hb
    have HX := Lib.hid hx
    have HX1 := Lib.hid hx1
    have HXM := Lib.hid hxm
    have hx1lt : x1 < s.most := hxm.2.1
    clear hx hb hx1 hxm
    gi_wp2
    refine wpIn_wide.2 ?_
    go_quiet (fail)
    gi_wp2
    generalize hq5 : World.drewN W _ = W5
    have hb5 : Below L w W5 := by rw [← hq5]; exact hB.trans ⟨rfl, rfl, rfl, Nat.le_refl _, fun _ _ => rfl⟩
    have hL5 : Boxed W5 L 2 (.int .i64 x1) := by rw [← hq5]; exact HB.out
    have hD5 : W5.heap[D]? = some (.deferred (some [])) := by rw [← hq5]; exact hK
    have hW5 := H0.out.below (by rw [hL]; exact hb5)
    obtain ⟨-, -, m2, m3, m4, -, -, n3, n4⟩ := hW5.row.all
    have hc5 := hL5.cell
    clear hq5 d2 d3 d4 f3 f4 hc hK hB HB
    have eadd : IntKind.i64.wrap ((x1 : Int) + 1) = ((x1 + 1 : Nat) : Int) := by rw [IntWalk.i64_in _ (by omega)]; rfl
    refine wpIn_wide.2 ?_
    have emax : (if (s.high : Int) < (x1 : Int) + 1 then (x1 : Int) + 1 else (s.high : Int)) = ((max s.high (x1 + 1) : Nat) : Int) := by split <;> omega
    have HEM := Lib.hid emax
    clear emax
    go_still_tail 10, (by kernel_rfl)
    change wpList _ _ _ _ _ W5.drew
    rw [HEM.out]
    generalize hmx : max s.high (x1 + 1) = mx
    have HMX := Lib.hid hmx
    clear hmx
    have hb6 : Below L w W5.drew := hb5.drew
    have hL6 : Boxed W5.drew L 2 (.int .i64 x1) := hL5
    have hD6 : W5.drew.heap[D]? = some (.deferred (some [])) := hD5
    have hW6 := hW5.drew
    generalize World.drew W5 = W6 at hb6 hL6 hD6 hW6 ⊢
    clear m2 m3 m4 n3 n4 hc5 hb5 hL5 hD5 hW5 eadd
    obtain ⟨-, -, m2, m3, m4, -, -, n3, n4⟩ := hW6.row.all
    go_wp2_with fail
    have h7r : SpRow (W6.setCell ⟨B, 3, none⟩ (.int .i64 mx)) B s.lhigh (.map (some bl)) s.most mx bp := hW6.row.set3 mx
    have h7l := hW6.last.setCell ⟨B, 3, none⟩ (.int .i64 mx) (hW6.row.ne_map hW6.last)
    have h7n := hW6.now.setCell ⟨B, 3, none⟩ (.int .i64 mx) (hW6.row.ne_map hW6.now)
    have h7L : Boxed (W6.setCell ⟨B, 3, none⟩ (.int .i64 mx)) L 2 (.int .i64 x1) := (Below.heap_setCell W6 _ _ L (by show L ≠ B; omega)).trans hL6
    have h7D : (W6.setCell ⟨B, 3, none⟩ (.int .i64 mx)).heap[D]? = some (.deferred (some [])) := (Below.heap_setCell W6 _ _ D (by show D ≠ B; omega)).trans hD6
    have h7b : Beside [B, bp] w (W6.setCell ⟨B, 3, none⟩ (.int .i64 mx)) := (Beside.of_below (by rw [hL]; exact hb6) [B, bp]).setCell (by simp) _
    generalize World.setCell W6 ⟨B, 3, none⟩ (.int .i64 mx) = W7 at h7r h7l h7n h7L h7D h7b ⊢
    clear m2 m3 m4 n3 n4 hb6 hL6 hD6 hW6
    obtain ⟨-, -, m2, m3, m4, -, -, n3, n4⟩ := h7r.all
    have hc7 := h7L.cell
    have H7l := Lib.hid h7l
    have H7n := Lib.hid h7n
    clear h7l h7n
    gi_wp2
    refine wpIn_wide.2 ?_
    go_still_tail 5, (by kernel_rfl)
    change wpList _ _ _ _ _ W7.drew
    have hx4 : x1 < 4096 := by omega
    go_wp2_with (refine wpList_update rfl _ _ _ rfl Try.underlying2 Try.underlying55 H7n.out.drew rfl x1 hx4 rfl ?_; intro w8 hM8 hG8)
    have hcb : w8.cell? ⟨L, 0, none⟩ = some (.int .i64 x1) := (Boxed.kept (show Boxed W7.drew L 2 (.int .i64 x1) from h7L) hG8 (fun e => by have := Option.some.inj e; omega)).cell
    have h8D : w8.heap[D]? = some (.deferred (some [])) := (hG8.block D (Array.getElem?_eq_some_iff.1 h7D).1 (fun e => by have := Option.some.inj e; omega)).trans h7D
    have h8b : Beside [B, bp] w w8 := h7b.drew.grown hG8 (fun j e => by cases e; exact .inl (by simp))
    have h8r : SpRow w8 B s.lhigh (.map (some bl)) s.most mx bp := (hG8.block B h7r.lt (fun e => h7r.ne_map H7n.out (Option.some.inj e))).trans h7r
    have h8l := H7l.out.drew.kept hG8 (fun e => H0.out.ne (Option.some.inj e))
    have h8n : IntMap Try.prog 2 w8 bp (plV (plPut s.now x1 2)) := by rw [show (Act.eval _ _ : Value) = .int .i64 ((2 : Nat) : Int) from rfl, plV_put] at hM8; exact hM8
    clear hM8 hG8
    gi_wp2
    have he : s.take = ({ s with high := max s.high (x1 + 1), now := plPut s.now x1 2 }, x1, 0) := by unfold Spc.take; rw [HX1.out]
    have hok := H0.out.ok.take
    rw [he, HMX.out] at hok
    have hDk := belowK_b (w := w2) (n₀ := L) (by omega) w8 D _ (.deferred none) hD h8D rfl rfl
    refine ⟨by simp, .inl ⟨_, _, rfl, run_takeDeferred h8D, ?_⟩⟩
    refine ⟨_, results_tmp2 rfl _ _ _, ?_⟩
    unfold TakePost
    rw [he, HMX.out]
    have hbl := H0.out.last.lt
    exact ⟨rfl, ⟨hok, (hDk.block B hlt0).trans h8r, h8l.at_block (hDk.block bl (by omega)), h8n.at_block (hDk.block bp hpl), H0.out.ne⟩, ⟨hDk.os.trans h8b.os, hDk.tape.trans h8b.tape, hDk.output.trans h8b.output, Nat.le_trans h8b.size hDk.size, fun k hk hn => (hDk.block k (by omega)).trans (h8b.block k hk hn)⟩⟩
end Go.Proofs.Ytmjjgdoekblelaa
