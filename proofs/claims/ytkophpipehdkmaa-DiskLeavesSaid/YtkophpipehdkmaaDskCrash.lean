/- Layer 2: Crash. -/
import Derived.Scope
import Derived.Test.YtkophpipehdkmaaDskCrashA
namespace Go.Proofs.Ytkophpipehdkmaa
open Go.RowKit
attribute [local go_sem] Oper.semAt_some

theorem torn_any (B : Nat) (w : World) : Calls Try.prog 29 #[ptr B] w fun e w' => e = .returned (.func (.func 45) #[] #[ptr w.heap.size]) ∧ w' = w.alloc (box 25 (ptr B)) := by
  go_enter Try.func29, Try.ntmps29
  go_wp2
  go_ret
  exact ⟨rfl, rfl⟩
theorem sectors_any (w : World) : Calls Try.prog 30 #[] w fun e w' => e = .returned (.func (.func 48) #[] #[]) ∧ w = w' := by
  go_enter Try.func30, Try.ntmps30
  go_wp2
  go_ret
  exact ⟨rfl, rfl⟩

theorem wpIn_scope {n : Nat} {P : Program} {c : Code} {Q : Exit → Act → World → Prop} {a : Act} {w : World} (h : c.wpIn Fence.wide n P (Exit.noGoto Q) a w) : (Code.scope c).wpIn Fence.wide n P Q a w := wpIn_wide.2 (wp_scope_straight (wpIn_wide.1 h))
/-- Between two sectors: the new map's variable, and what it reads as. -/
structure CrashAt (w W0 : World) (f : Nat → Option Page) (W : World) : Prop where
  box6 : W.heap[w.heap.size + 2]? = some (box 59 (.map (some (w.heap.size + 1))))
  map : IntMap Try.prog 3 W (w.heap.size + 1) (pagesV f)
  below : Below w.heap.size w W
  size : W0.heap.size ≤ W.heap.size
theorem CrashAt.low {w W0 X Y : World} {f : Nat → Option Page} {N : Nat} (h : CrashAt w W0 f X) (hb : Below N X Y) (hN : w.heap.size + 3 ≤ N) : CrashAt w W0 f Y :=
  ⟨(hb.block _ (by omega)).trans h.box6, h.map.below hb (by omega), h.below.trans (hb.mono (by omega)), Nat.le_trans h.size hb.size⟩
def PickB (w W : World) (l : List Int) : Prop := ∃ sv, W.heap[w.heap.size]? = some (box 23 sv) ∧ PickV W w.heap.size sv l
theorem PickB.low {w X Y : World} {l : List Int} {N : Nat} (h : PickB w X l) (hb : Below N X Y) (hN : w.heap.size + 3 ≤ N) : PickB w Y l := by
  obtain ⟨sv, h1, h2⟩ := h
  exact ⟨sv, (hb.block _ (by omega)).trans h1, h2.below hb (by omega)⟩
def CrashI (w W0 : World) (d : Dsk) (picks : List Int) (fl : Nat → Option Page) (k : Nat) (W : World) : Prop := CrashAt w W0 (midC d picks fl k) W ∧ PickB w W (picks.drop (4 * k))
def CrashF (w W0 : World) (d : Dsk) (picks : List Int) (W : World) : Prop := ∃ f, CrashAt w W0 f W ∧ (∀ p, p < d.room → (f p).getD noughts = crashPage d.lasts d.waits picks p) ∧ ∀ p, d.room ≤ p → f p = none
theorem ownFrom_low {β : Type} {N : Nat} {I : β → World → Prop} (hN : ∀ s X, I s X → N ≤ X.heap.size) (hI : ∀ s X Y, I s X → Below N X Y → I s Y) : OwnFrom N I := fun s X Y _ hs hg hr =>
  hI s X Y hs ⟨hg.os, hg.tape, hg.output, hg.size, fun k hk => hg.block k (Nat.lt_of_lt_of_le hk (hN s X hs)) (fun e => by have := (hr _ e.symm).1; omega)⟩
theorem cells_on {N : Nat} {X Y : World} {row : Option Nat} (hg : X.grownBy Y row) (hr : ∀ r, row = some r → N ≤ r ∧ ∃ o : Obj, X.heap[r]? = some o ∧ o.isCells = false) {b : Nat} {cs : Array Value} {t : TypeId} {fr : Nat × Nat} (hb : X.heap[b]? = some (.cells cs t fr)) : Y.heap[b]? = some (.cells cs t fr) :=
  (hg.block b (lt_of_heap hb) (fun e => by obtain ⟨-, o, ho, hc⟩ := hr b e.symm; rw [hb] at ho; cases ho; cases hc)).trans hb
/-- What a round is handed: the page, and all that it may be, in two variables of its own. -/
structure TornVars (N : Nat) (d : Dsk) (k p gv cap B7 B8 : Nat) (W : World) : Prop where
  at_ : (tornPages d.waits d.room)[k]? = some p
  lo : N ≤ gv ∧ N ≤ B7 ∧ N ≤ B8
  row : W.ownsRow N 66 256 (.slice (some ⟨gv, 0, none⟩) (mayOf d.lasts d.waits p).length cap) (mayOf d.lasts d.waits p).length (rowOf (mayOf d.lasts d.waits p))
  box7 : W.heap[B7]? = some (box 3 (.int .i64 p))
  box8 : W.heap[B8]? = some (box 77 (.slice (some ⟨gv, 0, none⟩) (mayOf d.lasts d.waits p).length cap))
theorem TornVars.grown {N k p gv cap B7 B8 : Nat} {d : Dsk} {X Y : World} {row : Option Nat} (h : TornVars N d k p gv cap B7 B8 X) (hg : X.grownBy Y row) (hr : ∀ r, row = some r → N ≤ r ∧ ∃ o : Obj, X.heap[r]? = some o ∧ o.isCells = false) : TornVars N d k p gv cap B7 B8 Y :=
  ⟨h.at_, h.lo, row_at h.row (fun b hb => by obtain ⟨cs, hc⟩ := row_block h.row b hb; exact (cells_on hg hr hc).trans hc.symm), cells_on hg hr h.box7, cells_on hg hr h.box8⟩
theorem TornVars.low {N M k p gv cap B7 B8 : Nat} {d : Dsk} {X Y : World} (h : TornVars N d k p gv cap B7 B8 X) (hb : Below M X Y) (hM : gv < M ∧ B7 < M ∧ B8 < M) : TornVars N d k p gv cap B7 B8 Y :=
  ⟨h.at_, h.lo, row_at h.row (fun b hb' => by cases hb'; exact hb.block _ hM.1), (hb.block _ hM.2.1).trans h.box7, (hb.block _ hM.2.2).trans h.box8⟩
theorem keepsFrom_low {N M : Nat} {W X Y : World} (h : KeepsFrom N W X) (hb : Below M X Y) (hM : W.heap.size ≤ M) : KeepsFrom N W Y :=
  ⟨Nat.le_trans h.size hb.size, fun k o hk ho hc => (hb.block k (Nat.lt_of_lt_of_le (lt_of_heap ho) hM)).trans (h.same k o hk ho hc)⟩
theorem Kept.low {N M : Nat} {W X Y : World} (h : Kept N W X) (hb : Below M X Y) (hM : W.heap.size ≤ M) : Kept N W Y :=
  ⟨Nat.le_trans h.size hb.size, fun k o hk ho hc => (hb.block k (Nat.lt_of_lt_of_le (lt_of_heap ho) hM)).trans (h.same k o hk ho hc)⟩
theorem Kept.refl (N : Nat) (W : World) : Kept N W W := ⟨Nat.le_refl _, fun _ _ _ h _ => h⟩
theorem Hands.inRound {F : Fence} {n : Nat} {P : Program} {g : Nat} {lb : Array Value} {Kp : World → World → Prop} {M : Nat → Array Value → World → Prop} {N : Nat} {w : World} (l : Nat) (h : Hands F n P g lb Kp M N w) : Hands (F.inRound l) n P g lb Kp M N w := h
/-- Between two sectors of the k-th torn page. -/
structure CrashS (w W0 : World) (d : Dsk) (picks : List Int) (fl : Nat → Option Page) (k p gv cap B7 B8 : Nat) (W : World) (j : Nat) (X : World) : Prop where
  at_ : CrashAt w W0 (midS d picks fl k p j) X
  picks : PickB w X (picks.drop (4 * k + j))
  vars : TornVars W0.heap.size d k p gv cap B7 B8 X
  keeps : KeepsFrom W0.heap.size W X
  kept : Kept W0.heap.size W X
theorem CrashS.low {w W0 : World} {d : Dsk} {picks : List Int} {fl : Nat → Option Page} {k p gv cap B7 B8 : Nat} {W X Y : World} {j : Nat} (h : CrashS w W0 d picks fl k p gv cap B7 B8 W j X) (hb : Below W.heap.size X Y) (h3 : w.heap.size + 3 ≤ W.heap.size) (hv : gv < W.heap.size ∧ B7 < W.heap.size ∧ B8 < W.heap.size) : CrashS w W0 d picks fl k p gv cap B7 B8 W j Y :=
  ⟨h.at_.low hb h3, h.picks.low hb h3, h.vars.low hb hv, keepsFrom_low h.keeps hb (Nat.le_refl _), h.kept.low hb (Nat.le_refl _)⟩
theorem IsDisk.put {n₀ : Nat} {w : World} {B D : Nat} {d : Dsk} {x : Option (List Deferred)} (h : IsDisk n₀ w B d) (hD : w.heap[D]? = some (.deferred x)) (o' : Obj) : IsDisk n₀ (w.putObj D o') B d := by
  obtain ⟨bl, bn, v, fl, h⟩ := h
  have hg := grownBy_putObj' w D o'
  have hc : ∀ b cs t fr, w.heap[b]? = some (Obj.cells cs t fr) → (w.putObj D o').heap[b]? = w.heap[b]? := fun b cs t fr hb => hg.block b (lt_of_heap hb) (fun e => by rw [Option.some.inj e, hD] at hb; cases hb)
  have hm : ∀ b f, IntMap Try.prog 3 w b f → IntMap Try.prog 3 (w.putObj D o') b f := fun b f hb => hb.kept hg (fun e => by
    obtain ⟨E, C, h2⟩ := map_at hb
    rw [Option.some.inj e, hD] at h2; cases h2)
  exact ⟨bl, bn, v, fl, h.ok, (hc _ _ _ _ h.cells).trans h.cells, hm _ _ h.last, hm _ _ h.news, row_at h.row (fun b hb => by obtain ⟨cs, h2⟩ := row_block h.row b hb; exact hc _ _ _ _ h2), h.lo, h.ne, h.fl_lo, h.fl_hi⟩
def C14W (W : World) (n bm : Nat) : World := (W.alloc (.map #[] 0)).alloc (.cells #[.int .i64 0, .int .i64 0, .bool false, .int .i64 n, .int .i64 0, .map (some bm), .map (some W.heap.size), .slice none 0 0] 72)
def C14I (W : World) (n bm : Nat) (listed : Array Bool) (w' : World) : Prop := if listed.getD 5 false = true then w' = C14W W.drew n bm else w' = W.drew
theorem C14I.still {W w' : World} {n bm : Nat} {listed : Array Bool} (h : C14I W n bm listed w') {i : Nat} (hi : i ≠ 5) : C14I W n bm (listed.setIfInBounds i true) w' := by
  unfold C14I at h ⊢
  rw [listed_other (Ne.symm hi)]
  exact h
def C14Sp (B n bm g : Nat) : Nat → Value → Prop
  | 0, u => u = ptr B
  | 1, u => u = ptr B
  | 2, u => u = .pointer (some ⟨B, 3, none⟩)
  | 3, u => u = .int .i64 n
  | 4, u => u = .map (some bm)
  | 5, u => u = ptr g
  | 6, u => u = ptr g
  | _, u => u = .int .i64 0
theorem store77 {w : World} {g : Nat} {c l : Page} (h : PageAt w g c) (hc : c.length = 256) (hl : l.length = 256) : (Instr.storeAt 66 (ptr g) (pageV l)).run Try.prog w = .ok () (w.setRow g (byteVals l).toArray) := by
  have := run_storeVar_row (P := Try.prog) w g 66 66 _ (byteVals l).toArray h (by rw [size77, List.size_toArray, byteVals_len, hl]) (by rw [List.size_toArray, List.size_toArray, byteVals_len, byteVals_len, hc, hl]) (all_oneCell_toArray (byteVals_one l))
  simp [Instr.storeAt, Instr.sureAddr, pageV, this]
theorem index23 (w : World) (b o n cap : Nat) (h : 0 < n) : (Instr.indexAt 23 (.slice (some ⟨b, o, none⟩) n cap) (.int .i64 0)).run Try.prog w = .ok (.pointer (some ⟨b, o, none⟩)) w := by
  have he : Try.prog.elem 23 = 3 := by kernel_rfl
  have hs : (sizeOf 3).run Try.prog w = .ok 1 w := by kernel_rfl
  refine (run_indexAt_slice (P := Try.prog) (w := w) 23 ⟨b, o, none⟩ n cap .i64 0 (by rw [he]; exact Try.underlying23)).trans ?_
  rw [if_pos (by omega), he, hs]
  rfl
theorem alloc77 (w : World) : (Instr.alloc 66 true (.tuple #[])).run Try.prog w = .ok (ptr w.heap.size) (w.alloc (.cells (pageCells noughts) 66)) :=
  run_alloc_z w 66 (pageV noughts) (fun w => (zero_of_info zero77).1 w)
theorem PageAt.other {w : World} {g g' : Nat} {c : Page} {cs : Array Value} (h : PageAt w g c) (hne : g ≠ g') : PageAt (w.setRow g' cs) g c := h.grown (setRow_grown w g' cs) (fun e => hne (Option.some.inj e))
def T11Sp (bm p b o n pc gv m cap : Nat) (x : Int) (c l : Page) : Nat → Value → Prop
  | 0, u => u = .map (some bm)
  | 1, u => u = .int .i64 p
  | 2, u => u = pageV c
  | 3, u => u = .slice (some ⟨b, o, none⟩) n pc
  | 4, u => u = .pointer (some ⟨b, o, none⟩)
  | 5, u => u = .int .i64 x
  | 6, u => u = .slice (some ⟨gv, 0, none⟩) m cap
  | 7, u => u = pageV l
  | _, _ => True
/-- The two variables of a round, and what they hold by then. -/
def T11J (N : Nat) (c l : Page) (listed : Array Bool) (a : Act) (w : World) : Prop :=
  (listed.getD 8 false = true → ∃ g, a.eval (.tmp 11) = ptr g ∧ N ≤ g ∧ PageAt w g (if listed.getD 10 false = true then c else noughts)) ∧
  (listed.getD 9 false = true → ∃ g, a.eval (.tmp 12) = ptr g ∧ N ≤ g ∧ PageAt w g (if listed.getD 11 false = true then l else noughts)) ∧
  (listed.getD 8 false = true → listed.getD 9 false = true → a.eval (.tmp 11) ≠ a.eval (.tmp 12))
theorem T11J.still {N : Nat} {c l : Page} {listed : Array Bool} {a : Act} {w w' : World} {dst : Option Tmp} {v : Value} (h : T11J N c l listed a w) (hb : Below w.heap.size w w') {i : Nat} (hi : i ≠ 8 ∧ i ≠ 9 ∧ i ≠ 10 ∧ i ≠ 11) (hd : dst ≠ some 11 ∧ dst ≠ some 12) : T11J N c l (listed.setIfInBounds i true) (a.put dst v) w' := by
  unfold T11J at h ⊢
  rw [listed_other (Ne.symm hi.1), listed_other (Ne.symm hi.2.1), listed_other (Ne.symm hi.2.2.1), listed_other (Ne.symm hi.2.2.2), eval_put_ne hd.1, eval_put_ne hd.2]
  refine ⟨fun e => ?_, fun e => ?_, h.2.2⟩
  · obtain ⟨g, h1, h2, h3⟩ := h.1 e; exact ⟨g, h1, h2, h3.below hb h3.lt⟩
  · obtain ⟨g, h1, h2, h3⟩ := h.2.1 e; exact ⟨g, h1, h2, h3.below hb h3.lt⟩
theorem RegL.framedF {ops : Array Oper} {I : Array Bool → World → Prop} {Sp : Nat → Value → World → Prop} {a0 a : Act} {listed : Array Bool} {w : World} (h : RegL ops I Sp a0 listed a w) (ds : List Tmp) (hds : dstsB ops ds = true) :
    ∃ F : Tmp → Value, (∀ d, F d = a.tmps.getD d undef) ∧ a = { a0 with tmps := ds.foldl (fun T d => T.setIfInBounds d (F d)) a0.tmps } := ⟨_, fun _ => rfl, h.frameT ds hds⟩
def T12I (Y : World) (g : Nat) (l : Page) (listed : Array Bool) (w' : World) : Prop := if listed.getD 6 false = true then w' = Y.drew.setRow g (byteVals l).toArray else w' = Y.drew
theorem T12I.still {Y w' : World} {g : Nat} {l : Page} {listed : Array Bool} (h : T12I Y g l listed w') {i : Nat} (hi : i ≠ 6) : T12I Y g l (listed.setIfInBounds i true) w' := by
  unfold T12I at h ⊢
  rw [listed_other (Ne.symm hi)]
  exact h
def T12Sp (j g g' : Nat) : Nat → Value → Prop
  | 0, u => u = .int .i64 (64 * (j : Int))
  | 1, u => u = .int .i64 (64 * (j : Int) + 64)
  | 2, u => u = .slice (some ⟨g, 64 * j, none⟩) 64 (256 - 64 * j)
  | 3, u => u = .int .i64 (64 * (j : Int))
  | 4, u => u = .int .i64 (64 * (j : Int) + 64)
  | 5, u => u = .slice (some ⟨g', 64 * j, none⟩) 64 (256 - 64 * j)
  | _, _ => True
structure T13I (w Z : World) (f f' : Nat → Option Value) (sv sv' : Value) (listed : Array Bool) (z : World) : Prop where
  map : IntMap Try.prog 3 z (w.heap.size + 1) (if listed.getD 5 false = true then f' else f)
  box3 : z.heap[w.heap.size]? = some (box 23 (if listed.getD 6 false = true then sv' else sv))
  below : Below w.heap.size Z z
  rest : ∀ k, k < Z.heap.size → k ≠ w.heap.size → k ≠ w.heap.size + 1 → z.heap[k]? = Z.heap[k]?
theorem T13I.still {w Z z : World} {f f' : Nat → Option Value} {sv sv' : Value} {listed : Array Bool} (h : T13I w Z f f' sv sv' listed z) {i : Nat} (hi : i ≠ 5 ∧ i ≠ 6) : T13I w Z f f' sv sv' (listed.setIfInBounds i true) z := by
  refine ⟨?_, ?_, h.below, h.rest⟩
  · rw [listed_other (Ne.symm hi.1)]; exact h.map
  · rw [listed_other (Ne.symm hi.2)]; exact h.box3
def T13Sp (bm p : Nat) (l : Page) (sv sv' : Value) : Nat → Value → Prop
  | 0, u => u = .map (some bm)
  | 1, u => u = .int .i64 p
  | 2, u => u = pageV l
  | 3, u => u = sv
  | 4, u => u = sv'
  | _, _ => True
def CrashPost (w : World) (c : Dsk) (e : Ending) (w' : World) : Prop := ∃ C, e = .returned (.tuple #[ptr C, .int .i64 0]) ∧ IsDisk w.heap.size w' C c ∧ Below w.heap.size w w'
set_option maxRecDepth 100000 in
set_option maxHeartbeats 4000000 in
theorem crash_disk {n₀ B : Nat} {w : World} {d : Dsk} (h : IsDisk n₀ w B d) (picks : List Int) {sv : Value} (hp : PickV w w.heap.size sv picks) (hm : d.waits.length + 1 ≤ 2147483648) :
    Calls Try.prog 11 #[ptr B, sv] w fun e w' => CrashPost w (d.crash picks) e w' := by
  have hBlt := h.lt
  have ht := fun w' hb => there_disk (h.below (w' := w') hb)
  obtain ⟨bl, bn, v, fl, hD⟩ := h
  have hsv := hp
  obtain ⟨pa, pc, rfl, -, -⟩ := hsv
  have c5 : w.cell? ⟨B, 5, none⟩ = some (.map (some bl)) := hD.cell 5
  have c3 : w.cell? ⟨B, 3, none⟩ = some (.int .i64 d.room) := hD.cell 3
  refine (callsIn_wide (n := 9)).1 ?_
  refine callsIn_of_wp_marks Try.func11 rfl trivial ?_ rfl
  simp only [Try.ntmps11, List.size_toArray, List.length_cons, List.length_nil, Nat.reduceAdd, Nat.reduceSub, Array.replicate_succ, Array.replicate_zero, List.push_toArray, List.append_toArray, List.nil_append, List.cons_append]
  have HH := Lib.hid hm
  have HP := Lib.hid hp
  have HD := Lib.hid hD
  clear hm hp hD
  gi_wp2
  refine wpIn_scope ?_
  gi_wp2_with (first
    | (refine ⟨trivial, ?_⟩; gi_at_call 26; refine (callsIn_wide.2 (ht _ ((Below.refl _ w).alloc (Nat.le_refl _) _))).mono ?_; rintro e w' ⟨rfl, rfl⟩)
    | (refine ⟨trivial, ?_⟩; gi_at_call 28; refine (callsIn_wide.2 (clone_any (HD.out.last.alloc _))).mono ?_; rintro e w1 ⟨rfl, hM1, hB1, hs1⟩; simp only [World.size_alloc] at hM1 hB1 hs1)
    | (refine ⟨trivial, ?_⟩; gi_at_call 29; refine (callsIn_wide.2 (torn_any B _)).mono ?_; rintro e w' ⟨rfl, rfl⟩))
  refine wpIn_label ?_
  gi_wp2_with (first
    | (refine ⟨trivial, ?_⟩; gi_at_call 29; refine (callsIn_wide.2 (torn_any B _)).mono ?_; rintro e w' ⟨rfl, rfl⟩))
  have hb1 : w1.heap[w.heap.size]? = some (box 23 (.slice pa picks.length pc)) := (hB1.block _ (by omega)).trans (heap_alloc_last w _)
  have hBw : Below w.heap.size w w1 := ((Below.refl _ w).alloc (Nat.le_refl _) _).trans (hB1.mono (Nat.le_succ _))
  have hs0 : ((w1.alloc (.cells #[.map (some (w.heap.size + 1))] 59)).alloc (box 25 (ptr B))).heap.size = w.heap.size + 4 := by simp [hs1]
  have hB0 : Below w.heap.size w ((w1.alloc (.cells #[.map (some (w.heap.size + 1))] 59)).alloc (box 25 (ptr B))) := (hBw.alloc (by omega) _).alloc (by simp [hs1]; omega) _
  have hk3 : ((w1.alloc (.cells #[.map (some (w.heap.size + 1))] 59)).alloc (box 25 (ptr B))).heap[w.heap.size]? = some (box 23 (.slice pa picks.length pc)) :=
    (Below.heap_alloc _ _ _ (by simp [hs1]; omega)).trans ((Below.heap_alloc _ _ _ (by omega)).trans hb1)
  have hk6 : ((w1.alloc (.cells #[.map (some (w.heap.size + 1))] 59)).alloc (box 25 (ptr B))).heap[w.heap.size + 2]? = some (box 59 (.map (some (w.heap.size + 1)))) :=
    (Below.heap_alloc _ _ _ (by simp [hs1])).trans (by have := heap_alloc_last w1 (.cells #[.map (some (w.heap.size + 1))] 59); rwa [hs1] at this)
  have hkd : ((w1.alloc (.cells #[.map (some (w.heap.size + 1))] 59)).alloc (box 25 (ptr B))).heap[w.heap.size + 3]? = some (box 25 (ptr B)) := by
    have := heap_alloc_last (w1.alloc (.cells #[.map (some (w.heap.size + 1))] 59)) (box 25 (ptr B))
    rwa [World.size_alloc, hs1] at this
  have hm0 := (hM1.alloc (.cells #[.map (some (w.heap.size + 1))] 59)).alloc (box 25 (ptr B))
  obtain ⟨W0, hW0⟩ : ∃ W0, (w1.alloc (.cells #[.map (some (w.heap.size + 1))] 59)).alloc (box 25 (ptr B)) = W0 := ⟨_, rfl⟩
  rw [hW0] at hs0 hB0 hk3 hk6 hkd hm0
  rw [hW0]
  clear hW0 hM1 hB1 hb1 hBw
  have hD0 : IsDisk n₀ W0 B d := ⟨bl, bn, v, fl, HD.out.far hB0 (Nat.le_refl _)⟩
  have hflo := HD.out.fl_lo
  have hfhi := HD.out.fl_hi
  have hok := HD.out.ok
  refine wpIn_range_hands rfl (fun hx => (by cases hx)) (gf := 45) (lb := #[ptr (w.heap.size + 3)]) (by simp [Act.eval]) trivial (enters_of Try.func45 (by kernel_rfl) rfl)
    (torn1_hands hD0 hkd HH.out (9 - 1)) (fun h k => h.trans k) (fun W l o o' _ h h1 h2 => Kept.put W l o o' h h1 h2) (fun k args W hM => by obtain ⟨p, gv, cap, -, rfl, -⟩ := hM; rfl)
    (CrashI w W0 d picks fl) (fun c _ W => c = .exit 0 ∧ CrashF w W0 d picks W)
    (ownFrom_low (fun s X h => h.1.size) (fun s X Y h hb => ⟨h.1.low hb (by omega), h.2.low hb (by omega)⟩))
    (fun c => ownFrom_low (fun s X h => by obtain ⟨-, f, h, -⟩ := h; exact h.size) (fun s X Y h hb => by obtain ⟨e, f, h, h1, h2⟩ := h; exact ⟨e, f, h.low hb (by omega), h1, h2⟩))
    ⟨⟨hk6, by rw [midC_zero]; exact hm0, hB0, Nat.le_refl _⟩, ⟨_, hk3, by rw [Nat.mul_zero, List.drop_zero]; exact HP.out.below hB0 (Nat.le_refl _)⟩⟩
    (fun k a' W => ∃ p gv cap B7 B8, TornVars W0.heap.size d k p gv cap B7 B8 W ∧ a' = { tmps := #[ptr B, .slice pa picks.length pc, undef, .pointer (some ⟨w.heap.size, 0, none⟩), .pointer none, .int .i64 0, .pointer (some ⟨w.heap.size + 1 + 1, 0, none⟩), .pointer (some ⟨B7, 0, none⟩), .pointer (some ⟨B8, 0, none⟩), undef, undef, undef, undef, ptr B, .bool true, .bool false, ptr B, .pointer (some ⟨B, 0, none⟩), .pointer (some ⟨B, 5, none⟩), .map (some bl), .map (some (w.heap.size + 1)), ptr B, .func (.func 45) #[] #[ptr (w.heap.size + 1 + 1 + 1)], .int .i64 p, .slice (some ⟨gv, 0, none⟩) (mayOf d.lasts d.waits p).length cap, undef, undef, undef, undef, undef, undef, undef, undef, undef, undef, undef, undef, undef, undef, undef, undef, undef, undef, undef, undef, undef, undef, undef, undef, undef, undef, undef, undef, undef, undef, undef, undef], defers := [] })
    (fun k a' _ X Y row hs hg hr => by obtain ⟨p, gv, cap, B7, B8, h1, h2⟩ := hs; exact ⟨p, gv, cap, B7, B8, h1.grown hg hr, h2⟩)
    ?assign ?body ?done ?stop
  case assign =>
    rintro l k args W K hI ⟨p, gv, cap, hpk, rfl, hgv, hrow⟩ hK
    gi_wp2
    have hsz := hI.1.size
    have hb : Below W.heap.size W ((W.alloc (.cells #[.int .i64 p] 3)).alloc (.cells #[.slice (some ⟨gv, 0, none⟩) (mayOf d.lasts d.waits p).length cap] 77)) := ((Below.refl _ W).alloc (Nat.le_refl _) _).alloc (by simp) _
    refine hK _ _ (((KeepsOthers.alloc _ _).trans (KeepsOthers.alloc _ _)).from _) (Kept.of_below hb (Nat.le_refl _)) ⟨hI.1.low hb (by omega), hI.2.low hb (by omega)⟩ ⟨p, gv, cap, W.heap.size, W.heap.size + 1, ⟨hpk, ⟨hgv, hsz, by omega⟩, row_at hrow (fun b hb' => hb.block b (hrow.lt b hb').2), ?_, ?_⟩, ?_⟩
    · exact (Below.heap_alloc _ _ _ (by simp)).trans (heap_alloc_last W _)
    · have := heap_alloc_last (W.alloc (.cells #[.int .i64 p] 3)) (.cells #[.slice (some ⟨gv, 0, none⟩) (mayOf d.lasts d.waits p).length cap] 77)
      rwa [World.size_alloc] at this
    · simp
  case body =>
    rintro l k a' W hl ⟨r, hr⟩ hI ⟨p, gv, cap, B7, B8, hT, rfl⟩ hkN
    have hsz := hI.1.size
    have h3 : w.heap.size + 3 ≤ W.heap.size := by omega
    have hv : gv < W.heap.size ∧ B7 < W.heap.size ∧ B8 < W.heap.size := ⟨(hT.row.lt gv rfl).2, lt_of_heap hT.box7, lt_of_heap hT.box8⟩
    gi_wp2_with (refine ⟨trivial, ?_⟩; gi_at_call 30; refine (CallsIn.inRound l (callsIn_wide.2 (sectors_any _))).mono ?_; rintro e w' ⟨rfl, rfl⟩)
    refine wpIn_range_hands_in (l₀ := l) (r₀ := r) rfl hr (fun hx => (by cases hx)) (gf := 48) (lb := #[]) (by simp [Act.eval]) trivial (enters_of Try.func48 (by kernel_rfl) rfl)
      ((sectors_hands _ (fun _ _ => True) W).inRound l) (fun _ _ => trivial) (fun _ _ _ _ _ _ _ _ => trivial) (fun k args W h => by rw [h]; rfl)
      (CrashS w W0 d picks fl k p gv cap B7 B8 W) (fun c _ X => c = .exit 0 ∧ CrashF w W0 d picks X ∧ KeepsFrom W0.heap.size W X)
      (ownFrom_low (fun s X h => h.keeps.size) (fun s X Y h hb => h.low hb h3 hv))
      (fun c => ownFrom_low (fun s X h => h.2.2.size) (fun s X Y h hb => by obtain ⟨e, ⟨f, h, h1, h2⟩, h4⟩ := h; exact ⟨e, ⟨f, h.low hb h3, h1, h2⟩, keepsFrom_low h4 hb (Nat.le_refl _)⟩))
      ⟨by rw [midS_zero hT.at_]; exact hI.1, hI.2, hT, KeepsFrom.refl _ _, Kept.refl _ _⟩
      (fun j a'' _ => a'' = { tmps := #[ptr B, .slice pa picks.length pc, undef, .pointer (some ⟨w.heap.size, 0, none⟩), .pointer none, .int .i64 0, .pointer (some ⟨w.heap.size + 1 + 1, 0, none⟩), .pointer (some ⟨B7, 0, none⟩), .pointer (some ⟨B8, 0, none⟩), .int .i64 (64 * (j : Int)), .int .i64 (64 * (j : Int) + 64), undef, undef, ptr B, .bool true, .bool false, ptr B, .pointer (some ⟨B, 0, none⟩), .pointer (some ⟨B, 5, none⟩), .map (some bl), .map (some (w.heap.size + 1)), ptr B, .func (.func 45) #[] #[ptr (w.heap.size + 1 + 1 + 1)], .int .i64 p, .slice (some ⟨gv, 0, none⟩) (mayOf d.lasts d.waits p).length cap, .func (.func 48) #[] #[], .int .i64 (64 * (j : Int)), .int .i64 (64 * (j : Int) + 64), undef, undef, undef, undef, undef, undef, undef, undef, undef, undef, undef, undef, undef, undef, undef, undef, undef, undef, undef, undef, undef, undef, undef, undef, undef, undef, undef, undef, undef], defers := [] })
      (fun _ _ _ _ _ _ hs _ _ => hs) ?assign2 ?body2 ?done2 ?stop2
    case assign2 =>
      rintro l2 j args X K hi rfl hK
      gi_wp2
      exact hK _ _ (KeepsFrom.refl _ _) trivial hi rfl
    case body2 =>
      rintro l2 j a'' X _ _ hi rfl hj
      have hmt : isTorn d.waits p = true := (tornPages_below hT.at_).2.2
      have hpr : p < d.room := (tornPages_below hT.at_).2.1
      have hp4 : p < 4096 := by have := hok.hi; omega
      obtain ⟨sv, hbx, hpv⟩ := hi.picks
      have hpv0 := hpv
      obtain ⟨pa', pc', rfl, hle, hpc⟩ := hpv0
      have cX : X.cell? ⟨w.heap.size, 0, none⟩ = some (.slice pa' (picks.drop (4 * k + j)).length pc') := box_cell hbx
      dsimp only
      cases hdr : picks.drop (4 * k + j) with
      | nil =>
        rw [hdr] at cX
        gi_wp2
        exact ⟨KeepsFrom.refl _ _, rfl, ⟨_, hi.at_, fun q hq => midS_done hok hT.at_ hflo hj (List.drop_eq_nil_iff.1 hdr) hq, fun q hq => midS_hi hT.at_ hfhi hq⟩, hi.keeps⟩
      | cons x rest =>
        obtain ⟨b, o, rfl, hblt, hcx⟩ := hpc (by rw [hdr]; simp)
        have hcx0 := hcx 0 x (by rw [hdr]; rfl)
        rw [Nat.add_zero] at hcx0
        rw [hdr] at cX hbx hpv
        have hnz : ¬ (((rest.length : Int) + 1) = 0) := by omega
        have hpick : picks.getD (4 * k + j) 0 = x := by
          have := congrArg (fun l => l[0]?) hdr
          simp only [List.getElem?_drop, Nat.add_zero, List.getElem?_cons_zero] at this
          rw [List.getD, this]; rfl
        obtain ⟨m, hmd⟩ : ∃ m, picked (d.lasts.getD p noughts :: wrote d.waits p) picks (4 * k) = m := ⟨_, rfl⟩
        obtain ⟨c, hcd⟩ : ∃ c, mix m (d.lasts.getD p noughts) j = c := ⟨_, rfl⟩
        obtain ⟨q, hqd⟩ : ∃ q, m j = q := ⟨_, rfl⟩
        have hmayeq : mayOf d.lasts d.waits p = d.lasts.getD p noughts :: wrote d.waits p := by unfold mayOf; rw [if_pos hmt]
        have hmay0 : 0 < (mayOf d.lasts d.waits p).length := by rw [hmayeq]; simp
        have hmayl : ∀ y ∈ mayOf d.lasts d.waits p, y.length = 256 := by
          rw [hmayeq]; intro y hy
          rcases List.mem_cons.1 hy with rfl | hy
          · exact hok.len p hpr
          · exact (hok.wait _ (wrote_mem hy)).2
        have hmayn : (mayOf d.lasts d.waits p).length ≤ 4294967296 := Nat.le_trans mayOf_len (Nat.le_trans HH.out (by decide))
        have eq : (mayOf d.lasts d.waits p).getD (pickOf x (mayOf d.lasts d.waits p).length) noughts = q := by
          rw [← hqd, ← hmd, hmayeq]; unfold picked; rw [hpick]
        have hql : q.length = 256 := by
          rw [← eq, List.getD, List.getElem?_eq_getElem (pickOf_lt x hmay0)]; exact hmayl _ (List.getElem_mem _)
        have hcl : c.length = 256 := by rw [← hcd]; exact mix_len _ _ _
        have ec : (pagesV (midS d picks fl k p j) p).getD (pageV noughts) = pageV c := by
          rw [← hcd, ← hmd, ← midS_at (k := k) (j := j) (picks := picks) hok hpr (hflo p hpr)]
          unfold pagesV; cases midS d picks fl k p j p <;> rfl
        have hsX := hi.keeps.size
        have hbX : b < X.heap.size := by omega
        have hgX : gv < X.heap.size := by omega
        have hrow : ∀ j v, (rowOf (mayOf d.lasts d.waits p))[j]? = some v → X.cell? ⟨gv, 0 + j, none⟩ = some v := fun j v hv => by
          have := World.ownsRow.cells hi.vars.row rfl j v hv
          rwa [addr_add] at this
        gi_wp2
        refine region_round_j (l := l2) (fun _ w' => Below X.heap.size X w') (fun i u _ => T11Sp (w.heap.size + 1) p b o (rest.length + 1) pc' gv (mayOf d.lasts d.waits p).length cap x c q i u) (T11J X.heap.size c q) (by kernel_rfl) (fun ⟨_, _, h⟩ => h) (by kernel_rfl) (by kernel_rfl) (by kernel_rfl) (by kernel_rfl) (Below.refl _ X).drew
          ⟨fun e => by simp at e, fun e => by simp at e, fun e => by simp at e⟩ ?step11 ?fin11
        case step11 =>
          intro i op ho listed a w' hI hJ hn hpre
          have hi' : i < 12 := (Array.getElem?_eq_some_iff.1 ho).1
          have hb : Below X.heap.size X w' := hI.inv
          match i, hi' with
          | 0, _ =>
            cases ho
            exact wpOp_load rfl rfl rfl (hI.kept (t := 6) (by kernel_rfl)) (load_cell (Try.isAgg59 _) (box_cell (of_below hi.at_.box6 hb))) ⟨_, rfl, hb, fun _ => rfl, fun _ _ _ h => h, hJ.still (Below.refl _ _) (by omega) (by decide)⟩
          | 1, _ =>
            cases ho
            exact wpOp_load rfl rfl rfl (hI.kept (t := 7) (by kernel_rfl)) (load_cell (Try.isAgg3 _) (box_cell (of_below hi.vars.box7 hb))) ⟨_, rfl, hb, fun _ => rfl, fun _ _ _ h => h, hJ.still (Below.refl _ _) (by omega) (by decide)⟩
          | 2, _ =>
            cases ho
            exact wpOp_look rfl rfl rfl (hI.slot 0 31 rfl (hpre ⟨0, .data⟩ (by simp) rfl) rfl) (hI.slot 1 32 rfl (hpre ⟨1, .data⟩ (by simp) rfl) rfl) ((hi.at_.map.below hb hi.at_.map.lt).look Try.underlying3 Try.underlying59 zero77w p (by omega) false) ⟨_, rfl, hb, fun _ => ec, fun _ _ _ h => h, hJ.still (Below.refl _ _) (by omega) (by decide)⟩
          | 3, _ =>
            cases ho
            exact wpOp_load rfl rfl rfl (hI.kept (t := 3) (by kernel_rfl)) (load_cell (Try.isAgg23 _) (box_cell (of_below hbx hb))) ⟨_, rfl, hb, fun _ => rfl, fun _ _ _ h => h, hJ.still (Below.refl _ _) (by omega) (by decide)⟩
          | 4, _ =>
            cases ho
            exact wpOp_index rfl rfl rfl (hI.slot 3 34 rfl (hpre ⟨3, .data⟩ (by simp) rfl) rfl) rfl (index23 w' b o _ pc' (Nat.succ_pos _)) ⟨_, rfl, hb, fun _ => rfl, fun _ _ _ h => h, hJ.still (Below.refl _ _) (by omega) (by decide)⟩
          | 5, _ =>
            cases ho
            exact wpOp_load rfl rfl rfl (hI.slot 4 35 rfl (hpre ⟨4, .data⟩ (by simp) rfl) rfl) (load_cell (Try.isAgg3 _) ((hb.cell (p := ⟨b, o, none⟩) hbX).trans hcx0)) ⟨_, rfl, hb, fun _ => rfl, fun _ _ _ h => h, hJ.still (Below.refl _ _) (by omega) (by decide)⟩
          | 6, _ =>
            cases ho
            exact wpOp_load rfl rfl rfl (hI.kept (t := 8) (by kernel_rfl)) (load_cell (Try.isAgg77 _) (box_cell (of_below hi.vars.box8 hb))) ⟨_, rfl, hb, fun _ => rfl, fun _ _ _ h => h, hJ.still (Below.refl _ _) (by omega) (by decide)⟩
          | 7, _ =>
            cases ho
            have e36 : a.eval (.tmp 36) = .int .i64 x := hI.slot 5 36 rfl (hpre ⟨5, .data⟩ (by simp) rfl) rfl
            have e37 : a.eval (.tmp 37) = .slice (some ⟨gv, 0, none⟩) (mayOf d.lasts d.waits p).length cap := hI.slot 6 37 rfl (hpre ⟨6, .data⟩ (by simp) rfl) rfl
            refine wpOp_callFn rfl rfl rfl (vs := #[.int .i64 x, .slice (some ⟨gv, 0, none⟩) (mayOf d.lasts d.waits p).length cap]) (by simp only [List.map_toArray, List.map_cons, List.map_nil, e36, e37]) (enters_of Try.func31 (by kernel_rfl) rfl)
              ((among_any (ps := mayOf d.lasts d.waits p) rfl hmay0 hmayn hmayl (fun j v hv => (hb.cell (p := ⟨gv, 0 + j, none⟩) hgX).trans (hrow j v hv))).mono ?_)
            rintro e w2 ⟨rfl, hb2⟩
            exact ⟨_, rfl, _, rfl, hb.trans (hb2.mono hb.size), fun _ => by rw [eq]; rfl, fun _ _ _ h => h, hJ.still hb2 (by omega) (by decide)⟩
          | 8, _ =>
            cases ho
            have h10 := hI.notyet hn 10 (by kernel_rfl)
            have hb2 : Below w'.heap.size w' (w'.alloc (.cells (pageCells noughts) 66)) := (Below.refl _ w').alloc (Nat.le_refl _) _
            refine wpOp_alloc rfl rfl rfl (alloc77 w') ⟨_, rfl, hb.trans (hb2.mono hb.size), fun _ => trivial, fun _ _ _ h => h, ?_⟩
            have hsz11 : 11 < a.tmps.size := by rw [hI.len]; show _ < 57; decide
            show T11J X.heap.size c q _ (a.put (some 11) (ptr w'.heap.size)) _
            unfold T11J at hJ ⊢
            have l8 : (listed.setIfInBounds 8 true).getD 8 false = true := listed_same (by rw [hI.size]; decide)
            have l9 : (listed.setIfInBounds 8 true).getD 9 false = listed.getD 9 false := listed_other (by decide)
            have l10 : (listed.setIfInBounds 8 true).getD 10 false = listed.getD 10 false := listed_other (by decide)
            have l11 : (listed.setIfInBounds 8 true).getD 11 false = listed.getD 11 false := listed_other (by decide)
            rw [l8, l9, l10, l11, eval_put_eq hsz11, eval_put_ne (by decide), if_neg (by rw [h10]; simp)]
            refine ⟨fun _ => ⟨_, rfl, hb.size, PageAt.new' w' noughts⟩, fun e => ?_, fun _ e h12 => ?_⟩
            · obtain ⟨g, h1, h2, h3⟩ := hJ.2.1 e; exact ⟨g, h1, h2, h3.below hb2 h3.lt⟩
            · obtain ⟨g, h1, h2, h3⟩ := hJ.2.1 e
              have hlt := h3.lt
              rw [h1] at h12
              injection h12 with h12; injection h12 with h12; injection h12 with h12
              omega
          | 9, _ =>
            cases ho
            have h11 := hI.notyet hn 11 (by kernel_rfl)
            have hb2 : Below w'.heap.size w' (w'.alloc (.cells (pageCells noughts) 66)) := (Below.refl _ w').alloc (Nat.le_refl _) _
            refine wpOp_alloc rfl rfl rfl (alloc77 w') ⟨_, rfl, hb.trans (hb2.mono hb.size), fun _ => trivial, fun _ _ _ h => h, ?_⟩
            have hsz12 : 12 < a.tmps.size := by rw [hI.len]; show _ < 57; decide
            show T11J X.heap.size c q _ (a.put (some 12) (ptr w'.heap.size)) _
            unfold T11J at hJ ⊢
            have l8 : (listed.setIfInBounds 9 true).getD 8 false = listed.getD 8 false := listed_other (by decide)
            have l9 : (listed.setIfInBounds 9 true).getD 9 false = true := listed_same (by rw [hI.size]; decide)
            have l10 : (listed.setIfInBounds 9 true).getD 10 false = listed.getD 10 false := listed_other (by decide)
            have l11 : (listed.setIfInBounds 9 true).getD 11 false = listed.getD 11 false := listed_other (by decide)
            rw [l8, l9, l10, l11, eval_put_eq hsz12, eval_put_ne (by decide)]
            refine ⟨fun e => ?_, fun _ => ⟨_, rfl, hb.size, by rw [if_neg (by rw [h11]; simp)]; exact PageAt.new' w' noughts⟩, fun e _ h12 => ?_⟩
            · obtain ⟨g, h1, h2, h3⟩ := hJ.1 e; exact ⟨g, h1, h2, h3.below hb2 h3.lt⟩
            · obtain ⟨g, h1, h2, h3⟩ := hJ.1 e
              have hlt := h3.lt
              rw [h1] at h12
              injection h12 with h12; injection h12 with h12; injection h12 with h12
              omega
          | 10, _ =>
            cases ho
            have h8 := hpre ⟨8, .data⟩ (by simp) rfl
            obtain ⟨g, h1, h2, h3⟩ := hJ.1 h8
            rw [if_neg (by rw [hn]; simp)] at h3
            have hg := setRow_grown w' g (byteVals c).toArray
            refine wpOp_store rfl rfl rfl h1 (hI.slot 2 33 rfl (hpre ⟨2, .data⟩ (by simp) rfl) rfl) (store77 h3 noughts_len hcl) ⟨_, rfl, hb.trans ((Below.refl _ w').grown hg hb.size (fun k e => by cases e; exact h2)), (fun e => by cases e), fun _ _ _ h => h, ?_⟩
            unfold T11J at hJ ⊢
            have l8 : (listed.setIfInBounds 10 true).getD 8 false = listed.getD 8 false := listed_other (by decide)
            have l9 : (listed.setIfInBounds 10 true).getD 9 false = listed.getD 9 false := listed_other (by decide)
            have l10 : (listed.setIfInBounds 10 true).getD 10 false = true := listed_same (by rw [hI.size]; decide)
            have l11 : (listed.setIfInBounds 10 true).getD 11 false = listed.getD 11 false := listed_other (by decide)
            rw [l8, l9, l10, l11, if_pos rfl]
            refine ⟨fun _ => ⟨g, h1, h2, h3.setRow c⟩, fun e => ?_, fun e1 e2 => hJ.2.2 e1 e2⟩
            obtain ⟨g2, h4, h5, h6⟩ := hJ.2.1 e
            exact ⟨g2, h4, h5, h6.other (fun e3 => hJ.2.2 h8 e (by rw [h1, h4, e3]))⟩
          | 11, _ =>
            cases ho
            have h9 := hpre ⟨9, .data⟩ (by simp) rfl
            obtain ⟨g, h1, h2, h3⟩ := hJ.2.1 h9
            rw [if_neg (by rw [hn]; simp)] at h3
            have hg := setRow_grown w' g (byteVals q).toArray
            refine wpOp_store rfl rfl rfl h1 (hI.slot 7 38 rfl (hpre ⟨7, .data⟩ (by simp) rfl) rfl) (store77 h3 noughts_len hql) ⟨_, rfl, hb.trans ((Below.refl _ w').grown hg hb.size (fun k e => by cases e; exact h2)), (fun e => by cases e), fun _ _ _ h => h, ?_⟩
            unfold T11J at hJ ⊢
            have l8 : (listed.setIfInBounds 11 true).getD 8 false = listed.getD 8 false := listed_other (by decide)
            have l9 : (listed.setIfInBounds 11 true).getD 9 false = listed.getD 9 false := listed_other (by decide)
            have l10 : (listed.setIfInBounds 11 true).getD 10 false = listed.getD 10 false := listed_other (by decide)
            have l11 : (listed.setIfInBounds 11 true).getD 11 false = true := listed_same (by rw [hI.size]; decide)
            rw [l8, l9, l10, l11, if_pos rfl]
            refine ⟨fun e => ?_, fun _ => ⟨g, h1, h2, h3.setRow q⟩, fun e1 e2 => hJ.2.2 e1 e2⟩
            obtain ⟨g2, h4, h5, h6⟩ := hJ.1 e
            exact ⟨g2, h4, h5, h6.other (fun e3 => hJ.2.2 e h9 (by rw [h1, h4, e3]))⟩
        case fin11 =>
          intro listed a w' hI hJ hall
          obtain ⟨g11, e11, h11, hP11⟩ := hJ.1 (hall 8 (by decide))
          rw [if_pos (hall 10 (by decide))] at hP11
          obtain ⟨g12, e12, h12, hP12⟩ := hJ.2.1 (hall 9 (by decide))
          rw [if_pos (hall 11 (by decide))] at hP12
          have hb11 : Below X.heap.size X w' := hI.inv
          obtain ⟨F, hF, ea⟩ := hI.framedF [31, 32, 33, 34, 35, 36, 37, 38, 11, 12] (by kernel_rfl)
          have e11F : F 11 = ptr g11 := (hF _).trans e11
          have e12F : F 12 = ptr g12 := (hF _).trans e12
          clear hF e11 e12 hI hJ hall
          simp only [List.foldl_cons, List.foldl_nil, List.setIfInBounds_toArray, List.set_cons_succ, List.set_cons_zero] at ea
          subst ea
          rw [e11F]
          rw [e12F]
          generalize F 31 = y31
          generalize F 32 = y32
          generalize F 33 = y33
          generalize F 34 = y34
          generalize F 35 = y35
          generalize F 36 = y36
          generalize F 37 = y37
          generalize F 38 = y38
          obtain ⟨Y, rfl⟩ : ∃ Y, Y = w' := ⟨_, rfl⟩
          gi_wp2
          refine region_round_l (l := l2) (T12I Y g11 (splice c q j)) (fun i u _ => T12Sp j g11 g12 i u) (by kernel_rfl) (fun ⟨_, _, h⟩ => h) (by kernel_rfl) (by kernel_rfl) (by kernel_rfl) (by kernel_rfl) (by unfold T12I; simp) ?step12 ?fin12
          case step12 =>
            intro i op ho listed a w' hI hn hpre
            have hi' : i < 7 := (Array.getElem?_eq_some_iff.1 ho).1
            match i, hi' with
            | 0, _ =>
              cases ho
              exact wpOp_move rfl rfl (.inl rfl) (hI.kept (t := 9) (by kernel_rfl)) ⟨_, rfl, hI.inv.still (by omega), fun _ => rfl, fun _ _ _ h => h⟩
            | 1, _ =>
              cases ho
              exact wpOp_move rfl rfl (.inl rfl) (hI.kept (t := 10) (by kernel_rfl)) ⟨_, rfl, hI.inv.still (by omega), fun _ => rfl, fun _ _ _ h => h⟩
            | 2, _ =>
              cases ho
              have e39 : a.eval (.tmp 39) = .int .i64 (64 * (j : Int)) := hI.slot 0 39 rfl (hpre ⟨0, .data⟩ (by simp) rfl) rfl
              have e40 : a.eval (.tmp 40) = .int .i64 (64 * (j : Int) + 64) := hI.slot 1 40 rfl (hpre ⟨1, .data⟩ (by simp) rfl) rfl
              exact wpOp_slice rfl rfl rfl (hI.kept (t := 11) (by kernel_rfl)) (congrArg some e39) (congrArg some e40) rfl (slice77 w' g11 j hj) ⟨_, rfl, hI.inv.still (by omega), fun _ => rfl, fun _ _ _ h => h⟩
            | 3, _ =>
              cases ho
              exact wpOp_move rfl rfl (.inl rfl) (hI.kept (t := 9) (by kernel_rfl)) ⟨_, rfl, hI.inv.still (by omega), fun _ => rfl, fun _ _ _ h => h⟩
            | 4, _ =>
              cases ho
              exact wpOp_move rfl rfl (.inl rfl) (hI.kept (t := 10) (by kernel_rfl)) ⟨_, rfl, hI.inv.still (by omega), fun _ => rfl, fun _ _ _ h => h⟩
            | 5, _ =>
              cases ho
              have e42 : a.eval (.tmp 42) = .int .i64 (64 * (j : Int)) := hI.slot 3 42 rfl (hpre ⟨3, .data⟩ (by simp) rfl) rfl
              have e43 : a.eval (.tmp 43) = .int .i64 (64 * (j : Int) + 64) := hI.slot 4 43 rfl (hpre ⟨4, .data⟩ (by simp) rfl) rfl
              exact wpOp_slice rfl rfl rfl (hI.kept (t := 12) (by kernel_rfl)) (congrArg some e42) (congrArg some e43) rfl (slice77 w' g12 j hj) ⟨_, rfl, hI.inv.still (by omega), fun _ => rfl, fun _ _ _ h => h⟩
            | 6, _ =>
              have hinv := hI.inv
              unfold T12I at hinv
              rw [if_neg (by rw [hn]; simp)] at hinv
              subst hinv
              cases ho
              refine wpOp_copy rfl rfl rfl (hI.slot 2 41 rfl (hpre ⟨2, .data⟩ (by simp) rfl) rfl) (hI.slot 5 44 rfl (hpre ⟨5, .data⟩ (by simp) rfl) rfl) (copy77 (w := Y.drew) hP11 hP12 hcl hql hj _) ⟨_, rfl, ?_, fun _ => trivial, fun _ _ _ h => h⟩
              unfold T12I
              rw [listed_same (by rw [hI.size]; decide), if_pos rfl]
          case fin12 =>
            intro listed a w' hI hall
            have hinv := hI.inv
            unfold T12I at hinv
            rw [if_pos (hall 6 (by decide))] at hinv
            obtain ⟨F, hF, ea⟩ := hI.framedF [39, 40, 41, 42, 43, 44, 45] (by kernel_rfl)
            clear hF hI hall
            simp only [List.foldl_cons, List.foldl_nil, List.setIfInBounds_toArray, List.set_cons_succ, List.set_cons_zero] at ea
            subst ea
            generalize F 39 = y39
            generalize F 40 = y40
            generalize F 41 = y41
            generalize F 42 = y42
            generalize F 43 = y43
            generalize F 44 = y44
            generalize F 45 = y45

            have hb12 : Below X.heap.size X w' := by
              rw [hinv]
              exact hb11.trans (((Below.refl _ Y).drew).trans ((Below.refl _ Y.drew).grown (setRow_grown Y.drew g11 _) hb11.size (fun k e => by cases e; exact h11)))
            have hP : PageAt w' g11 (splice c q j) := by rw [hinv]; exact PageAt.setRow (w := Y.drew) hP11 _
            clear hinv hb11 hP11 hP12
            obtain ⟨Z, rfl⟩ : ∃ Z, Z = w' := ⟨_, rfl⟩
            have hmZ := hi.at_.map.below hb12 hi.at_.map.lt
            have h6Z := of_below hi.at_.box6 hb12
            have h7Z := of_below hi.vars.box7 hb12
            have h3Z := of_below hbx hb12
            have hpvZ := hpv.below hb12 (Nat.le_trans (by omega) hsX)
            obtain ⟨sv', htail, hpv'⟩ := hpvZ.tail
            have hsZ := hb12.size
            have hspl : splice c q j = mix m (d.lasts.getD p noughts) (j + 1) := by rw [mix_succ _ _ _ hj (by rw [hqd]; exact hql), hcd, hqd]
            gi_wp2
            clear hpvZ
            have hpv2 := hpv'
            have hlo7 := hi.vars.lo.2.1
            have hlo8 := hi.vars.lo.2.2
            have hlog := hi.vars.lo.1
            obtain ⟨sa, sc, rfl, -, -⟩ := hpv2
            refine region_round_l (l := l2) (T13I w Z (pagesV (midS d picks fl k p j)) (putAt (pagesV (midS d picks fl k p j)) p (pageV (splice c q j))) (.slice (some ⟨b, o, none⟩) (x :: rest).length pc') (.slice sa rest.length sc)) (fun i u _ => T13Sp (w.heap.size + 1) p (splice c q j) (.slice (some ⟨b, o, none⟩) (x :: rest).length pc') (.slice sa rest.length sc) i u) (by kernel_rfl) (fun ⟨_, _, h⟩ => h) (by kernel_rfl) (by kernel_rfl) (by kernel_rfl) (by kernel_rfl)
              ⟨by rw [if_neg (by simp)]; exact hmZ.drew, by rw [if_neg (by simp)]; exact h3Z, (Below.refl _ Z).drew, fun _ _ _ _ => rfl⟩ ?step13 ?fin13
            case step13 =>
              intro i op ho listed a z hI hn hpre
              have hi' : i < 7 := (Array.getElem?_eq_some_iff.1 ho).1
              have hR := hI.inv.rest
              have h6Zl := lt_of_heap h6Z
              have hbm1 := hmZ.lt
              match i, hi' with
              | 0, _ =>
                cases ho
                exact wpOp_load rfl rfl rfl (hI.kept (t := 6) (by kernel_rfl)) (load_cell (Try.isAgg59 _) (box_cell ((hR _ h6Zl (by omega) (by omega)).trans h6Z))) ⟨_, rfl, hI.inv.still (by omega), fun _ => rfl, fun _ _ _ h => h⟩
              | 1, _ =>
                cases ho
                exact wpOp_load rfl rfl rfl (hI.kept (t := 7) (by kernel_rfl)) (load_cell (Try.isAgg3 _) (box_cell ((hR _ (lt_of_heap h7Z) (by omega) (by omega)).trans h7Z))) ⟨_, rfl, hI.inv.still (by omega), fun _ => rfl, fun _ _ _ h => h⟩
              | 2, _ =>
                cases ho
                have hP2 : PageAt z g11 (splice c q j) := (hR _ hP.lt (by omega) (by omega)).trans hP
                exact wpOp_load rfl rfl rfl (hI.kept (t := 11) (by kernel_rfl)) (run_load77 _ _ _ _ (splice_len hcl hql hj) hP2.range) ⟨_, rfl, hI.inv.still (by omega), fun _ => rfl, fun _ _ _ h => h⟩
              | 3, _ =>
                cases ho
                have h6 := hI.notyet hn 4 (by kernel_rfl)
                have h7 := hI.notyet h6 6 (by kernel_rfl)
                have hbox := hI.inv.box3
                rw [if_neg (by rw [h7]; simp)] at hbox
                exact wpOp_load rfl rfl rfl (hI.kept (t := 3) (by kernel_rfl)) (load_cell (Try.isAgg23 _) (box_cell hbox)) ⟨_, rfl, hI.inv.still (by omega), fun _ => rfl, fun _ _ _ h => h⟩
              | 4, _ =>
                cases ho
                exact wpOp_slice rfl rfl rfl (hI.slot 3 49 rfl (hpre ⟨3, .data⟩ (by simp) rfl) rfl) rfl rfl rfl (htail z) ⟨_, rfl, hI.inv.still (by omega), fun _ => rfl, fun _ _ _ h => h⟩
              | 5, _ =>
                cases ho
                have hmz := hI.inv.map
                rw [if_neg (by rw [hn]; simp)] at hmz
                obtain ⟨z2, hrun, r1, r2⟩ := hmz.put Try.underlying3 Try.underlying59 p hp4 (pageV (splice c q j))
                refine wpOp_update rfl rfl rfl (hI.slot 0 46 rfl (hpre ⟨0, .data⟩ (by simp) rfl) rfl) (hI.slot 1 47 rfl (hpre ⟨1, .data⟩ (by simp) rfl) rfl) (hI.slot 2 48 rfl (hpre ⟨2, .data⟩ (by simp) rfl) rfl) hrun ⟨_, rfl, ⟨?_, ?_, ?_, ?_⟩, (fun e => by cases e), fun _ _ _ h => h⟩
                · rw [listed_same (by rw [hI.size]; decide), if_pos rfl]; exact r1
                · rw [listed_other (by decide)]
                  exact (r2.block _ (lt_of_heap hI.inv.box3) (fun e => by have := Option.some.inj e; omega)).trans hI.inv.box3
                · exact hI.inv.below.trans ((Below.refl _ z).grown r2 (by have := hI.inv.below.size; omega) (fun k e => by cases e; omega))
                · intro k' h1 h2 h3
                  exact (r2.block k' (by have := hI.inv.below.size; omega) (fun e => h3 (Option.some.inj e))).trans (hR k' h1 h2 h3)
              | 6, _ =>
                cases ho
                have hbox := hI.inv.box3
                rw [if_neg (by rw [hn]; simp)] at hbox
                have hsg := grownBy_cell z ⟨w.heap.size, 0, none⟩ (.slice sa rest.length sc)
                refine wpOp_store rfl rfl rfl (hI.kept (t := 3) (by kernel_rfl)) (hI.slot 4 50 rfl (hpre ⟨4, .data⟩ (by simp) rfl) rfl) (store_slice (Try.sizeOf23 _) (box_cell hbox) (frozen_of_row z w.heap.size 0 _ _ hbox)) ⟨_, rfl, ⟨?_, ?_, ?_, ?_⟩, (fun e => by cases e), fun _ _ _ h => h⟩
                · rw [listed_other (by decide)]
                  exact hI.inv.map.kept hsg (fun e => by have := Option.some.inj e; simp at this)
                · rw [listed_same (by rw [hI.size]; decide), if_pos rfl, heap_setCell_same z w.heap.size 0 _ _ _ hbox]; rfl
                · exact hI.inv.below.trans ((Below.refl _ z).grown hsg (by have := hI.inv.below.size; omega) (fun k e => by cases e; exact Nat.le_refl _))
                · intro k' h1 h2 h3
                  exact (hsg.block k' (by have := hI.inv.below.size; omega) (fun e => h2 (Option.some.inj e))).trans (hR k' h1 h2 h3)
            case fin13 =>
              intro listed a z hI hall
              obtain ⟨hm13, h313, hb13, hr13⟩ := hI.inv
              rw [if_pos (hall 5 (by decide))] at hm13
              rw [if_pos (hall 6 (by decide))] at h313
              clear hI hall
              have hz : ∀ i, i < X.heap.size → i ≠ w.heap.size → i ≠ w.heap.size + 1 → z.heap[i]? = X.heap[i]? := fun i h1 h2 h3 => (hr13 i (Nat.lt_of_lt_of_le h1 hsZ) h2 h3).trans (hb12.block i h1)
              have hzs := Nat.le_trans hsZ hb13.size
              have hkz : KeepsFrom W.heap.size X z := ⟨hzs, fun i o' hi1 ho' _ => (hz i (lt_of_heap ho') (by omega) (by omega)).trans ho'⟩
              gi_wp2
              refine ⟨hkz, trivial, ⟨?_, ?_, ?_, ?_, ?_⟩⟩
              · refine ⟨(hz _ (lt_of_heap hi.at_.box6) (by omega) (by omega)).trans hi.at_.box6, ?_, (hi.at_.below.trans (hb12.mono (by omega))).trans hb13, Nat.le_trans hi.at_.size hzs⟩
                rw [← midS_put (splice c q j) (by rw [hmd]; exact hspl)]
                exact hm13
              · refine ⟨_, h313, ?_⟩
                have e : picks.drop (4 * k + (j + 1)) = rest := by rw [← Nat.add_assoc, ← List.drop_drop, hdr]; rfl
                rw [e]
                exact hpv'.below hb13 (Nat.le_refl _)
              · exact ⟨hi.vars.at_, hi.vars.lo, row_at hi.vars.row (fun b' hb' => by cases hb'; exact hz gv hgX (by omega) (by omega)), (hz _ (lt_of_heap hi.vars.box7) (by have := hi.vars.lo; omega) (by have := hi.vars.lo; omega)).trans hi.vars.box7, (hz _ (lt_of_heap hi.vars.box8) (by have := hi.vars.lo; omega) (by have := hi.vars.lo; omega)).trans hi.vars.box8⟩
              · exact ⟨Nat.le_trans hi.keeps.size hzs, fun i o' hi1 ho' hc' => (hz i (Nat.lt_of_lt_of_le (lt_of_heap ho') hsX) (by omega) (by omega)).trans (hi.keeps.same i o' hi1 ho' hc')⟩
              · exact ⟨Nat.le_trans hi.kept.size hzs, fun i o' hi1 ho' hc' => (hz i (Nat.lt_of_lt_of_le (lt_of_heap ho') hsX) (by omega) (by omega)).trans (hi.kept.same i o' hi1 ho' hc')⟩
    case done2 =>
      rintro X hi
      gi_wp2
      exact ⟨hi.keeps, hi.kept, ⟨by rw [← midS_four hT.at_]; exact hi.at_, by have := hi.picks; rwa [show 4 * k + 4 = 4 * (k + 1) by omega] at this⟩⟩
    case stop2 =>
      rintro c j X ⟨rfl, hF, hKF⟩
      gi_wp2
      exact ⟨hKF, rfl, hF⟩
  case done =>
    rintro D W hD hI hK
    have hF : CrashF w W0 d picks W := ⟨_, hI.1, fun p hp => midC_done hflo (fun q hq hq2 => by
      obtain ⟨i, hi⟩ := List.mem_iff_getElem?.1 (tornPages_mem.2 ⟨hq, hq2⟩)
      rw [(tornPages_below hi).1]; exact (List.getElem?_eq_some_iff.1 hi).1) hp, fun p hp => midC_hi hfhi hp⟩
    clear hI
    gi_wp2
    obtain ⟨f, hC, hF1, hF2⟩ := hF
    have hcB : W.heap[B]? = some (.cells (dskCells d bl bn v) 72 (0, 0)) := (hC.below.block B hBlt).trans HD.out.cells
    have h14 : ∀ listed w', C14I W d.room (w.heap.size + 1) listed w' → Below W.heap.size W w' := fun listed w' hh => by
      unfold C14I at hh
      split at hh
      · subst hh; exact (((Below.refl _ W).drew).alloc (Nat.le_refl _) _).alloc (by simp) _
      · subst hh; exact (Below.refl _ W).drew
    refine wpIn_wide.2 (wp_region_l (C14I W d.room (w.heap.size + 1)) (fun i u _ => C14Sp B d.room (w.heap.size + 1) (W.heap.size + 1) i u) (by kernel_rfl) (by kernel_rfl) (by kernel_rfl) (by kernel_rfl) (by unfold C14I; simp) ?stepT ?finT)
    case stepT =>
      intro i o ho listed a w' hI hn hpre
      have hi : i < 8 := (Array.getElem?_eq_some_iff.1 ho).1
      have hb := h14 _ _ hI.inv
      match i, hi with
      | 0, _ =>
        cases ho
        exact wpOp_move rfl rfl (.inl rfl) (hI.kept (t := 0) (by kernel_rfl)) ⟨_, rfl, hI.inv.still (by omega), fun _ => rfl, fun _ _ _ h => h⟩
      | 1, _ =>
        cases ho
        exact wpOp_nilCheck rfl rfl rfl (hI.slot 0 51 rfl (hpre ⟨0, .data⟩ (by simp) rfl) rfl) ⟨_, rfl, hI.inv.still (by omega), fun _ => rfl, fun _ _ _ h => h⟩
      | 2, _ =>
        cases ho
        exact wpOp_field rfl rfl rfl (hI.slot 1 52 rfl (hpre ⟨1, .data⟩ (by simp) rfl) rfl) (field58_1 B w') ⟨_, rfl, hI.inv.still (by omega), fun _ => rfl, fun _ _ _ h => h⟩
      | 3, _ =>
        cases ho
        exact wpOp_load rfl rfl rfl (hI.slot 2 53 rfl (hpre ⟨2, .data⟩ (by simp) rfl) rfl) (load_cell (Try.isAgg3 _) (by rw [cell_of_row w' B 3 _ _ _ (of_below hcB hb)]; rfl)) ⟨_, rfl, hI.inv.still (by omega), fun _ => rfl, fun _ _ _ h => h⟩
      | 4, _ =>
        cases ho
        exact wpOp_load rfl rfl rfl (hI.kept (t := 6) (by kernel_rfl)) (load_cell (Try.isAgg59 _) (box_cell (of_below hC.box6 hb))) ⟨_, rfl, hI.inv.still (by omega), fun _ => rfl, fun _ _ _ h => h⟩
      | 5, _ =>
        have hinv := hI.inv
        unfold C14I at hinv
        rw [if_neg (by rw [hn]; simp)] at hinv
        subst hinv
        cases ho
        have e54 : a.eval (.tmp 54) = .int .i64 d.room := hI.slot 3 54 rfl (hpre ⟨3, .data⟩ (by simp) rfl) rfl
        have e55 : a.eval (.tmp 55) = .map (some (w.heap.size + 1)) := hI.slot 4 55 rfl (hpre ⟨4, .data⟩ (by simp) rfl) rfl
        refine wpOp_callFn rfl rfl rfl (vs := #[.int .i64 d.room, .map (some (w.heap.size + 1))]) (by simp only [List.map_toArray, List.map_cons, List.map_nil, e54, e55]) (enters_of Try.func22 (by kernel_rfl) rfl) ((standing_any _ _ _).mono ?_)
        rintro e w2 ⟨rfl, rfl⟩
        refine ⟨_, rfl, _, rfl, ?_, fun _ => rfl, fun _ _ _ h => h⟩
        unfold C14I
        rw [listed_same (by rw [hI.size]; decide), if_pos rfl]
        rfl
      | 6, _ =>
        cases ho
        exact wpOp_move rfl rfl (.inr rfl) (hI.slot 5 56 rfl (hpre ⟨5, .data⟩ (by simp) rfl) rfl) ⟨_, rfl, hI.inv.still (by omega), fun _ => rfl, fun _ _ _ h => h⟩
      | 7, _ =>
        cases ho
        exact wpOp_move rfl rfl (.inr rfl) rfl ⟨_, rfl, hI.inv.still (by omega), fun _ => rfl, fun _ _ _ h => h⟩
    case finT =>
      intro listed a w' hI hall
      have e4 : a.eval (.tmp 4) = ptr (W.heap.size + 1) := hI.slot 6 4 rfl (hall 6 (by decide)) rfl
      have e5 : a.eval (.tmp 5) = .int .i64 0 := hI.slot 7 5 rfl (hall 7 (by decide)) rfl
      have hb := h14 _ _ hI.inv
      have hinv := hI.inv
      unfold C14I at hinv
      rw [if_pos (hall 5 (by decide))] at hinv
      have hdf := hI.defers
      clear hI hall h14
      have hst : IsDisk w.heap.size w' (W.heap.size + 1) (d.crash picks) := by
        have hlen : ((List.range d.room).map (crashPage d.lasts d.waits picks)).length = d.room := by simp
        have := stand_disk (n₀ := w.heap.size) (w := W.drew) (bl := w.heap.size + 1) (fl := f) (ls := (List.range d.room).map (crashPage d.lasts d.waits picks)) (by have := hC.below.size; exact this) (by omega) hC.map.drew (by rw [hlen]; exact hok.lo) (by rw [hlen]; exact hok.hi)
          (fun p hp => by rw [hlen] at hp; simp only [List.getD, List.getElem?_map, List.getElem?_range hp, Option.map_some, Option.getD_some]; exact crashPage_len hok picks hp)
          (fun p hp => by rw [hlen] at hp; rw [hF1 p hp]; simp [List.getD, hp]) (fun p hp => by rw [hlen] at hp; exact hF2 p hp)
        rw [hlen] at this
        rw [hinv]
        exact this
      have hK' := of_below hK hb
      clear hinv
      rcases a with ⟨T, DD⟩
      obtain rfl : DD = _ := hdf
      gi_wp2
      have e4' : T.getD 4 undef = ptr (W.heap.size + 1) := e4
      have e5' : T.getD 5 undef = .int .i64 0 := e5
      have hsw := hC.below.size
      refine ⟨by simp, .inl ⟨_, _, rfl, run_takeDeferred hK', ?_⟩⟩
      refine ⟨.tuple #[ptr (W.heap.size + 1), .int .i64 0], by rw [results_tmp2 rfl, e4', e5'], ⟨_, rfl, hst.put hK' _, ?_⟩⟩
      exact (hC.below.trans (hb.mono hsw)).trans (belowK_b (w := w) (Nat.le_refl _) w' D _ _ (by omega) hK' rfl rfl)
  case stop =>
    rintro D c k W hD ⟨rfl, hF⟩ hK
    gi_wp2
    obtain ⟨f, hC, hF1, hF2⟩ := hF
    have hcB : W.heap[B]? = some (.cells (dskCells d bl bn v) 72 (0, 0)) := (hC.below.block B hBlt).trans HD.out.cells
    have h14 : ∀ listed w', C14I W d.room (w.heap.size + 1) listed w' → Below W.heap.size W w' := fun listed w' hh => by
      unfold C14I at hh
      split at hh
      · subst hh; exact (((Below.refl _ W).drew).alloc (Nat.le_refl _) _).alloc (by simp) _
      · subst hh; exact (Below.refl _ W).drew
    refine wpIn_wide.2 (wp_region_l (C14I W d.room (w.heap.size + 1)) (fun i u _ => C14Sp B d.room (w.heap.size + 1) (W.heap.size + 1) i u) (by kernel_rfl) (by kernel_rfl) (by kernel_rfl) (by kernel_rfl) (by unfold C14I; simp) ?stepT ?finT)
    case stepT =>
      intro i o ho listed a w' hI hn hpre
      have hi : i < 8 := (Array.getElem?_eq_some_iff.1 ho).1
      have hb := h14 _ _ hI.inv
      match i, hi with
      | 0, _ =>
        cases ho
        exact wpOp_move rfl rfl (.inl rfl) (hI.kept (t := 0) (by kernel_rfl)) ⟨_, rfl, hI.inv.still (by omega), fun _ => rfl, fun _ _ _ h => h⟩
      | 1, _ =>
        cases ho
        exact wpOp_nilCheck rfl rfl rfl (hI.slot 0 51 rfl (hpre ⟨0, .data⟩ (by simp) rfl) rfl) ⟨_, rfl, hI.inv.still (by omega), fun _ => rfl, fun _ _ _ h => h⟩
      | 2, _ =>
        cases ho
        exact wpOp_field rfl rfl rfl (hI.slot 1 52 rfl (hpre ⟨1, .data⟩ (by simp) rfl) rfl) (field58_1 B w') ⟨_, rfl, hI.inv.still (by omega), fun _ => rfl, fun _ _ _ h => h⟩
      | 3, _ =>
        cases ho
        exact wpOp_load rfl rfl rfl (hI.slot 2 53 rfl (hpre ⟨2, .data⟩ (by simp) rfl) rfl) (load_cell (Try.isAgg3 _) (by rw [cell_of_row w' B 3 _ _ _ (of_below hcB hb)]; rfl)) ⟨_, rfl, hI.inv.still (by omega), fun _ => rfl, fun _ _ _ h => h⟩
      | 4, _ =>
        cases ho
        exact wpOp_load rfl rfl rfl (hI.kept (t := 6) (by kernel_rfl)) (load_cell (Try.isAgg59 _) (box_cell (of_below hC.box6 hb))) ⟨_, rfl, hI.inv.still (by omega), fun _ => rfl, fun _ _ _ h => h⟩
      | 5, _ =>
        have hinv := hI.inv
        unfold C14I at hinv
        rw [if_neg (by rw [hn]; simp)] at hinv
        subst hinv
        cases ho
        have e54 : a.eval (.tmp 54) = .int .i64 d.room := hI.slot 3 54 rfl (hpre ⟨3, .data⟩ (by simp) rfl) rfl
        have e55 : a.eval (.tmp 55) = .map (some (w.heap.size + 1)) := hI.slot 4 55 rfl (hpre ⟨4, .data⟩ (by simp) rfl) rfl
        refine wpOp_callFn rfl rfl rfl (vs := #[.int .i64 d.room, .map (some (w.heap.size + 1))]) (by simp only [List.map_toArray, List.map_cons, List.map_nil, e54, e55]) (enters_of Try.func22 (by kernel_rfl) rfl) ((standing_any _ _ _).mono ?_)
        rintro e w2 ⟨rfl, rfl⟩
        refine ⟨_, rfl, _, rfl, ?_, fun _ => rfl, fun _ _ _ h => h⟩
        unfold C14I
        rw [listed_same (by rw [hI.size]; decide), if_pos rfl]
        rfl
      | 6, _ =>
        cases ho
        exact wpOp_move rfl rfl (.inr rfl) (hI.slot 5 56 rfl (hpre ⟨5, .data⟩ (by simp) rfl) rfl) ⟨_, rfl, hI.inv.still (by omega), fun _ => rfl, fun _ _ _ h => h⟩
      | 7, _ =>
        cases ho
        exact wpOp_move rfl rfl (.inr rfl) rfl ⟨_, rfl, hI.inv.still (by omega), fun _ => rfl, fun _ _ _ h => h⟩
    case finT =>
      intro listed a w' hI hall
      have e4 : a.eval (.tmp 4) = ptr (W.heap.size + 1) := hI.slot 6 4 rfl (hall 6 (by decide)) rfl
      have e5 : a.eval (.tmp 5) = .int .i64 0 := hI.slot 7 5 rfl (hall 7 (by decide)) rfl
      have hb := h14 _ _ hI.inv
      have hinv := hI.inv
      unfold C14I at hinv
      rw [if_pos (hall 5 (by decide))] at hinv
      have hdf := hI.defers
      clear hI hall h14
      have hst : IsDisk w.heap.size w' (W.heap.size + 1) (d.crash picks) := by
        have hlen : ((List.range d.room).map (crashPage d.lasts d.waits picks)).length = d.room := by simp
        have := stand_disk (n₀ := w.heap.size) (w := W.drew) (bl := w.heap.size + 1) (fl := f) (ls := (List.range d.room).map (crashPage d.lasts d.waits picks)) (by have := hC.below.size; exact this) (by omega) hC.map.drew (by rw [hlen]; exact hok.lo) (by rw [hlen]; exact hok.hi)
          (fun p hp => by rw [hlen] at hp; simp only [List.getD, List.getElem?_map, List.getElem?_range hp, Option.map_some, Option.getD_some]; exact crashPage_len hok picks hp)
          (fun p hp => by rw [hlen] at hp; rw [hF1 p hp]; simp [List.getD, hp]) (fun p hp => by rw [hlen] at hp; exact hF2 p hp)
        rw [hlen] at this
        rw [hinv]
        exact this
      have hK' := of_below hK hb
      clear hinv
      rcases a with ⟨T, DD⟩
      obtain rfl : DD = _ := hdf
      gi_wp2
      have e4' : T.getD 4 undef = ptr (W.heap.size + 1) := e4
      have e5' : T.getD 5 undef = .int .i64 0 := e5
      have hsw := hC.below.size
      refine ⟨by simp, .inl ⟨_, _, rfl, run_takeDeferred hK', ?_⟩⟩
      refine ⟨.tuple #[ptr (W.heap.size + 1), .int .i64 0], by rw [results_tmp2 rfl, e4', e5'], ⟨_, rfl, hst.put hK' _, ?_⟩⟩
      exact (hC.below.trans (hb.mono hsw)).trans (belowK_b (w := w) (Nat.le_refl _) w' D _ _ (by omega) hK' rfl rfl)
end Go.Proofs.Ytkophpipehdkmaa
