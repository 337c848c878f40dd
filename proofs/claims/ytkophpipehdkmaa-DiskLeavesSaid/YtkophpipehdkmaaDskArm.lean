/- Layer 2: what a step is refused with; Arm. -/
import Derived.Deep.RegionHeld3
import Derived.Test.YtkophpipehdkmaaFrames
import Derived.Test.YtkophpipehdkmaaDskNew
namespace Go.Proofs.Ytkophpipehdkmaa
open Go.RowKit

def refF : Nat → Option Value := putAt (putAt (fun _ => none) 1 (.int .i64 120)) 2 (.int .i64 121)
set_option maxRecDepth 100000 in
theorem refusals_any (w : World) :
    Calls Try.prog 42 #[] w fun e w' => e = .returned (.map (some w.heap.size)) ∧ IntMap Try.prog 37 w' w.heap.size refF ∧ Below w.heap.size w w' := by
  have hmm := @run_makeMap Try.prog
  have hm := IntMap.made (P := Try.prog) (kT := 37) w
  go_enter Try.func42, Try.ntmps42
  go_wp2_with (first
    | (refine wpList_insert rfl _ _ _ rfl Try.underlying37 Try.underlying92 hm rfl 1 (by omega) rfl ?_; intro w1 h1 g1; clear hm)
    | (refine wpList_insert rfl _ _ _ rfl Try.underlying37 Try.underlying92 h1 rfl 2 (by omega) rfl ?_; intro w2 h2 g2; clear h1))
  have hb1 : Below w.heap.size w w1 := ((Below.refl _ w).alloc (Nat.le_refl _) _).grown g1 (by simp) (fun k e => by cases e; exact Nat.le_refl _)
  have hb2 : Below w.heap.size w w2 := hb1.grown g2 hb1.size (fun k e => by cases e; exact Nat.le_refl _)
  go_ret
  exact ⟨rfl, h2, hb2⟩

theorem grownBy_cell (w : World) (p : Addr) (v : Value) : w.grownBy (w.setCell p v) (some p.block) :=
  ⟨rfl, rfl, rfl, by simp [World.setCell], fun i _ hne => Below.heap_setCell w p v i (fun e => hne (by rw [e]))⟩
theorem grownBy_drew {a w : World} {row : Option Nat} (h : a.grownBy w row) : a.grownBy w.drew row := ⟨h.os, h.tape, h.output, h.size, h.block⟩
/-- The disk's own cells are turned: only what arms it, and how many steps. -/
theorem DskAt.recells {n₀ : Nat} {w w' : World} {B bl bn : Nat} {d d' : Dsk} {v : Value} {fl : Nat → Option Page} (h : DskAt n₀ w B d bl bn v fl) (hg : w.grownBy w' (some B)) (hc : w'.heap[B]? = some (.cells (dskCells d' bl bn v) 72 (0, 0)))
    (ok : d'.Ok) (h1 : d'.lasts = d.lasts) (h2 : d'.waits = d.waits) : DskAt n₀ w' B d' bl bn v fl := by
  have hr : d'.room = d.room := by unfold Dsk.room; rw [h1]
  refine ⟨ok, hc, h.last.kept hg (fun e => h.ne_l (Option.some.inj e).symm), by rw [h2]; exact h.news.kept hg (fun e => h.ne_n (Option.some.inj e).symm), ?_, h.lo, h.ne, by rw [hr, h1]; exact h.fl_lo, by rw [hr]; exact h.fl_hi⟩
  rw [h2]
  exact World.ownsRow.kept h.row hg (.inr h.ne_v.1)
theorem Keeps.disk {n₀ : Nat} {w w' : World} {B bl bn : Nat} {d : Dsk} {v : Value} {fl : Nat → Option Page} (h : DskAt n₀ w B d bl bn v fl) (hg : w.grownBy w' (some B)) : Keeps n₀ w w' :=
  Keeps.of_grown hg h.lo.1 h.n_le (fun cs t fr hk => by rw [h.cells] at hk; cases hk; exact .inl rfl)

theorem armed_grown (w : World) (B : Nat) (k l : Value) (b : Value) : w.grownBy (((w.setCell ⟨B, 0, none⟩ k).setCell ⟨B, 1, none⟩ l).setCell ⟨B, 2, none⟩ b) (some B) :=
  ((World.grownBy.andThen (grownBy_cell w ⟨B, 0, none⟩ k) (grownBy_cell _ ⟨B, 1, none⟩ l) (fun _ e => .inr e)).andThen (grownBy_cell _ ⟨B, 2, none⟩ b) (fun _ e => .inr e))
theorem DskAt.armed {n₀ : Nat} {w : World} {B bl bn : Nat} {d : Dsk} {v : Value} {fl : Nat → Option Page} (h : DskAt n₀ w B d bl bn v fl) (k l : Nat) (b : Bool) (ok : ({ d with kind := k, left := l, dead := b } : Dsk).Ok) :
    DskAt n₀ (((w.setCell ⟨B, 0, none⟩ (.int .i64 k)).setCell ⟨B, 1, none⟩ (.int .i64 l)).setCell ⟨B, 2, none⟩ (.bool b)) B { d with kind := k, left := l, dead := b } bl bn v fl := by
  refine h.recells (armed_grown w B _ _ _) ?_ ok rfl rfl
  have h0 := heap_setCell_same w B 0 _ _ (.int .i64 k) h.cells
  have h1 := heap_setCell_same _ B 1 _ _ (.int .i64 l) h0
  have h2 := heap_setCell_same _ B 2 _ _ (.bool b) h1
  rw [h2]
  rfl
/-- What the operations of refuse's first statement yield. -/
def RefuseSp (B kind no : Nat) : Nat → Value → World → Prop
  | 0, v, w => ∃ m, v = .map (some m) ∧ IntMap Try.prog 37 w m refF
  | 5, v, _ => v = .int .i64 kind
  | 6, v, _ => v = .int .i64 no
  | 7, v, _ => v = .int .i64 no
  | _, v, _ => v = ptr B
theorem RefuseSp.below {B kind no : Nat} {w w' : World} (hb : Below w.heap.size w w') : ∀ j u, RefuseSp B kind no j u w → RefuseSp B kind no j u w' := by
  intro j u h
  unfold RefuseSp at h ⊢
  split at h
  · obtain ⟨m, e, hm⟩ := h; exact ⟨m, e, hm.below hb hm.lt⟩
  all_goals exact h
theorem refF_at {k : Nat} (hk : k = 1 ∨ k = 2) : refF k = some (.int .i64 (if k = 1 then 120 else 121 : Nat)) := by
  rcases hk with rfl | rfl <;> rfl
theorem zero26 (w : World) : (zeroValue 26).run Try.prog w = .ok (.int .i64 0) w := by kernel_rfl

set_option maxRecDepth 100000 in
set_option maxHeartbeats 1000000 in
/-- refuse: of a disk that is armed. -/
theorem refuse_disk {n₀ : Nat} {w : World} {B : Nat} {d : Dsk} (h : IsDisk n₀ w B d) (hk : d.kind = 1 ∨ d.kind = 2) :
    Calls Try.prog 49 #[ptr B] w fun e w' =>
      e = .returned (.int .i64 (if d.kind = 1 then 120 else 121 : Nat)) ∧ IsDisk n₀ w' B { d with kind := 0, left := 0, dead := decide (d.kind = 1) } ∧ Keeps n₀ w w' := by
  obtain ⟨bl, bn, v, fl, h⟩ := h
  obtain ⟨no, hno⟩ : ∃ no : Nat, (if d.kind = 1 then 120 else 121 : Nat) = no := ⟨_, rfl⟩
  have hno2 : decide (d.kind = 1) = ((no : Int) == 120) := by
    rcases hk with e | e <;> simp [e] at hno <;> subst hno <;> simp [e]
  rw [hno, hno2]
  have HK := Lib.hid hk
  have HNO := Lib.hid hno
  clear hk hno hno2
  go_enter Try.func49, Try.ntmps49
  go_wp2_with fail
  refine wp_region_l (fun _ w' => Below w.heap.size w w') (RefuseSp B d.kind no) (by kernel_rfl) (by kernel_rfl) (by kernel_rfl) (by kernel_rfl) (Below.refl _ _).drew ?step ?fin
  case step =>
    intro i o ho listed a w' hI hn hpre
    have hb := hI.inv
    have hD := h.below hb
    have hi : i < 8 := (Array.getElem?_eq_some_iff.1 ho).1
    match i, hi with
    | 0, _ =>
      cases ho
      refine wpOp_call rfl rfl (f := 42) (args := #[]) (by simp [execOp, go_sem]) ((refusals_any w').mono ?_)
      rintro e w'' ⟨rfl, hm, hb2⟩
      exact ⟨_, rfl, _, rfl, hb.trans (hb2.mono hb.size), fun _ => ⟨_, rfl, hm⟩, fun j u _ h => RefuseSp.below hb2 j u h⟩
    | 1, _ => exact wpOp_val ho (by cases ho; rfl) (by cases ho; rfl) ⟨_, rfl, hb, fun _ => hI.kept (t := 0) (by kernel_rfl), fun _ _ _ h => h⟩
    | 2, _ =>
      cases ho
      exact wpOp_nilCheck rfl rfl rfl (hI.slot 1 5 rfl (hpre ⟨1, .data⟩ (by simp) rfl) rfl) ⟨_, rfl, hb, fun _ => rfl, fun _ _ _ h => h⟩
    | 3, _ =>
      cases ho
      exact wpOp_field rfl rfl rfl (hI.slot 2 6 rfl (hpre ⟨2, .data⟩ (by simp) rfl) rfl) (field58_0 B w') ⟨_, rfl, hb, fun _ => rfl, fun _ _ _ h => h⟩
    | 4, _ =>
      cases ho
      exact wpOp_field rfl rfl rfl (hI.slot 3 7 rfl (hpre ⟨3, .data⟩ (by simp) rfl) rfl) (field54_0 B w') ⟨_, rfl, hb, fun _ => rfl, fun _ _ _ h => h⟩
    | 5, _ =>
      cases ho
      exact wpOp_load rfl rfl rfl (hI.slot 4 8 rfl (hpre ⟨4, .data⟩ (by simp) rfl) rfl) (load_cell (Try.isAgg37 w') (hD.cell 0)) ⟨_, rfl, hb, fun _ => rfl, fun _ _ _ h => h⟩
    | 6, _ =>
      cases ho
      obtain ⟨m, e, hm⟩ := hI.slot 0 4 rfl (hpre ⟨0, .data⟩ (by simp) rfl) rfl
      have e2 : a.eval (.tmp 9) = .int .i64 d.kind := hI.slot 5 9 rfl (hpre ⟨5, .data⟩ (by simp) rfl) rfl
      have hl := hm.look Try.underlying37 Try.underlying92 zero26 d.kind (by rcases HK.out with e | e <;> omega) false
      rw [refF_at HK.out, HNO.out] at hl
      exact wpOp_look rfl rfl rfl e e2 hl ⟨_, rfl, hb, fun _ => rfl, fun _ _ _ h => h⟩
    | 7, _ =>
      cases ho
      exact wpOp_move rfl rfl (.inr rfl) (hI.slot 6 10 rfl (hpre ⟨6, .data⟩ (by simp) rfl) rfl) ⟨_, rfl, hb, fun _ => rfl, fun _ _ _ h => h⟩
  case fin =>
    intro listed a w' hI hall
    have hb := hI.inv
    have hD := h.below hb
    have e3 : a.eval (.tmp 3) = .int .i64 no := hI.slot 7 3 rfl (hall 7 (by decide)) rfl
    have e0 : a.eval (.tmp 0) = ptr B := hI.kept (t := 0) (by kernel_rfl)
    rcases a with ⟨T, D⟩
    obtain rfl : D = [] := hI.defers
    obtain ⟨t0, t1, t2, t3, t4, t5, t6, t7, t8, t9, t10, t11, t12, t13, t14, t15, t16, t17, rfl⟩ := frame18 hI.len
    obtain rfl : t3 = .int .i64 no := e3
    obtain rfl : t0 = ptr B := e0
    clear hI hall
    have c0 := hD.cell 0
    have c1 := hD.cell 1
    have c2 := hD.cell 2
    have f0 := hD.frozen 0
    have f1 := hD.frozen 1
    have f2 := hD.frozen 2
    simp only [dskCells, List.getElem?_toArray, List.getElem?_cons_zero, List.getElem?_cons_succ] at c0 c1 c2
    go_wp2
    go_ret
    have hok := hD.ok
    refine ⟨rfl, ⟨bl, bn, v, fl, hD.armed 0 0 (((no : Int) == 120)) ⟨hok.lo, hok.hi, hok.len, hok.wait, by simp, fun _ => rfl, fun _ => rfl, by simp⟩⟩, ?_⟩
    exact (Keeps.of_below hb h.n_le).trans (Keeps.disk hD (armed_grown w' B _ _ _))
end Go.Proofs.Ytkophpipehdkmaa
