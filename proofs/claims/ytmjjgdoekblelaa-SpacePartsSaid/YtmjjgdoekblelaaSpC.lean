/- Layer 7: Give, Copy. -/
import Derived.Test.YtmjjgdoekblelaaSpB
namespace Go.Proofs.Ytmjjgdoekblelaa
open Go.RowKit Go.Maps

def Spc.give (s : Spc) (p : Int) : Spc × Nat := if s.is p = 2 then ({ s with now := plPut s.now p.toNat 4 }, 0) else if s.is p = 1 then ({ s with now := plPut s.now p.toNat 3 }, 0) else (s, 171)
theorem isP_pos {h : Nat} {now : Pl} {p : Int} (hp : isP h now p ≠ 0) : ∃ k : Nat, p = k ∧ 2 ≤ k ∧ k < h := by
  unfold isP at hp
  split at hp
  · exact ⟨p.toNat, by omega, by omega, by omega⟩
  · exact absurd rfl hp
theorem Spc.Ok.put {s : Spc} (h : s.Ok) {k q : Nat} (h2 : 2 ≤ k) (hk : k < s.high) (hq : q = 2 ∨ q = 3 ∨ q = 4) : ({ s with now := plPut s.now k q } : Spc).Ok :=
  ⟨h.most_hi, h.lo, h.lh, h.hi, fun j p hj => by
    simp only [plPut] at hj
    split at hj
    · cases hj; subst_vars; exact ⟨h2, hk, hq⟩
    · exact h.now_ j p hj, h.last_⟩
theorem Spc.Ok.give {s : Spc} (h : s.Ok) (p : Int) : (s.give p).1.Ok := by
  unfold Spc.give
  split
  · rename_i e
    obtain ⟨k, rfl, h2, hk⟩ := isP_pos (h := s.high) (now := s.now) (p := p) (by unfold Spc.is at e; omega)
    exact h.put h2 hk (.inr (.inr rfl))
  · split
    · rename_i e
      obtain ⟨k, rfl, h2, hk⟩ := isP_pos (h := s.high) (now := s.now) (p := p) (by unfold Spc.is at e; omega)
      exact h.put h2 hk (.inr (.inl rfl))
    · exact h
set_option maxRecDepth 100000 in
theorem give_any {w : World} {B bl bp : Nat} {s : Spc} (h : SpAt w B bl bp s) (p : Int) :
    Calls Try.prog 22 #[ptr B, .int .i64 p] w fun e w' => e = .returned (.int .i64 (s.give p).2) ∧ SpAt w' B bl bp (s.give p).1 ∧ Beside [bp] w w' := by
  have ht := there_yes h.row h.pos
  have hi := is_yes h.row h.pos h.now p (Nat.le_trans h.ok.hi h.ok.most_hi)
  have hok := h.ok.give p
  obtain ⟨-, -, -, -, c4, -⟩ := h.row.all
  have e : isP s.high s.now p = s.is p := rfl
  rw [e] at hi
  clear e
  by_cases e2 : s.is p = 2
  · obtain ⟨k, rfl, h2, hk⟩ := isP_pos (h := s.high) (now := s.now) (p := p) (by unfold Spc.is at e2; omega)
    have hg : s.give k = ({ s with now := plPut s.now k 4 }, 0) := by unfold Spc.give; rw [if_pos e2]; rfl
    rw [hg] at hok ⊢
    rw [e2] at hi
    have hk4 : k < 4096 := by have := h.ok.hi; have := h.ok.most_hi; omega
    have HN := Lib.hid h.now
    have HG := Lib.hid hg
    clear hg e2
    go_enter Try.func22, Try.ntmps22
    go_wp2_with (first
      | (go_at_call 25; refine ht.mono ?_; rintro e w' ⟨rfl, rfl⟩)
      | (go_at_call 9; refine hi.mono ?_; rintro e w' ⟨rfl, rfl⟩)
      | (refine wpList_update rfl _ _ _ rfl Try.underlying2 Try.underlying55 HN.out rfl k hk4 rfl ?_; intro w2 hM2 hG2))
    go_ret
    refine ⟨rfl, ⟨hok, ?_, ?_, ?_, h.ne⟩, (Beside.refl _ _).grown hG2 (fun j e => by cases e; exact .inl (by simp))⟩
    · exact (hG2.block B h.row.lt (fun e => h.row.ne_map h.now (Option.some.inj e))).trans h.row
    · exact h.last.kept hG2 (fun e => h.ne (Option.some.inj e))
    · have := hM2; rw [show (Act.eval _ _ : Value) = .int .i64 ((4 : Nat) : Int) from rfl, plV_put] at this; exact this
  · by_cases e1 : s.is p = 1
    · obtain ⟨k, rfl, h2, hk⟩ := isP_pos (h := s.high) (now := s.now) (p := p) (by unfold Spc.is at e1; omega)
      have hg : s.give k = ({ s with now := plPut s.now k 3 }, 0) := by unfold Spc.give; rw [if_neg e2, if_pos e1]; rfl
      rw [hg] at hok ⊢
      rw [e1] at hi
      have hk4 : k < 4096 := by have := h.ok.hi; have := h.ok.most_hi; omega
      have HN := Lib.hid h.now
      have HG := Lib.hid hg
      clear hg e2 e1
      go_enter Try.func22, Try.ntmps22
      go_wp2_with (first
        | (go_at_call 25; refine ht.mono ?_; rintro e w' ⟨rfl, rfl⟩)
        | (go_at_call 9; refine hi.mono ?_; rintro e w' ⟨rfl, rfl⟩)
        | (refine wpList_update rfl _ _ _ rfl Try.underlying2 Try.underlying55 HN.out rfl k hk4 rfl ?_; intro w2 hM2 hG2))
      go_ret
      refine ⟨rfl, ⟨hok, ?_, ?_, ?_, h.ne⟩, (Beside.refl _ _).grown hG2 (fun j e => by cases e; exact .inl (by simp))⟩
      · exact (hG2.block B h.row.lt (fun e => h.row.ne_map h.now (Option.some.inj e))).trans h.row
      · exact h.last.kept hG2 (fun e => h.ne (Option.some.inj e))
      · have := hM2; rw [show (Act.eval _ _ : Value) = .int .i64 ((3 : Nat) : Int) from rfl, plV_put] at this; exact this
    · have hg : s.give p = (s, 171) := by unfold Spc.give; rw [if_neg e2, if_neg e1]
      rw [hg]
      have q2 : (((s.is p : Nat) : Int) == 2) = false := by simp; omega
      have q1 : (((s.is p : Nat) : Int) == 1) = false := by simp; omega
      generalize s.is p = q at hi q2 q1
      clear hg e2 e1 hok
      go_enter Try.func22, Try.ntmps22
      go_wp2_with (first
        | (go_at_call 25; refine ht.mono ?_; rintro e w' ⟨rfl, rfl⟩)
        | (go_at_call 9; refine hi.mono ?_; rintro e w' ⟨rfl, rfl⟩))
      go_ret
      exact ⟨rfl, h, Beside.refl _ _⟩
set_option maxRecDepth 100000 in
set_option maxHeartbeats 4000000 in
theorem copy_any {w : World} {B bl bp : Nat} {s : Spc} (h : SpAt w B bl bp s) :
    Calls Try.prog 17 #[ptr B] w fun e w' => e = .returned (ptr w.heap.size) ∧ SpAt w' w.heap.size (w.heap.size + 2) (w.heap.size + 1) s ∧ Below w.heap.size w w' := by
  obtain ⟨C, hC⟩ : ∃ C, w.heap.size = C := ⟨_, rfl⟩
  rw [hC]
  have ht := there_yes h.row h.pos
  have r := h.row
  obtain ⟨c0, c1, c2, c3, c4, f0, f1, f3, f4⟩ := r.all
  obtain ⟨W1, hW1⟩ : ∃ W1, w.alloc (.cells (spCells s.lhigh (.map (some bl)) s.most s.high bp) 59) = W1 := ⟨_, rfl⟩
  have hr1 : SpRow W1 C s.lhigh (.map (some bl)) s.most s.high bp := by rw [← hW1, ← hC]; exact (MapKept.heap_alloc w _).1
  have hb1 : Below C w W1 := by rw [← hW1, ← hC]; exact (Below.refl _ w).alloc (Nat.le_refl _) _
  have hs1 : W1.heap.size = C + 1 := by rw [← hW1]; simp [hC]
  have h1 : SpAt W1 B bl bp s := h.below (by rw [hC]; exact hb1)
  have hBC : B < C := by rw [← hC]; exact r.lt
  have hlC : bl < C := by rw [← hC]; exact h.last.lt
  have fin : ∀ w2 w3 : World, IntMap Try.prog 2 w2 (C + 1) (plV s.now) → Below (C + 1) W1.drew w2 → w2.heap.size = C + 2 → IntMap Try.prog 2 w3 (C + 2) (plV s.last) → (Below (C + 2) w2 w3 ∨ Below (C + 2) (w2.setCell ⟨C, 4, none⟩ (.map (some (C + 1)))) w3) → True := fun _ _ _ _ _ _ _ => trivial
  have HW := Lib.hid hW1
  have HS := Lib.hid hs1
  have HC := Lib.hid hC
  have HCL := Lib.hid (show C ≠ bl by omega)
  have HCM := Lib.hid (show C ≠ W1.drew.heap.size by show C ≠ W1.heap.size; omega)
  have tok1 : True := trivial
  clear fin
  go_enter Try.func17, Try.ntmps17
  clear hW1 hs1 hC
  go_wp2_with (go_at_call 25; refine ht.mono ?_; rintro e w' ⟨rfl, rfl⟩)
  have hW1 := HW.out
  simp only [spCells] at hW1
  rw [hW1, HC.out]
  clear hW1
  obtain ⟨e0, e1, e2, e3, e4, -⟩ := h1.row.all
  obtain ⟨-, -, -, -, -, -, g1, -, g4⟩ := hr1.all
  have hcl1 := clone_pl h1.now.drew
  go_region_with (first
    | (have _t := tok1; go_at_call 31; refine hcl1.mono ?_; clear tok1; have tok2 : True := trivial; rintro e w2 ⟨rfl, hm2, hb2, hs2⟩; have hB2 : SpAt w2 B bl bp s := h1.drew.below hb2; have hC2 : SpRow w2 C s.lhigh (.map (some bl)) s.most s.high bp := SpRow.below (w := W1.drew) hr1 hb2 hr1.lt; obtain ⟨-, b1, -⟩ := hB2.row.all; obtain ⟨-, d1, -, -, d4, -, k1, -, k4⟩ := hC2.all)
    | (have _t := tok2; go_at_call 31; refine (clone_pl hB2.last).mono ?_; clear tok2; rintro e w3 ⟨rfl, hm3, hb3, hs3⟩; have hC3 : SpRow w3 C s.lhigh (.map (some bl)) s.most s.high bp := hC2.below hb3 hC2.lt; have hn3 := hm2.below hb3 hm2.lt; have hx3 := Lib.hid hb3; obtain ⟨-, x1, -, -, x4, -, y1, -, y4⟩ := hC3.all)
    | (have _t := tok2; go_at_call 31; refine (clone_pl (hB2.last.setCell ⟨C, 4, none⟩ (.map (some W1.heap.size)) HCL.out)).mono ?_; clear tok2; rintro e w3 ⟨rfl, hm3, hb3, hs3⟩; have hC3 : SpRow w3 C s.lhigh (.map (some bl)) s.most s.high W1.heap.size := SpRow.below (hC2.set4 W1.heap.size) hb3 (by simpa using hC2.lt); have hn3 := (hm2.setCell ⟨C, 4, none⟩ (.map (some W1.heap.size)) HCM.out).below hb3 (by simpa using hm2.lt); have hx3 := Lib.hid hb3; obtain ⟨-, x1, -, -, x4, -, y1, -, y4⟩ := hC3.all))
  all_goals go_wp2_with fail
  all_goals
    go_ret
    have hsz := HS.out
    have q2 : Below C W1 w2 := Below.mono (show Below W1.heap.size W1 w2 from ⟨hb2.os, hb2.tape, hb2.output, hb2.size, hb2.block⟩) (by omega)
    have e2 : w2.heap.size = W1.heap.size + 1 := hs2
    have m3 : IntMap Try.prog 2 w3 (W1.heap.size + 1) (plV s.last) := by have := hm3; first | (rw [e2] at this; exact this) | (rw [show (w2.setCell ⟨C, 4, none⟩ (.map (some W1.heap.size))).heap.size = w2.heap.size by simp [World.setCell], e2] at this; exact this)
    have n3 : IntMap Try.prog 2 w3 W1.heap.size (plV s.now) := hn3
    have eC1 : C + 2 = W1.heap.size + 1 := by omega
    have eC2 : C + 1 = W1.heap.size := by omega
    rw [eC1, eC2]
    first
      | exact ⟨rfl, ⟨h.ok, (hC3.set4 _).set1 _, (m3.setCell _ _ (by show C ≠ _; omega)).setCell _ _ (by show C ≠ _; omega), (n3.setCell _ _ (by show C ≠ _; omega)).setCell _ _ (by show C ≠ _; omega), by omega⟩, (((hb1.trans q2).trans (hx3.out.mono (by omega))).setCell (by show C ≤ C; omega) _).setCell (by show C ≤ C; omega) _⟩
      | exact ⟨rfl, ⟨h.ok, hC3.set1 _, m3.setCell _ _ (by show C ≠ _; omega), n3.setCell _ _ (by show C ≠ _; omega), by omega⟩, (((hb1.trans q2).setCell (by show C ≤ C; omega) _).trans (hx3.out.mono (by simp [World.setCell]; omega))).setCell (by show C ≤ C; omega) _⟩
end Go.Proofs.Ytmjjgdoekblelaa
