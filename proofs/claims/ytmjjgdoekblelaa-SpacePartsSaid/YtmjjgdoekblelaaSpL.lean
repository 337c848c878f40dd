/- Layer 7: the calls in one form; what the law knows. -/
import Derived.Test.YtmjjgdoekblelaaSpK
namespace Go.Proofs.Ytmjjgdoekblelaa
open Go.RowKit Go.Maps

/-- What a call on a space leaves: the space s', in its own blocks or new ones; nothing else has turned. -/
structure SpStep (w w' : World) (B bl bp : Nat) (s' : Spc) (bl' bp' : Nat) : Prop where
  at_ : SpAt w' B bl' bp' s'
  keeps : Beside [B, bl, bp] w w'
  l : bl' = bl ∨ w.heap.size ≤ bl'
  p : bp' = bp ∨ w.heap.size ≤ bp'
def IsStep (w w' : World) (B bl bp : Nat) (s' : Spc) : Prop := ∃ bl' bp', SpStep w w' B bl bp s' bl' bp'
theorem Beside.widen {S S' : List Nat} {w w' : World} (h : Beside S w w') (hs : ∀ j ∈ S, j ∈ S') : Beside S' w w' := ⟨h.os, h.tape, h.output, h.size, fun k hk hn => h.block k hk (fun hm => hn (hs k hm))⟩
theorem take_step {w : World} {B bl bp : Nat} {s : Spc} (h : SpAt w B bl bp s) (v e : Int) (hv : ((s.take.2.1 : Nat) : Int) = v) (he : ((s.take.2.2 : Nat) : Int) = e) :
    Calls Try.prog 10 #[ptr B] w fun en w' => en = .returned (.tuple #[.int .i64 v, .int .i64 e]) ∧ IsStep w w' B bl bp s.take.1 := by
  refine (take_any h).mono ?_
  rintro en w' ⟨rfl, h1, h2⟩
  exact ⟨by rw [hv, he], bl, bp, h1, h2.widen (by simp), .inl rfl, .inl rfl⟩
theorem give_step {w : World} {B bl bp : Nat} {s : Spc} (h : SpAt w B bl bp s) (p e : Int) (he : (((s.give p).2 : Nat) : Int) = e) :
    Calls Try.prog 22 #[ptr B, .int .i64 p] w fun en w' => en = .returned (.int .i64 e) ∧ IsStep w w' B bl bp (s.give p).1 := by
  refine (give_any h p).mono ?_
  rintro en w' ⟨rfl, h1, h2⟩
  exact ⟨by rw [he], bl, bp, h1, h2.widen (by simp), .inl rfl, .inl rfl⟩
theorem lasts_step {w : World} {B bl bp : Nat} {s : Spc} (h : SpAt w B bl bp s) :
    Calls Try.prog 23 #[ptr B] w fun en w' => en = .returned (.int .i64 0) ∧ IsStep w w' B bl bp s.lasts := by
  refine (lasts_any h).mono ?_
  rintro en w' ⟨rfl, bl', hn, h1, h2⟩
  exact ⟨rfl, bl', bp, h1, h2.widen (by simp), .inr hn, .inl rfl⟩
theorem undo_step {w : World} {B bl bp : Nat} {s : Spc} (h : SpAt w B bl bp s) :
    Calls Try.prog 20 #[ptr B] w fun en w' => en = .returned (.int .i64 0) ∧ IsStep w w' B bl bp s.undo := by
  refine (undo_any h).mono ?_
  rintro en w' ⟨rfl, h1, h2⟩
  exact ⟨rfl, bl, w.heap.size, h1, h2.widen (by simp), .inl rfl, .inr (Nat.le_refl _)⟩
theorem is_step {w : World} {B bl bp : Nat} {s : Spc} (h : SpAt w B bl bp s) (p v : Int) (hv : ((s.is p : Nat) : Int) = v) :
    Calls Try.prog 9 #[ptr B, .int .i64 p] w fun en w' => en = .returned (.int .i64 v) ∧ w = w' := by
  subst hv
  exact is_yes h.row h.pos h.now p (Nat.le_trans h.ok.hi h.ok.most_hi)
theorem high_step {w : World} {B bl bp : Nat} {s : Spc} (h : SpAt w B bl bp s) (v : Int) (hv : ((s.high : Nat) : Int) = v) :
    Calls Try.prog 8 #[ptr B] w fun en w' => en = .returned (.int .i64 v) ∧ w = w' := by
  subst hv
  exact high_yes h.row h.pos
/-- A space all of whose blocks the law has made itself. -/
def IsSp (n₀ : Nat) (w : World) (B : Nat) (s : Spc) : Prop := ∃ bl bp, SpAt w B bl bp s ∧ n₀ ≤ B ∧ n₀ ≤ bl ∧ n₀ ≤ bp
theorem IsStep.own {w w' : World} {B bl bp n₀ : Nat} {s' : Spc} (h : IsStep w w' B bl bp s') (h1 : n₀ ≤ B) (h2 : n₀ ≤ bl) (h3 : n₀ ≤ bp) (hn : n₀ ≤ w.heap.size) : IsSp n₀ w' B s' ∧ Below n₀ w w' := by
  obtain ⟨bl', bp', hs⟩ := h
  refine ⟨⟨bl', bp', hs.at_, h1, by rcases hs.l with e | e <;> omega, by rcases hs.p with e | e <;> omega⟩, hs.keeps.below hn (fun k hk => ?_)⟩
  simp only [List.mem_cons, List.not_mem_nil, or_false] at hk
  rcases hk with rfl | rfl | rfl <;> assumption
theorem IsSp.n_le {n₀ : Nat} {w : World} {B : Nat} {s : Spc} (h : IsSp n₀ w B s) : n₀ ≤ w.heap.size := by
  obtain ⟨bl, bp, h, hB, -⟩ := h; exact Nat.le_trans hB (Nat.le_of_lt h.row.lt)
theorem IsSp.mono {n₀ n₁ : Nat} {w : World} {B : Nat} {s : Spc} (h : IsSp n₀ w B s) (hn : n₁ ≤ n₀) : IsSp n₁ w B s := by
  obtain ⟨bl, bp, h, h1, h2, h3⟩ := h; exact ⟨bl, bp, h, by omega, by omega, by omega⟩
theorem IsSp.below {n₀ : Nat} {w w' : World} {B : Nat} {s : Spc} (h : IsSp n₀ w B s) (hb : Below w.heap.size w w') : IsSp n₀ w' B s := by
  obtain ⟨bl, bp, h, h1⟩ := h; exact ⟨bl, bp, h.below hb, h1⟩
theorem take_own {n₀ : Nat} {w : World} {B : Nat} {s : Spc} (h : IsSp n₀ w B s) (v e : Int) (hv : ((s.take.2.1 : Nat) : Int) = v) (he : ((s.take.2.2 : Nat) : Int) = e) :
    Calls Try.prog 10 #[ptr B] w fun en w' => en = .returned (.tuple #[.int .i64 v, .int .i64 e]) ∧ IsSp n₀ w' B s.take.1 ∧ Below n₀ w w' := by
  have hn := h.n_le
  obtain ⟨bl, bp, h, h1, h2, h3⟩ := h
  exact (take_step h v e hv he).mono fun en w' ⟨a, b⟩ => ⟨a, b.own h1 h2 h3 hn⟩
theorem give_own {n₀ : Nat} {w : World} {B : Nat} {s : Spc} (h : IsSp n₀ w B s) (p e : Int) (he : (((s.give p).2 : Nat) : Int) = e) :
    Calls Try.prog 22 #[ptr B, .int .i64 p] w fun en w' => en = .returned (.int .i64 e) ∧ IsSp n₀ w' B (s.give p).1 ∧ Below n₀ w w' := by
  have hn := h.n_le
  obtain ⟨bl, bp, h, h1, h2, h3⟩ := h
  exact (give_step h p e he).mono fun en w' ⟨a, b⟩ => ⟨a, b.own h1 h2 h3 hn⟩
theorem lasts_own {n₀ : Nat} {w : World} {B : Nat} {s : Spc} (h : IsSp n₀ w B s) :
    Calls Try.prog 23 #[ptr B] w fun en w' => en = .returned (.int .i64 0) ∧ IsSp n₀ w' B s.lasts ∧ Below n₀ w w' := by
  have hn := h.n_le
  obtain ⟨bl, bp, h, h1, h2, h3⟩ := h
  exact (lasts_step h).mono fun en w' ⟨a, b⟩ => ⟨a, b.own h1 h2 h3 hn⟩
theorem undo_own {n₀ : Nat} {w : World} {B : Nat} {s : Spc} (h : IsSp n₀ w B s) :
    Calls Try.prog 20 #[ptr B] w fun en w' => en = .returned (.int .i64 0) ∧ IsSp n₀ w' B s.undo ∧ Below n₀ w w' := by
  have hn := h.n_le
  obtain ⟨bl, bp, h, h1, h2, h3⟩ := h
  exact (undo_step h).mono fun en w' ⟨a, b⟩ => ⟨a, b.own h1 h2 h3 hn⟩
theorem is_own {n₀ : Nat} {w : World} {B : Nat} {s : Spc} (h : IsSp n₀ w B s) (p v : Int) (hv : ((s.is p : Nat) : Int) = v) :
    Calls Try.prog 9 #[ptr B, .int .i64 p] w fun en w' => en = .returned (.int .i64 v) ∧ w = w' := by
  obtain ⟨bl, bp, h, -⟩ := h; exact is_step h p v hv
theorem high_own {n₀ : Nat} {w : World} {B : Nat} {s : Spc} (h : IsSp n₀ w B s) (v : Int) (hv : ((s.high : Nat) : Int) = v) :
    Calls Try.prog 8 #[ptr B] w fun en w' => en = .returned (.int .i64 v) ∧ w = w' := by
  obtain ⟨bl, bp, h, -⟩ := h; exact high_step h v hv
/-- New where all may be. -/
theorem new_own (m h : Int) (ao : Option Addr) (l : List Int) (cap : Nat) (hcap : l.length ≤ 9223372036854775807) (w : World) (hl : IntsAt w.heap.size w ao l) (hok : NewOk m h l) :
    Calls Try.prog 7 #[.int .i64 m, .int .i64 h, .slice ao l.length cap] w fun e w' => ∃ B, e = .returned (.tuple #[ptr B, .int .i64 0]) ∧ IsSp w.heap.size w' B (Spc.new m.toNat h.toNat l) ∧ Below w.heap.size w w' := by
  refine (new_any m h ao l cap hcap w hl).mono ?_
  rintro e w' ⟨hb, ⟨-, B, bl, bp, rfl, h1, h2, h3, hs⟩ | ⟨hno, -⟩⟩
  · exact ⟨B, rfl, ⟨bl, bp, hs, h1, h2, h3⟩, hb⟩
  · exact absurd hok hno

def kk0 : Spc := Spc.new 6 4 [3]
def kk1 : Spc := kk0.take.1
def kk2 : Spc := kk1.take.1
def kk3 : Spc := kk2.take.1
def kk4 : Spc := kk3.take.1
def kk5 : Spc := (kk4.give 4).1
def kk6 : Spc := kk5.take.1
def kk7 : Spc := (kk6.give 2).1
def kk8 : Spc := kk7.lasts
theorem kt0 : kk0.take.2 = (3, 0) := by kernel_rfl
theorem kt1 : kk1.take.2 = (4, 0) := by kernel_rfl
theorem kt2 : kk2.take.2 = (5, 0) := by kernel_rfl
theorem kt3 : kk3.take.2 = (0, 170) := by kernel_rfl
theorem kt4 : (kk4.give 4).2 = 0 := by kernel_rfl
theorem kt5 : kk5.take.2 = (4, 0) := by kernel_rfl
theorem kt6 : (kk6.give 2).2 = 0 := by kernel_rfl
theorem kt7 : kk7.is 2 = 3 := by kernel_rfl
theorem kt8 : kk8.is 2 = 4 := by kernel_rfl
theorem kt9 : kk8.high = 6 := by kernel_rfl
theorem kok : NewOk 6 4 [3] := ⟨by decide, by decide, by decide, by decide, by simp, by simp⟩
def KnPost (w : World) (e : Ending) (w' : World) : Prop := e = .returned (.bool true) ∧ Below w.heap.size w w'
set_option maxRecDepth 100000 in
set_option maxHeartbeats 4000000 in
theorem known_any (w : World) : Calls Try.prog 6 #[] w fun e w' => KnPost w e w' := by
  have hi0 : IntsAt (w.alloc (.cells #[.int .i64 3] 2)).heap.size (w.alloc (.cells #[.int .i64 3] 2)) (some ⟨w.heap.size, 0, none⟩) [3] := fun _ => ⟨w.heap.size, 0, rfl, by simp, fun j hj => by
    have hj0 : j = 0 := by simp at hj; omega
    subst hj0
    exact (Boxed.new w _ _).cell⟩
  have hb0 : Below w.heap.size w (w.alloc (.cells #[.int .i64 3] 2)) := (Below.refl _ w).alloc (Nat.le_refl _) _
  have HN := Lib.hid (new_own 6 4 (some ⟨w.heap.size, 0, none⟩) [3] 1 (by simp) _ hi0 kok)
  have HB := Lib.hid hb0
  have k0 : True := trivial
  clear hi0 hb0
  go_enter Try.func6, Try.ntmps6
  go_wp2_with (first
    | (go_at_call 7; refine HN.out.mono ?_; rintro e w0 ⟨B, rfl, hS, hb⟩; have HB0 := Lib.hid (HB.out.trans (hb.mono (by simp))); have hS0 := Lib.hid (hS.mono (n₁ := w.heap.size) (by simp)); clear hS hb k0; have k1 : True := trivial)
    | (have _t := k1; go_at_call 10; refine (take_own (s := kk0) hS0.out 3 0 (by rw [kt0]; rfl) (by rw [kt0]; rfl)).mono ?_; rintro e w1 ⟨rfl, hS, hb⟩; have HB1 := Lib.hid (HB0.out.trans hb); have hS1 := Lib.hid hS; clear hS hb k1 _t; have k2 : True := trivial)
    | (have _t := k2; go_at_call 10; refine (take_own (s := kk1) hS1.out 4 0 (by rw [kt1]; rfl) (by rw [kt1]; rfl)).mono ?_; rintro e w2 ⟨rfl, hS, hb⟩; have HB2 := Lib.hid (HB1.out.trans hb); have hS2 := Lib.hid hS; clear hS hb k2 _t; have k3 : True := trivial)
    | (have _t := k3; go_at_call 10; refine (take_own (s := kk2) hS2.out 5 0 (by rw [kt2]; rfl) (by rw [kt2]; rfl)).mono ?_; rintro e w3 ⟨rfl, hS, hb⟩; have HB3 := Lib.hid (HB2.out.trans hb); have hS3 := Lib.hid hS; clear hS hb k3 _t; have k4 : True := trivial)
    | (have _t := k4; go_at_call 10; refine (take_own (s := kk3) hS3.out 0 170 (by rw [kt3]; rfl) (by rw [kt3]; rfl)).mono ?_; rintro e w4 ⟨rfl, hS, hb⟩; have HB4 := Lib.hid (HB3.out.trans hb); have hS4 := Lib.hid hS; clear hS hb k4 _t; have k5 : True := trivial)
    | (have _t := k5; go_at_call 22; refine (give_own (s := kk4) hS4.out 4 0 (by rw [kt4]; rfl)).mono ?_; rintro e w5 ⟨rfl, hS, hb⟩; have HB5 := Lib.hid (HB4.out.trans hb); have hS5 := Lib.hid hS; clear hS hb k5 _t; have k6 : True := trivial)
    | (have _t := k6; go_at_call 10; refine (take_own (s := kk5) hS5.out 4 0 (by rw [kt5]; rfl) (by rw [kt5]; rfl)).mono ?_; rintro e w6 ⟨rfl, hS, hb⟩; have HB6 := Lib.hid (HB5.out.trans hb); have hS6 := Lib.hid hS; clear hS hb k6 _t; have k7 : True := trivial)
    | (have _t := k7; go_at_call 22; refine (give_own (s := kk6) hS6.out 2 0 (by rw [kt6]; rfl)).mono ?_; rintro e w7 ⟨rfl, hS, hb⟩; have HB7 := Lib.hid (HB6.out.trans hb); have hS7 := Lib.hid hS; clear hS hb k7 _t; have k8 : True := trivial)
    | (have _t := k8; go_at_call 9; refine (is_own (s := kk7) hS7.out 2 3 (by rw [kt7]; rfl)).mono ?_; rintro e w' ⟨rfl, rfl⟩; clear k8 _t; have k9 : True := trivial)
    | (have _t := k9; go_at_call 23; refine (lasts_own (s := kk7) hS7.out).mono ?_; rintro e w8 ⟨rfl, hS, hb⟩; have HB8 := Lib.hid (HB7.out.trans hb); have hS8 := Lib.hid hS; clear hS hb k9 _t; have k10 : True := trivial)
    | (have _t := k10; go_at_call 9; refine (is_own (s := kk8) hS8.out 2 4 (by rw [kt8]; rfl)).mono ?_; rintro e w' ⟨rfl, rfl⟩; clear k10 _t; have k11 : True := trivial)
    | (have _t := k11; go_at_call 8; refine (high_own (s := kk8) hS8.out 6 (by rw [kt9]; rfl)).mono ?_; rintro e w' ⟨rfl, rfl⟩; clear k11 _t))
  go_ret
  exact ⟨rfl, HB8.out⟩
end Go.Proofs.Ytmjjgdoekblelaa
