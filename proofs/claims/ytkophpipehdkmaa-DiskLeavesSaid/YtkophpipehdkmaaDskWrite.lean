/- Layer 2: Write. -/
import Derived.Test.YtkophpipehdkmaaDskWrite1
namespace Go.Proofs.Ytkophpipehdkmaa
open Go.RowKit

set_option maxRecDepth 100000 in
set_option maxHeartbeats 1000000 in
theorem write_len {n₀ : Nat} {w : World} {B : Nat} {d : Dsk} (h : IsDisk n₀ w B d) (p : Int) (a : Option Addr) (n cap : Nat) (hne : n ≠ 256) :
    Calls Try.prog 19 #[ptr B, .int .i64 p, .slice a n cap] w fun e w' => e = .returned (.int .i64 2) ∧ Below w.heap.size w w' := by
  obtain ⟨w3, hw3⟩ : ∃ w3, ((w.alloc (.cells #[ptr B] 25)).alloc (.cells #[.int .i64 p] 3)).alloc (.cells #[.slice a n cap] 31) = w3 := ⟨_, rfl⟩
  have hb : Below w.heap.size w w3 := by subst hw3; exact (((Below.refl _ w).alloc (Nat.le_refl _) _).alloc (by simp) _).alloc (by simp; omega) _
  have ht := there_disk (h.below hb)
  rw [← hw3] at ht hb
  have hne' : ((n : Int) != 256) = true := by simp; omega
  clear hw3
  go_enter Try.func19, Try.ntmps19
  go_wp2_with (go_at_call 26; refine ht.mono ?_; rintro e w' ⟨rfl, rfl⟩)
  go_ret
  exact ⟨rfl, hb⟩
set_option maxRecDepth 100000 in
set_option maxHeartbeats 1000000 in
theorem write_range {n₀ : Nat} {w : World} {B : Nat} {d : Dsk} (h : IsDisk n₀ w B d) (p : Int) (a : Option Addr) (cap : Nat) (hp : ¬(0 ≤ p ∧ p < d.room)) :
    Calls Try.prog 19 #[ptr B, .int .i64 p, .slice a 256 cap] w fun e w' => e = .returned (.int .i64 4) ∧ Below w.heap.size w w' := by
  obtain ⟨w3, hw3⟩ : ∃ w3, ((w.alloc (.cells #[ptr B] 25)).alloc (.cells #[.int .i64 p] 3)).alloc (.cells #[.slice a 256 cap] 31) = w3 := ⟨_, rfl⟩
  have hb : Below w.heap.size w w3 := by subst hw3; exact (((Below.refl _ w).alloc (Nat.le_refl _) _).alloc (by simp) _).alloc (by simp; omega) _
  have ht := there_disk (h.below hb)
  have hh := has_disk (h.below hb) p false (by simpa using hp)
  rw [← hw3] at ht hb hh
  clear hw3 hp
  go_enter Try.func19, Try.ntmps19
  go_wp2_with (first
    | (go_at_call 26; refine ht.mono ?_; rintro e w' ⟨rfl, rfl⟩)
    | (go_at_call 27; refine hh.mono ?_; rintro e w' ⟨rfl, rfl⟩))
  go_ret
  exact ⟨rfl, hb⟩
set_option maxRecDepth 100000 in
set_option maxHeartbeats 1000000 in
theorem write_step {n₀ : Nat} {w : World} {B : Nat} {d : Dsk} (h : IsDisk n₀ w B d) (hf : d.Few 2147483648) (p : Nat) (hp : p < d.room) (b off cap : Nat) (l : Page) (hl : Bytes256 w b off l) :
    Calls Try.prog 19 #[ptr B, .int .i64 p, .slice (some ⟨b, off, none⟩) 256 cap] w fun e w' => e = .returned (.int .i64 (d.write p l).2) ∧ IsDisk n₀ w' B (d.write p l).1 ∧ Keeps n₀ w w' := by
  obtain ⟨w3, hw3⟩ : ∃ w3, ((w.alloc (.cells #[ptr B] 25)).alloc (.cells #[.int .i64 p] 3)).alloc (.cells #[.slice (some ⟨b, off, none⟩) 256 cap] 31) = w3 := ⟨_, rfl⟩
  have hb : Below w.heap.size w w3 := by subst hw3; exact (((Below.refl _ w).alloc (Nat.le_refl _) _).alloc (by simp) _).alloc (by simp; omega) _
  have h3 := h.below hb
  have ht := there_disk h3
  have hh := has_disk h3 p true (by simp; omega)
  have hd : w3.heap[w.heap.size]? = some (box 25 (ptr B)) := by
    subst hw3
    rw [Below.heap_alloc _ _ _ (by simp; omega), Below.heap_alloc _ _ _ (by simp)]; exact heap_alloc_last w _
  have hg : w3.heap[w.heap.size + 1]? = some (box 3 (.int .i64 p)) := by
    subst hw3
    rw [Below.heap_alloc _ _ _ (by simp)]
    have := heap_alloc_last (w.alloc (.cells #[ptr B] 25)) (.cells #[.int .i64 p] 3)
    rwa [World.size_alloc] at this
  have hbb : w3.heap[w.heap.size + 1 + 1]? = some (box 31 (.slice (some ⟨b, off, none⟩) 256 cap)) := by
    subst hw3
    have := heap_alloc_last ((w.alloc (.cells #[ptr B] 25)).alloc (.cells #[.int .i64 p] 3)) (.cells #[.slice (some ⟨b, off, none⟩) 256 cap] 31)
    simpa using this
  have hl3 := hl.below hb
  have hs := step_write h3 #[ptr (w.heap.size + 1), ptr (w.heap.size + 1 + 1), ptr w.heap.size] { d with left := d.left - (if d.kind = 0 then 0 else 1), waits := d.waits ++ [(p, l)] } hf.2 rfl
    (fun w1 hK hD => write1_any hD hp hf.1 (hK.cells _ _ _ _ hg (by decide) (by decide)) (hK.cells _ _ _ _ hbb (by decide) (by decide)) (hK.cells _ _ _ _ hd (by decide) (by decide)) (hl3.keeps hK))
  have hwr : d.write p l = (if d.step.2 = 0 then ({ d.step.1 with waits := d.waits ++ [(p, l)] }, 0) else d.step) := by
    unfold Dsk.write
    rw [if_neg (by rw [hl.len]; simp), if_neg (by omega), Int.toNat_natCast]
  have hst : d.step.2 = 0 → d.step.1 = { d with left := d.left - (if d.kind = 0 then 0 else 1), steps := d.steps + 1 } := by
    intro h0
    unfold Dsk.step at h0 ⊢
    split at h0
    · cases h0
    · rename_i hd0
      rw [if_neg hd0]
      split at h0
      · split at h0 <;> cases h0
      · rename_i hk0
        rw [if_neg hk0]
  have e1 : (if d.step.2 = 0 then { ({ d with left := d.left - (if d.kind = 0 then 0 else 1), waits := d.waits ++ [(p, l)] } : Dsk) with steps := d.steps + 1 } else d.step.1) = (d.write p l).1 := by
    rw [hwr]
    by_cases h0 : d.step.2 = 0
    · rw [if_pos h0, if_pos h0, hst h0]
    · rw [if_neg h0, if_neg h0]
  have e2 : d.step.2 = (d.write p l).2 := by
    rw [hwr]
    by_cases h0 : d.step.2 = 0
    · rw [if_pos h0, h0]
    · rw [if_neg h0]
  rw [e1, e2] at hs
  generalize d.write p l = r at hs ⊢
  clear e1 e2 hwr hst
  rw [← hw3] at ht hb hh hs
  have HS := Lib.hid hs
  have HF := Lib.hid h.n_le
  clear hw3 hs hd hg hbb hl3 h3 hp hf hl
  go_enter Try.func19, Try.ntmps19
  go_wp2_with (first
    | (go_at_call 26; refine ht.mono ?_; rintro e w' ⟨rfl, rfl⟩)
    | (go_at_call 27; refine hh.mono ?_; rintro e w' ⟨rfl, rfl⟩)
    | (go_at_call 38; refine HS.out.mono ?_; rintro e w' ⟨rfl, hD, hK⟩))
  go_ret
  exact ⟨rfl, hD, (Keeps.of_below hb HF.out).trans hK⟩
/-- The bytes that Write is handed: where there are just 256 of them they lie in a block that is no disk's. -/
def Handed (w : World) (a : Option Addr) (n : Nat) (l : List UInt8) : Prop := l.length = n ∧ (n = 256 → ∃ b off, a = some ⟨b, off, none⟩ ∧ Bytes256 w b off l)
theorem Handed.below {w w' : World} {a : Option Addr} {n : Nat} {l : List UInt8} (h : Handed w a n l) (hb : Below w.heap.size w w') : Handed w' a n l := ⟨h.1, fun e => by
  obtain ⟨b, off, ha, hl⟩ := h.2 e; exact ⟨b, off, ha, hl.below hb⟩⟩
theorem Handed.keeps {n₀ : Nat} {w w' : World} {a : Option Addr} {n : Nat} {l : List UInt8} (h : Handed w a n l) (hb : Keeps n₀ w w') : Handed w' a n l := ⟨h.1, fun e => by
  obtain ⟨b, off, ha, hl⟩ := h.2 e; exact ⟨b, off, ha, hl.keeps hb⟩⟩
/-- Write, whatever it is handed. -/
theorem write_disk {n₀ : Nat} {w : World} {B : Nat} {d : Dsk} (h : IsDisk n₀ w B d) (hf : d.Few 2147483648) (p : Int) (a : Option Addr) (n cap : Nat) (l : List UInt8) (hl : Handed w a n l) :
    Calls Try.prog 19 #[ptr B, .int .i64 p, .slice a n cap] w fun e w' => e = .returned (.int .i64 (d.write p l).2) ∧ IsDisk n₀ w' B (d.write p l).1 ∧ Keeps n₀ w w' := by
  obtain ⟨hln, ha⟩ := hl
  by_cases h1 : n = 256
  · subst h1
    obtain ⟨b, off, rfl, hb⟩ := ha rfl
    by_cases h2 : 0 ≤ p ∧ p < d.room
    · obtain ⟨q, rfl⟩ := Int.eq_ofNat_of_zero_le h2.1
      exact write_step h hf q (by omega) b off cap l hb
    · refine (write_range h p _ cap h2).mono fun e w' ⟨he, hb⟩ => ?_
      unfold Dsk.write
      rw [if_neg (by rw [hln]; simp), if_pos h2]
      exact ⟨he, h.below hb, Keeps.of_below hb h.n_le⟩
  · refine (write_len h p a n cap h1).mono fun e w' ⟨he, hb⟩ => ?_
    unfold Dsk.write
    rw [if_pos (by rw [hln]; exact h1)]
    exact ⟨he, h.below hb, Keeps.of_below hb h.n_le⟩
end Go.Proofs.Ytkophpipehdkmaa
