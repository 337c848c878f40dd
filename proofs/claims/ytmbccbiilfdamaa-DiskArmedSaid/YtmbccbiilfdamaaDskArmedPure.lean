/- Layer 2: an armed disk behind so many tries, as plain data. -/
import Derived.Test.YtmbccbiilfdamaaDskPure
namespace Go.Proofs.Ytmbccbiilfdamaa

/-- What the i-th try of a disk that was armed for s steps is answered. -/
def wantOf (stop : Bool) (s i : Nat) : Nat := if i = s then (if stop = true then 120 else 121) else if stop = true ∧ s < i then 120 else 0
structure ArmedAt (stop : Bool) (s i : Nat) (d : Dsk) : Prop where
  ok : d.Ok
  few : d.Few i
  room : d.room = 4
  soon : i ≤ s → d.kind = (if stop = true then 1 else 2) ∧ d.left = s - i ∧ d.dead = false ∧ d.steps = i
  late : s < i → d.kind = 0 ∧ d.left = 0 ∧ d.dead = stop ∧ d.steps = (if stop = true then s else i - 1)
theorem step_done {d : Dsk} (h : d.dead = false) (hn : ¬(d.kind ≠ 0 ∧ d.left = 0)) : d.step = ({ d with left := d.left - (if d.kind = 0 then 0 else 1), steps := d.steps + 1 }, 0) := by
  unfold Dsk.step
  rw [if_neg (by rw [h]; simp), if_neg hn]
theorem ArmedAt.step {stop : Bool} {s i : Nat} {d : Dsk} (h : ArmedAt stop s i d) : d.step.2 = wantOf stop s i ∧ d.step.1.room = 4 ∧
    (i + 1 ≤ s → d.step.1.kind = (if stop = true then 1 else 2) ∧ d.step.1.left = s - (i + 1) ∧ d.step.1.dead = false ∧ d.step.1.steps = i + 1) ∧
    (s < i + 1 → d.step.1.kind = 0 ∧ d.step.1.left = 0 ∧ d.step.1.dead = stop ∧ d.step.1.steps = (if stop = true then s else i + 1 - 1)) := by
  have hr : d.step.1.room = 4 := by
    have := h.ok.step.2.1
    unfold Dsk.room at *
    rw [this]; exact h.room
  have e4 := h.room
  by_cases hi : i ≤ s
  · obtain ⟨h1, h2, h3, h4⟩ := h.soon hi
    have hk : d.kind ≠ 0 := by rw [h1]; split <;> omega
    by_cases he : i = s
    · subst he
      cases stop <;> simp_all [Dsk.step, wantOf]
    · have hl : d.left ≠ 0 := by omega
      have hlt : ¬ s < i + 1 := by omega
      rw [step_done h3 (fun hh => hl hh.2)]
      refine ⟨?_, e4, fun _ => ⟨h1, ?_, h3, ?_⟩, fun hh => absurd hh hlt⟩
      · show 0 = wantOf stop s i
        unfold wantOf; rw [if_neg he, if_neg (by omega)]
      · show d.left - (if d.kind = 0 then 0 else 1) = _
        rw [if_neg hk]; omega
      · show d.steps + 1 = _
        omega
  · obtain ⟨h1, h2, h3, h4⟩ := h.late (by omega)
    have hne : i ≠ s := by omega
    have hsi : s < i := by omega
    cases stop
    · rw [step_done h3 (fun hh => hh.1 h1)]
      refine ⟨?_, e4, fun hh => absurd hh (by omega), fun _ => ⟨h1, ?_, h3, ?_⟩⟩
      · show 0 = wantOf false s i
        unfold wantOf; rw [if_neg hne, if_neg (by simp)]
      · show d.left - _ = 0
        rw [h2, Nat.zero_sub]
      · show d.steps + 1 = i + 1 - 1
        have h4' : d.steps = i - 1 := h4
        omega
    · have e : d.step = (d, 120) := by unfold Dsk.step; rw [if_pos h3]
      rw [e]
      refine ⟨?_, e4, fun hh => absurd hh (by omega), fun _ => ⟨h1, h2, h3, h4⟩⟩
      show 120 = wantOf true s i
      unfold wantOf; rw [if_neg hne, if_pos ⟨rfl, hsi⟩]
theorem ArmedAt.flush {stop : Bool} {s i : Nat} {d : Dsk} (h : ArmedAt stop s i d) : d.flush.2 = wantOf stop s i ∧ ArmedAt stop s (i + 1) d.flush.1 := by
  obtain ⟨h1, h2, h3, h4⟩ := h.step
  have hok := h.ok.flush
  have hfew := h.few.flush h.ok
  have hlen : (applied d.lasts d.waits).length = 4 := by rw [applied_len]; exact h.room
  unfold Dsk.flush at *
  split at hok
  · rename_i he
    rw [if_pos he] at hfew ⊢
    exact ⟨by rw [← h1, he], hok, hfew, hlen, h3, h4⟩
  · rename_i he
    rw [if_neg he] at hfew ⊢
    exact ⟨h1, hok, hfew, h2, h3, h4⟩
theorem ArmedAt.write {stop : Bool} {s i : Nat} {d : Dsk} (h : ArmedAt stop s i d) (p : Int) (hp : 0 ≤ p ∧ p < 4) (b : List UInt8) (hb : b.length = 256) : (d.write p b).2 = wantOf stop s i ∧ ArmedAt stop s (i + 1) (d.write p b).1 := by
  obtain ⟨h1, h2, h3, h4⟩ := h.step
  have hok := h.ok.write p b
  have hfew := h.few.write h.ok p b
  have hr := h.room
  unfold Dsk.write at *
  rw [if_neg (by rw [hb]; simp), if_neg (by rw [hr]; simp; omega)] at hok hfew ⊢
  split at hok
  · rename_i he
    rw [if_pos he] at hfew ⊢
    exact ⟨by rw [← h1, he], hok, hfew, h2, h3, h4⟩
  · rename_i he
    rw [if_neg he] at hfew ⊢
    exact ⟨h1, hok, hfew, h2, h3, h4⟩
theorem ArmedAt.start {stop : Bool} {s : Nat} (hs : s ≤ 30) : ((Dsk.new 4).arm (if stop = true then 1 else 2) s).2 = 0 ∧ ArmedAt stop s 0 ((Dsk.new 4).arm (if stop = true then 1 else 2) s).1 := by
  have hok := (Dsk.Ok.new (n := 4) (by omega) (by omega)).arm (if stop = true then 1 else 2) s (by omega)
  have hfew := (Dsk.Few.new 4).arm (if stop = true then 1 else 2) s
  cases stop
  · exact ⟨rfl, hok, hfew, rfl, fun _ => ⟨rfl, rfl, rfl, rfl⟩, fun h => by omega⟩
  · exact ⟨rfl, hok, hfew, rfl, fun _ => ⟨rfl, rfl, rfl, rfl⟩, fun h => by omega⟩
end Go.Proofs.Ytmbccbiilfdamaa
