/- Layer 7: which pages are what, counted; which were kept. -/
import Derived.Test.YtmjjgdoekblelaaSpLa
namespace Go.Proofs.Ytmjjgdoekblelaa
open Go.RowKit

theorem count_both {p q : Nat → Bool} (h : ∀ j, p j = true → q j = false) : ∀ l : List Nat, (l.filter fun j => p j || q j).length = (l.filter p).length + (l.filter q).length
  | [] => rfl
  | a :: l => by
    have ih := count_both h l
    by_cases hp : p a = true
    · rw [List.filter_cons_of_pos (by rw [hp]; rfl), List.filter_cons_of_pos hp, List.filter_cons_of_neg (by rw [h a hp]; decide), List.length_cons, List.length_cons, ih]; omega
    · by_cases hq : q a = true
      · rw [List.filter_cons_of_pos (by rw [hq, Bool.or_true]), List.filter_cons_of_neg hp, List.filter_cons_of_pos hq, List.length_cons, List.length_cons, ih]; omega
      · rw [List.filter_cons_of_neg (by simp [hp, hq]), List.filter_cons_of_neg hp, List.filter_cons_of_neg hq, ih]
/-- How many below n are not kept. -/
def notKept (s : Spc) (n : Nat) : Nat := ((List.range' 2 (n - 2)).filter fun (j : Nat) => isP s.high s.now j != 1).length
theorem notKept_two (s : Spc) {n : Nat} (hn : n ≤ 2) : notKept s n = 0 := by unfold notKept; rw [show n - 2 = 0 by omega]; rfl
theorem notKept_succ (s : Spc) {n : Nat} (hn : 2 ≤ n) : notKept s (n + 1) = notKept s n + if isP s.high s.now (n : Int) = 1 then 0 else 1 := by
  unfold notKept
  rw [show n + 1 - 2 = (n - 2) + 1 by omega, List.range'_concat, List.filter_append, List.length_append, show 2 + 1 * (n - 2) = n by omega]
  congr 1
  by_cases h : isP s.high s.now (n : Int) = 1
  · rw [if_pos h, List.filter_cons_of_neg (by simp [h])]; rfl
  · rw [if_neg h, List.filter_cons_of_pos (by simp [h])]; rfl
theorem notKept_le (s : Spc) (n : Nat) : notKept s n ≤ n - 2 := by
  unfold notKept
  have := List.length_filter_le (fun (j : Nat) => isP s.high s.now j != 1) (List.range' 2 (n - 2))
  rwa [List.length_range'] at this
theorem ofs_len (s : Spc) (ls : List Nat) : (s.of ls).length = ((List.range' 2 (s.high - 2)).filter fun (j : Nat) => ls.contains (isP s.high s.now j)).length := by
  unfold Spc.of; rw [ofL_pgL]
theorem is_some (s : Spc) (h : s.Ok) {j : Nat} (h2 : 2 ≤ j) (hj : j < s.high) : isP s.high s.now (j : Int) = 1 ∨ isP s.high s.now (j : Int) = 2 ∨ isP s.high s.now (j : Int) = 3 ∨ isP s.high s.now (j : Int) = 4 := by
  rw [isP_in h2 hj]
  cases hn : s.now j with
  | none => exact .inl rfl
  | some p =>
    obtain ⟨-, -, hp⟩ := h.now_ j p hn
    simp only [Option.getD_some]
    omega
theorem will_len (s : Spc) : (s.of [4, 3]).length = (s.of [4]).length + (s.of [3]).length := by
  rw [ofs_len, ofs_len, ofs_len, ← count_both (fun j h => by
    have e : isP s.high s.now (j : Int) = 4 := by simpa using h
    rw [e]; decide)]
  congr 1
  refine List.filter_congr fun j _ => ?_
  by_cases h4 : isP s.high s.now (j : Int) = 4 <;> by_cases h3 : isP s.high s.now (j : Int) = 3 <;> simp [h4, h3]
theorem parts_len (s : Spc) (h : s.Ok) : (s.of [4]).length + (s.of [2]).length + (s.of [3]).length = notKept s s.high := by
  unfold notKept
  rw [ofs_len, ofs_len, ofs_len, ← count_both (fun j h => by
    have e : isP s.high s.now (j : Int) = 4 := by simpa using h
    rw [e]; decide), ← count_both (fun j h => by
    have e : isP s.high s.now (j : Int) = 4 ∨ isP s.high s.now (j : Int) = 2 := by simpa using h
    rcases e with e | e <;> rw [e] <;> decide)]
  congr 1
  refine List.filter_congr fun j hj => ?_
  obtain ⟨i, hi, rfl⟩ := List.mem_range'.1 hj
  have := is_some s h (j := 2 + 1 * i) (by omega) (by omega)
  rcases this with e | e | e | e <;> rw [e] <;> decide
/-- A page that was kept when it lasted last, and is not to be taken. -/
def Good (s : Spc) (j : Nat) : Prop := s.last j = none ∧ j < s.lhigh ∧ (s.now j = none ∨ s.now j = some 3)
/-- All that the law took down as kept, up to n or wherever. -/
def Wat (s : Spc) (kf : Nat → Option Bool) (n : Nat) (all : Bool) : Prop := ∀ j, kf j = some true → 2 ≤ j ∧ j < s.high ∧ (all = true ∨ j < n → Good s j)
theorem Wat.not_taken {s : Spc} {kf : Nat → Option Bool} {n : Nat} (h : Wat s kf n true) {k : Nat} (hk : s.taken = some k) : kf k ≠ some true := fun e => by
  obtain ⟨h2, hj, hg⟩ := h k e
  obtain ⟨-, -, h4⟩ := taken_mem hk
  obtain ⟨-, -, hn⟩ := hg (.inl rfl)
  rw [isP_in h2 hj] at h4
  rcases hn with hn | hn <;> rw [hn] at h4 <;> simp at h4
theorem Wat.step {s : Spc} {kf : Nat → Option Bool} {n : Nat} (h : Wat s kf n true) {k p : Int} (hk : k ≠ 3) : Wat (stepS s k p) kf n true := fun j e => by
  obtain ⟨h2, hj, hg⟩ := h j e
  obtain ⟨g1, g2, g3⟩ := hg (.inl rfl)
  unfold stepS
  by_cases e1 : k = 1
  · rw [if_pos e1]
    unfold Spc.take
    cases ht : s.taken with
    | none => exact ⟨h2, hj, fun _ => ⟨g1, g2, g3⟩⟩
    | some q =>
      refine ⟨h2, by show j < max s.high (q + 1); omega, fun _ => ⟨g1, g2, ?_⟩⟩
      show plPut s.now q 2 j = none ∨ plPut s.now q 2 j = some 3
      have : j ≠ q := fun e' => h.not_taken ht (e' ▸ e)
      unfold plPut; rw [if_neg this]; exact g3
  rw [if_neg e1]
  by_cases e2 : k = 2
  · rw [if_pos e2]
    unfold Spc.give
    split
    · rename_i hp
      refine ⟨h2, hj, fun _ => ⟨g1, g2, ?_⟩⟩
      show plPut s.now p.toNat 4 j = none ∨ plPut s.now p.toNat 4 j = some 3
      have : j ≠ p.toNat := fun e' => by
        have hp' : isP s.high s.now p = 2 := hp
        obtain ⟨q, rfl, q2, qh⟩ := isP_pos (h := s.high) (now := s.now) (p := p) (by rw [hp']; decide)
        rw [Int.toNat_natCast] at e'
        subst e'
        rw [isP_in q2 qh] at hp'
        rcases g3 with g | g <;> rw [g] at hp' <;> simp at hp'
      unfold plPut; rw [if_neg this]; exact g3
    split
    · refine ⟨h2, hj, fun _ => ⟨g1, g2, ?_⟩⟩
      show plPut s.now p.toNat 3 j = none ∨ plPut s.now p.toNat 3 j = some 3
      unfold plPut
      split
      · exact .inr rfl
      · exact g3
    · exact ⟨h2, hj, fun _ => ⟨g1, g2, g3⟩⟩
  rw [if_neg e2, if_neg hk]
  by_cases e4 : k = 4
  · rw [if_pos e4]
    exact ⟨h2, g2, fun _ => ⟨g1, g2, .inl g1⟩⟩
  rw [if_neg e4]
  exact ⟨h2, hj, fun _ => ⟨g1, g2, g3⟩⟩
theorem Wat.lasts {s : Spc} {kf : Nat → Option Bool} {n : Nat} (h : Wat s kf n true) : Wat s.lasts kf 2 false := fun j e => by
  obtain ⟨h2, hj, -⟩ := h j e
  exact ⟨h2, hj, fun q => by exact absurd q (by simp; omega)⟩
def kPut (kf : Nat → Option Bool) (n : Nat) (b : Bool) : Nat → Option Bool := fun j => if j = n then some b else kf j
def kV (kf : Nat → Option Bool) : Nat → Option Value := fun j => (kf j).map .bool
theorem kV_put (kf : Nat → Option Bool) (n : Nat) (b : Bool) : putAt (kV kf) n (.bool b) = kV (kPut kf n b) := by
  funext j; unfold putAt kV kPut
  split <;> rfl
theorem Wat.put {s : Spc} (hok : s.Ok) (hl : s.last = s.now) (hh : s.lhigh = s.high) {kf : Nat → Option Bool} {n : Nat} (h : Wat s kf n false) (h2 : 2 ≤ n) (hn : n < s.high) : Wat s (kPut kf n (isP s.high s.now (n : Int) == 1)) (n + 1) false := fun j e => by
  unfold kPut at e
  split at e
  · rename_i ej
    subst ej
    have hp : isP s.high s.now (j : Int) = 1 := by injection e with e; simpa using e
    have hno : s.now j = none := by
      rw [isP_in h2 hn] at hp
      cases hx : s.now j with
      | none => rfl
      | some p =>
        rw [hx] at hp
        have := (hok.now_ j p hx).2.2
        simp at hp; omega
    exact ⟨h2, hn, fun _ => ⟨by rw [hl]; exact hno, by rw [hh]; exact hn, .inl hno⟩⟩
  · obtain ⟨a, b, c⟩ := h j e
    refine ⟨a, b, fun q => ?_⟩
    rcases q with q | q
    · cases q
    · exact c (.inr (by rename_i hne; omega))
theorem Wat.all {s : Spc} {kf : Nat → Option Bool} (h : Wat s kf s.high false) (n : Nat) : Wat s kf n true := fun j e => by
  obtain ⟨a, b, c⟩ := h j e
  exact ⟨a, b, fun _ => c (.inr b)⟩
theorem Wat.none (s : Spc) (n : Nat) (b : Bool) : Wat s (fun _ => Option.none) n b := fun j e => by cases e
theorem stepS_most' (s : Spc) (k p : Int) : (stepS s k p).most = s.most := by
  unfold stepS
  split
  · unfold Spc.take
    cases s.taken <;> rfl
  split
  · unfold Spc.give
    split
    · rfl
    split <;> rfl
  split
  · rfl
  split <;> rfl
theorem eq_one (q : Nat) : (q == 1) = ((q : Int) == 1) := by
  by_cases e : q = 1
  · subst e; rfl
  · have : (q : Int) ≠ 1 := by omega
    rw [beq_eq_false_iff_ne.2 e, beq_eq_false_iff_ne.2 this]
theorem stepS_high {s : Spc} {k p : Int} (hk : k ≠ 4) : s.high ≤ (stepS s k p).high := by
  unfold stepS
  split
  · unfold Spc.take
    cases s.taken with
    | none => exact Nat.le_refl _
    | some q => exact Nat.le_max_left _ _
  split
  · unfold Spc.give
    split
    · exact Nat.le_refl _
    split <;> exact Nat.le_refl _
  split
  · exact Nat.le_refl _
  exact Nat.le_refl _
end Go.Proofs.Ytmjjgdoekblelaa
