/- Layer 7: runs of calls that came in; what lasting and undoing leave, purely. -/
import Derived.Test.YtmjjgdoekblelaaSpP
import Derived.Test.YtmjjgdoekblelaaTwos
namespace Go.Proofs.Ytmjjgdoekblelaa
open Go.ChangeShapes Go.WideShapes Go.RowKit

/-- From the slice's address on lie these calls: Kind, Page. -/
def ActsAt (n₀ : Nat) (W : World) (a : Option Addr) (L : List (Int × Int)) : Prop := L ≠ [] → ∃ b off, a = some ⟨b, off, none⟩ ∧ b < n₀ ∧
  ∀ j, j < L.length → W.cell? ⟨b, off + j * 2, none⟩ = some (.int .i64 (L[j]?.getD (0, 0)).1) ∧ W.cell? ⟨b, off + j * 2 + 1, none⟩ = some (.int .i64 (L[j]?.getD (0, 0)).2)
theorem ActsAt.below {n₀ : Nat} {A B : World} {a : Option Addr} {L : List (Int × Int)} (h : Below n₀ A B) (k : ActsAt n₀ A a L) : ActsAt n₀ B a L := fun hl => by
  obtain ⟨b, off, rfl, hb, hc⟩ := k hl
  exact ⟨b, off, rfl, hb, fun j hj => ⟨(h.cell (p := ⟨b, off + j * 2, none⟩) hb).trans (hc j hj).1, (h.cell (p := ⟨b, off + j * 2 + 1, none⟩) hb).trans (hc j hj).2⟩⟩
section
variable {H : Type} {enc : TypeId × Value → H}
set_option maxRecDepth 100000 in
theorem open_acts {base : Nat} {W : World} {v : Value} {d : DataW H} {ps : List MemPlace} (hok : Value.okWide Try.prog W .any base 24 v) (h : DataW.Trod enc Try.prog W 0 (fun _ => true) true 24 v d ps) :
    ∃ a L cap, v = .slice a (L : List (Int × Int)).length cap ∧ L.length ≤ 9223372036854775807 ∧ ActsAt W.heap.size W a L := by
  obtain ⟨a, len, cap, rfl, hl, hm, hr⟩ := open_twos Try.underlying24 Try.underlying35 rfl (by kernel_rfl) (by kernel_rfl) hok h
  unfold maxLen at hm
  rcases hr with rfl | ⟨b, off, rfl, hb, hc⟩
  · exact ⟨a, [], cap, rfl, by simp, fun h => absurd rfl h⟩
  · have key : ∀ i, ∃ p : Int × Int, i < len → W.cell? ⟨b, off + i * 2, none⟩ = some (.int .i64 p.1) ∧ W.cell? ⟨b, off + i * 2 + 1, none⟩ = some (.int .i64 p.2) := fun i => by
      by_cases hi : i < len
      · obtain ⟨c0, c1, h0, h1, hf⟩ := hc i hi
        obtain ⟨n0, y0, t0⟩ := hf 0 _ c0 rfl rfl
        obtain ⟨n1, y1, t1⟩ := hf 1 _ c1 rfl rfl
        obtain ⟨z0, rfl, w0⟩ := trod_int_of Try.underlying3 t0
        obtain ⟨z1, rfl, w1⟩ := trod_int_of Try.underlying2 t1
        rw [addr_add] at h1
        exact ⟨(z0, z1), fun _ => ⟨h0, h1⟩⟩
      · exact ⟨(0, 0), fun h => absurd h hi⟩
    obtain ⟨f, hf⟩ := Classical.axiomOfChoice key
    refine ⟨_, (List.range len).map f, cap, by simp, by simp; omega, fun _ => ⟨b, off, rfl, hb, fun j hj => ?_⟩⟩
    have hj' : j < len := by simpa using hj
    have e1 : ((List.range len).map f)[j]?.getD (0, 0) = f j := by simp [hj']
    rw [e1]
    exact hf j hj'
end
theorem ofL_pgL (ls : List Nat) (h : Nat) (now : Pl) (e : Nat) : ofL ls (pgL h now e) = (List.range' 2 (e - 2)).filter fun (j : Nat) => ls.contains (isP h now j) := by
  unfold ofL pgL
  rw [List.filter_map, List.map_map]
  conv => rhs; rw [← List.map_id ((List.range' 2 (e - 2)).filter fun (j : Nat) => ls.contains (isP h now j))]
  rfl
theorem of_eq {s t : Spc} {ls ms : List Nat} (hh : s.high = t.high) (h : ∀ j : Nat, 2 ≤ j → j < s.high → ls.contains (isP s.high s.now j) = ms.contains (isP t.high t.now j)) : s.of ls = t.of ms := by
  unfold Spc.of
  rw [ofL_pgL, ofL_pgL, ← hh]
  refine List.filter_congr (fun j hj => ?_)
  have := List.mem_range'_1.1 hj
  rw [hh]
  have h2 := h j this.1 (by omega)
  rw [hh] at h2
  exact h2
theorem isP_of {s : Spc} {j : Nat} (h2 : 2 ≤ j) (hj : j < s.high) : isP s.high s.now j = (s.now j).getD 1 := isP_in h2 hj
theorem lasted_of {s : Spc} (h : s.Ok) : s.lasts.of [4] = s.of [4, 3] := by
  refine of_eq rfl (fun j h2 hj => ?_)
  have hj' : j < s.high := hj
  rw [isP_in h2 hj, isP_in h2 hj']
  show [4].contains ((s.lasted j).getD 1) = _
  unfold Spc.lasted
  cases hk : s.now j with
  | none => simp
  | some p =>
    obtain ⟨-, -, hp⟩ := h.now_ j p hk
    rcases hp with rfl | rfl | rfl <;> simp
theorem lasts_undo (s : Spc) : s.lasts.undo = s.lasts := rfl
theorem lasted_lasted (s : Spc) (h : s.Ok) : s.lasts.lasted = s.lasted := by
  funext k
  have hl := h.lasts.last_ k
  have e : s.lasts.now k = s.lasted k := rfl
  show (if s.lasts.now k = some 2 then none else if s.lasts.now k = some 3 then some 4 else s.lasts.now k) = s.lasted k
  rw [e]
  cases hk : s.lasted k with
  | none => simp
  | some p =>
    obtain ⟨-, -, hp⟩ := hl p hk
    rw [hp]; simp
theorem lasts_lasts (s : Spc) (h : s.Ok) : s.lasts.lasts = s.lasts := by
  show ({ s.lasts with now := s.lasts.lasted, last := s.lasts.lasted, lhigh := s.lasts.high } : Spc) = s.lasts
  rw [lasted_lasted s h]
  rfl
theorem lasts_none {s : Spc} (h : s.Ok) {p : Nat} (hp : p = 2 ∨ p = 3) : s.lasts.of [p] = [] := by
  unfold Spc.of
  rw [ofL_pgL, List.filter_eq_nil_iff]
  intro j hj
  have hr := List.mem_range'_1.1 hj
  have hjh : j < s.lasts.high := by have := h.lo; have := h.lh; have : s.lasts.high = s.high := rfl; omega
  rw [isP_in hr.1 hjh]
  have e : s.lasts.now j = s.lasted j := rfl
  rw [e]
  cases hk : s.lasted j with
  | none => rcases hp with rfl | rfl <;> simp
  | some q =>
    obtain ⟨-, -, hq⟩ := h.lasts.last_ j q hk
    rcases hp with rfl | rfl <;> simp [hq]
theorem Spc.like.refl (s : Spc) : s.like s := ⟨rfl, rfl, rfl, rfl, rfl⟩
theorem same_yes {n₀ : Nat} {w : World} {B A : Nat} {s t : Spc} (h : IsTwo n₀ w B s A t) (hl : s.like t) :
    Calls Try.prog 19 #[ptr B, ptr A] w fun en w' => en = .returned (.bool true) ∧ IsTwo n₀ w' B s A t ∧ Below w.heap.size w w' := by
  refine (same_two h).mono ?_
  rintro en w' ⟨r, rfl, hr, hb⟩
  have := hr.2 hl
  subst this
  exact ⟨rfl, h.below hb, hb⟩
theorem IsSp.ok {n₀ : Nat} {w : World} {B : Nat} {s : Spc} (h : IsSp n₀ w B s) : s.Ok := by
  obtain ⟨_, _, h, -⟩ := h; exact h.ok
end Go.Proofs.Ytmjjgdoekblelaa
