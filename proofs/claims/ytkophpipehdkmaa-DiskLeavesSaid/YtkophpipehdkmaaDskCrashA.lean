/- Layer 2: what a crash leaves, sector by sector; the picks that are handed. -/
import Derived.Laws.CopyRow
import Derived.Test.YtkophpipehdkmaaDskTorn
import Derived.Test.YtkophpipehdkmaaDskSect
import Derived.Test.YtkophpipehdkmaaDskNew
namespace Go.Proofs.Ytkophpipehdkmaa
open Go.RowKit

/- The pages while a crash is told. -/
theorem tornPages_below {ws : List (Nat × Page)} {n k p : Nat} (h : (tornPages ws n)[k]? = some p) : (tornPages ws p).length = k ∧ p < n ∧ isTorn ws p = true := by
  induction n generalizing k with
  | zero => simp [tornPages] at h
  | succ n ih =>
    rw [tornPages_succ] at h
    split at h
    · rename_i ht
      by_cases hk : k < (tornPages ws n).length
      · rw [List.getElem?_append_left hk] at h
        obtain ⟨h1, h2, h3⟩ := ih h
        exact ⟨h1, by omega, h3⟩
      · rw [List.getElem?_append_right (by omega)] at h
        have hk2 := (List.getElem?_eq_some_iff.1 h).1
        simp at hk2
        have e : k = (tornPages ws n).length := by omega
        subst e
        simp at h
        subst h
        exact ⟨rfl, by omega, ht⟩
    · obtain ⟨h1, h2, h3⟩ := ih h
      exact ⟨h1, by omega, h3⟩
/-- The first k of the torn pages are as the crash leaves them. -/
def midC (d : Dsk) (picks : List Int) (fl : Nat → Option Page) (k : Nat) : Nat → Option Page := fun p => if isTorn d.waits p = true ∧ p < d.room ∧ (tornPages d.waits p).length < k then some (crashPage d.lasts d.waits picks p) else fl p
/-- And of the k-th the first j sectors. -/
def midS (d : Dsk) (picks : List Int) (fl : Nat → Option Page) (k p j : Nat) : Nat → Option Page := fun q => if q = p then (if j = 0 then fl p else some (mix (picked (d.lasts.getD p noughts :: wrote d.waits p) picks (4 * k)) (d.lasts.getD p noughts) j)) else midC d picks fl k q
section
variable {d : Dsk} {picks : List Int} {fl : Nat → Option Page} {k p j : Nat}
theorem midC_zero : midC d picks fl 0 = fl := by funext q; unfold midC; rw [if_neg (by omega)]
theorem midS_zero (hp : (tornPages d.waits d.room)[k]? = some p) : midS d picks fl k p 0 = midC d picks fl k := by
  funext q
  unfold midS
  by_cases e : q = p
  · subst e
    rw [if_pos rfl, if_pos rfl]
    unfold midC
    rw [if_neg (by have := (tornPages_below hp).1; omega)]
  · rw [if_neg e]
theorem crashPage_torn (hp : (tornPages d.waits d.room)[k]? = some p) : crashPage d.lasts d.waits picks p = mix (picked (d.lasts.getD p noughts :: wrote d.waits p) picks (4 * k)) (d.lasts.getD p noughts) 4 := by
  obtain ⟨h1, h2, h3⟩ := tornPages_below hp
  unfold crashPage
  rw [if_pos h3, h1]
theorem tornPages_inj {q : Nat} (hp : (tornPages d.waits d.room)[k]? = some p) (hq : isTorn d.waits q = true) (hq2 : q < d.room) (he : (tornPages d.waits q).length = k) : q = p := by
  have hm : q ∈ tornPages d.waits d.room := tornPages_mem.2 ⟨hq2, hq⟩
  obtain ⟨i, hi⟩ := List.mem_iff_getElem?.1 hm
  have := (tornPages_below hi).1
  obtain rfl : i = k := by omega
  rw [hp] at hi; cases hi; rfl
theorem midS_four (hp : (tornPages d.waits d.room)[k]? = some p) : midS d picks fl k p 4 = midC d picks fl (k + 1) := by
  obtain ⟨h1, h2, h3⟩ := tornPages_below hp
  funext q
  unfold midS
  by_cases e : q = p
  · subst e
    rw [if_pos rfl, if_neg (by omega)]
    unfold midC
    rw [if_pos ⟨h3, h2, by omega⟩, crashPage_torn hp]
  · rw [if_neg e]
    unfold midC
    by_cases hc : isTorn d.waits q = true ∧ q < d.room ∧ (tornPages d.waits q).length < k
    · rw [if_pos hc, if_pos ⟨hc.1, hc.2.1, by omega⟩]
    · rw [if_neg hc, if_neg (fun hc' => ?_)]
      by_cases he : (tornPages d.waits q).length = k
      · exact e (tornPages_inj hp hc'.1 hc'.2.1 he)
      · exact hc ⟨hc'.1, hc'.2.1, by omega⟩
theorem midS_put (l : Page) (hl : l = mix (picked (d.lasts.getD p noughts :: wrote d.waits p) picks (4 * k)) (d.lasts.getD p noughts) (j + 1)) : putAt (pagesV (midS d picks fl k p j)) p (pageV l) = pagesV (midS d picks fl k p (j + 1)) := by
  funext q
  unfold putAt pagesV midS
  by_cases e : q = p
  · rw [if_pos e, if_pos e, if_neg (by omega), hl]; rfl
  · rw [if_neg e, if_neg e, if_neg e]
theorem midS_at (ok : d.Ok) (hp2 : p < d.room) (hfl : (fl p).getD noughts = d.lasts.getD p noughts) : (midS d picks fl k p j p).getD noughts = mix (picked (d.lasts.getD p noughts :: wrote d.waits p) picks (4 * k)) (d.lasts.getD p noughts) j := by
  unfold midS
  rw [if_pos rfl]
  by_cases hj : j = 0
  · subst hj; rw [if_pos rfl, hfl, mix_zero _ _ (ok.len p hp2)]
  · rw [if_neg hj]; rfl
/-- All of it, once no pick is left. -/
theorem midC_done (hfl : ∀ p, p < d.room → (fl p).getD noughts = d.lasts.getD p noughts) (hd : ∀ q, q < d.room → isTorn d.waits q = true → (tornPages d.waits q).length < k) {q : Nat} (hq : q < d.room) : (midC d picks fl k q).getD noughts = crashPage d.lasts d.waits picks q := by
  unfold midC
  by_cases ht : isTorn d.waits q = true
  · rw [if_pos ⟨ht, hq, hd q hq ht⟩]; rfl
  · rw [if_neg (fun h => ht h.1), hfl q hq]
    unfold crashPage
    rw [if_neg ht]
theorem midS_done (ok : d.Ok) (hp : (tornPages d.waits d.room)[k]? = some p) (hfl : ∀ p, p < d.room → (fl p).getD noughts = d.lasts.getD p noughts) (hj : j < 4) (hpk : picks.length ≤ 4 * k + j) {q : Nat} (hq : q < d.room) : (midS d picks fl k p j q).getD noughts = crashPage d.lasts d.waits picks q := by
  obtain ⟨h1, h2, h3⟩ := tornPages_below hp
  have hpast : ∀ (ls : Page) (ws : List Page) (u i : Nat), picks.length ≤ u + i → picked (ls :: ws) picks u i = ls := fun ls ws u i h => by rw [picked_past _ _ _ _ h]; rfl
  by_cases e : q = p
  · subst e
    rw [midS_at ok hq (hfl q hq), crashPage_torn hp]
    exact mix_same _ _ _ (fun i hi hi4 => hpast _ _ _ _ (by omega))
  · unfold midS
    rw [if_neg e]
    by_cases hc : isTorn d.waits q = true ∧ q < d.room ∧ (tornPages d.waits q).length < k
    · unfold midC; rw [if_pos hc]; rfl
    · unfold midC
      rw [if_neg hc, hfl q hq]
      unfold crashPage
      by_cases ht : isTorn d.waits q = true
      · rw [if_pos ht]
        have hge : k < (tornPages d.waits q).length := by
          have h5 : ¬ (tornPages d.waits q).length < k := fun h5 => hc ⟨ht, hq, h5⟩
          have h6 : (tornPages d.waits q).length ≠ k := fun h6 => e (tornPages_inj hp ht hq h6)
          omega
        rw [← mix_same _ _ 0 (fun i hi hi4 => hpast _ _ _ _ (by omega)), mix_zero _ _ (ok.len q hq)]
      · rw [if_neg ht]
theorem midC_hi (hfl : ∀ p, d.room ≤ p → fl p = none) {q : Nat} (hq : d.room ≤ q) : midC d picks fl k q = none := by
  unfold midC; rw [if_neg (by omega)]; exact hfl q hq
theorem midS_hi (hp : (tornPages d.waits d.room)[k]? = some p) (hfl : ∀ p, d.room ≤ p → fl p = none) {q : Nat} (hq : d.room ≤ q) : midS d picks fl k p j q = none := by
  obtain ⟨h1, h2, h3⟩ := tornPages_below hp
  unfold midS; rw [if_neg (by omega)]; exact midC_hi hfl hq
end

/-- The picks that are still to come: ints one behind the other. -/
def PickV (w : World) (n₁ : Nat) (sv : Value) (l : List Int) : Prop := ∃ a cap, sv = .slice a l.length cap ∧ l.length ≤ cap ∧ (l ≠ [] → ∃ b o, a = some ⟨b, o, none⟩ ∧ b < n₁ ∧ ∀ i x, l[i]? = some x → w.cell? ⟨b, o + i, none⟩ = some (.int .i64 x))
theorem PickV.below {w w' : World} {n₁ n₂ : Nat} {sv : Value} {l : List Int} (h : PickV w n₁ sv l) (hb : Below n₂ w w') (hn : n₁ ≤ n₂) : PickV w' n₁ sv l := by
  obtain ⟨a, cap, h1, h2, h3⟩ := h
  refine ⟨a, cap, h1, h2, fun hl => ?_⟩
  obtain ⟨b, o, e, hlt, hc⟩ := h3 hl
  exact ⟨b, o, e, hlt, fun i x hx => (hb.cell (p := ⟨b, o + i, none⟩) (Nat.lt_of_lt_of_le hlt hn)).trans (hc i x hx)⟩
/-- picks[1:]. -/
theorem PickV.tail {w : World} {n₁ : Nat} {b o n cap : Nat} {x : Int} {l : List Int} (h : PickV w n₁ (.slice (some ⟨b, o, none⟩) n cap) (x :: l)) :
    ∃ sv, (∀ w', (Instr.sliceAt 23 (.slice (some ⟨b, o, none⟩) n cap) (some (.int .i64 1)) none none).run Try.prog w' = .ok sv w') ∧ PickV w n₁ sv l := by
  obtain ⟨a, cap', e, h2, h3⟩ := h
  injection e with e1 e2 e3
  subst e1 e2 e3
  obtain ⟨b', o', e, hlt, hc⟩ := h3 (by simp)
  cases e
  simp only [List.length_cons] at h2 ⊢
  have hel : Try.prog.elem 23 = 3 := by kernel_rfl
  have hu : Try.prog.underlying 23 = some (.slice (Try.prog.elem 23)) := by rw [hel]; exact Try.underlying23
  have hs : ∀ w, (sizeOf 3).run Try.prog w = .ok 1 w := fun w => by kernel_rfl
  refine ⟨sliced (some ⟨b, o, none⟩) 1 (l.length + 1) cap 1, fun w' => (run_sliceAt_slice (P := Try.prog) w' 23 _ _ _ _ hu).trans ((run_slice_l (P := Try.prog) w' 23 (some ⟨b, o, none⟩) (l.length + 1) cap hu .i64 1 (by omega) (by omega)).trans (by rw [hel, hs]; rfl)), ?_⟩
  unfold sliced
  refine ⟨_, cap - 1, by rw [Nat.add_sub_cancel], by omega, fun hl => ?_⟩
  have hpos := List.length_pos_iff.2 hl
  refine ⟨b, o + 1, by rw [if_neg (by omega)]; show some (Addr.add _ _) = _; rw [addr_add], hlt, fun i y hy => ?_⟩
  have := hc (i + 1) y (by simpa using hy)
  rwa [show o + (i + 1) = o + 1 + i by omega] at this
theorem slice77 (w : World) (g j : Nat) (hj : j < 4) : (Instr.sliceAt 66 (ptr g) (some (.int .i64 (64 * (j : Int)))) (some (.int .i64 (64 * (j : Int) + 64))) none).run Try.prog w = .ok (.slice (some ⟨g, 64 * j, none⟩) 64 (256 - 64 * j)) w := by
  have hel : Try.prog.elem 66 = 5 := by kernel_rfl
  have hal : Try.prog.arrayLen 66 = 256 := by kernel_rfl
  have hs : (sizeOf 5).run Try.prog w = .ok 1 w := by kernel_rfl
  have hu : Try.prog.underlying 66 = some (.array (Try.prog.arrayLen 66) (Try.prog.elem 66)) := by rw [hel, hal]; exact Try.underlying66
  refine (run_sliceAt_array_lh (P := Try.prog) w 66 ⟨g, 0, none⟩ hu .i64 .i64 (64 * (j : Int)) (64 * (j : Int) + 64) (by omega) (by omega) (by rw [hal]; omega)).trans ?_
  rw [hel, hal, hs]
  simp only [Result.andThen_ok]
  unfold slicedAt
  rw [if_neg (by omega), addr_add, show (64 * (j : Int)).toNat = 64 * j by omega, show (64 * (j : Int) + 64).toNat = 64 * j + 64 by omega, Nat.add_sub_cancel_left, Nat.mul_one, Nat.zero_add]
theorem PageAt.setRow {w : World} {g : Nat} {c : Page} (h : PageAt w g c) (l : Page) : PageAt (w.setRow g (byteVals l).toArray) g l := by
  have := setRow_heap w g _ (byteVals l).toArray _ _ h
  exact this
theorem copy77 {w : World} {g g' j : Nat} {c l : Page} (hc : PageAt w g c) (hl : PageAt w g' l) (hcl : c.length = 256) (hll : l.length = 256) (hj : j < 4) (ty : TypeId) :
    (Builtin.copy_ #[31, 31] ty #[.slice (some ⟨g, 64 * j, none⟩) 64 (256 - 64 * j), .slice (some ⟨g', 64 * j, none⟩) 64 (256 - 64 * j)]).run Try.prog w = .ok (goInt 64) (w.setRow g (byteVals (splice c l j)).toArray) := by
  have hlen : (byteVals ((l.drop (64 * j)).take 64)).length = 64 := by rw [byteVals_len]; simp; omega
  refine (run_copy_row (P := Try.prog) w 31 31 ty 5 g (64 * j) 64 (256 - 64 * j) ⟨g', 64 * j, none⟩ 64 (256 - 64 * j) (byteVals c).toArray _ (byteVals ((l.drop (64 * j)).take 64)) Try.underlying31 (by kernel_rfl) hc (by rw [hlen]; rfl) (fun i v hv => ?_) (by rw [hlen, List.size_toArray, byteVals_len, hcl]; omega) (byteVals_one _)).trans ?_
  · rw [addr_add, cell_of_row w g' _ _ _ _ hl, List.getElem?_toArray]
    have hi := (List.getElem?_eq_some_iff.1 hv).1
    rw [hlen] at hi
    rw [← hv]
    unfold byteVals
    rw [List.getElem?_map, List.getElem?_map, List.getElem?_take, if_pos hi, List.getElem?_drop]
  · rw [hlen]
    congr 2
    unfold splice byteVals
    simp [List.map_take, List.map_drop]
end Go.Proofs.Ytkophpipehdkmaa
