/- Texts of the proof in one file, in build order: CrcFlip, MetaB8, MetaFirst, MetaFirstCard. -/
import Derived.Test.YtaijjlaheoamaaaDoorF1
import Derived.Test.YtaijjlaheoamaaaDoorG5
import Derived.Test.YtaijjlaheoamaaaDoorG7
import Derived.Test.YtaijjlaheoamaaaDoorG6
/- Plain numbers for layer 1: bytes of which up to three bits are turned have another sum, if they are at most 1000 bytes and are not the same bytes again. -/
namespace Go.Proofs.YtaijjlaheoamaaaDoor

def H (m : Nat) : Nat := halves m 1
theorem H_lt (m : Nat) : H m < 4294967296 := (halves_lin m).lt 1 (by decide)
theorem H_ne (m : Nat) : H m ≠ 0 := fun h => by
  have := halves_zero m (by decide : 1 < 4294967296) h
  cases this
theorem H_add (m a : Nat) : H (m + a) = halves m (H a) := by rw [Nat.add_comm]; exact halves_add a m 1

theorem far {a : Nat} (h1 : 1 ≤ a) (h2 : a ≤ 7999) : 1 ^^^ H a ≠ 0 ∧ ∀ b, b < 8000 → 1 ^^^ H a ≠ H b := by
  have h := searched_true
  unfold searched at h
  rw [force_eq, force_eq, force_eq] at h
  obtain ⟨h3, h4⟩ := search_ok _ _ _ 7999 (halve 1) h (a - 1) (by omega)
  have e : halves (a - 1) (halve 1) = H a := by
    show halves (a - 1 + 1) 1 = _
    rw [show a - 1 + 1 = a by omega]; rfl
  rw [e] at h3 h4
  refine ⟨h3, fun b hb he => ?_⟩
  rw [he] at h4
  have t1 := (remTable_has 262139 8000 1 0).2 b hb
  have t2 := (remTable_has 262133 8000 1 0).2 b hb
  have t3 := (remTable_has 262127 8000 1 0).2 b hb
  unfold H at h4
  rcases h4 with h4 | h4 | h4
  · rw [h4] at t1; cases t1
  · rw [h4] at t2; cases t2
  · rw [h4] at t3; cases t3
theorem xor_zero_eq {a b : Nat} (h : a ^^^ b = 0) : a = b := by
  have := congrArg (· ^^^ b) h
  simpa [Nat.xor_assoc] using this
theorem two_lt {m n : Nat} (h1 : 1 ≤ m) (h2 : m < n) (h3 : n ≤ 8000) : H m ^^^ H n ≠ 0 := fun h => by
  have e : H m ^^^ H n = halves m (1 ^^^ H (n - m)) := by
    rw [(halves_lin m).xor _ _ (by decide) (H_lt _), ← H_add, show m + (n - m) = n by omega]; rfl
  rw [e] at h
  exact (far (a := n - m) (by omega) (by omega)).1 (halves_zero m (xor_lt32 (by decide) (H_lt _)) h)
theorem two_ne {m n : Nat} (h1 : 1 ≤ m) (h2 : 1 ≤ n) (h3 : m ≤ 8000) (h4 : n ≤ 8000) (h : H m ^^^ H n = 0) : m = n := by
  rcases Nat.lt_trichotomy m n with hl | he | hg
  · exact absurd h (two_lt h1 hl h4)
  · exact he
  · rw [Nat.xor_comm] at h; exact absurd h (two_lt h2 hg h3)
theorem three_lt {m n r : Nat} (h1 : 1 ≤ m) (h2 : m < n) (h3 : n < r) (h4 : r ≤ 8000) : H m ^^^ H n ^^^ H r ≠ 0 := fun h => by
  have e : H m ^^^ H n ^^^ H r = halves m (1 ^^^ H (n - m) ^^^ H (r - m)) := by
    rw [(halves_lin m).xor _ _ (xor_lt32 (by decide) (H_lt _)) (H_lt _), (halves_lin m).xor _ _ (by decide) (H_lt _), ← H_add, ← H_add, show m + (n - m) = n by omega, show m + (r - m) = r by omega]; rfl
  rw [e] at h
  have h5 := halves_zero m (xor_lt32 (xor_lt32 (by decide) (H_lt _)) (H_lt _)) h
  exact (far (a := n - m) (by omega) (by omega)).2 (r - m) (by omega) (xor_zero_eq h5)
theorem three_ne {m n r : Nat} (h1 : 1 ≤ m) (h2 : 1 ≤ n) (h3 : 1 ≤ r) (h4 : m ≤ 8000) (h5 : n ≤ 8000) (h6 : r ≤ 8000) : H m ^^^ H n ^^^ H r ≠ 0 := by
  have same : ∀ a b, H a ^^^ H a ^^^ H b ≠ 0 := fun a b h => H_ne b (by simpa using h)
  rcases Nat.lt_trichotomy m n with a | rfl | a
  · rcases Nat.lt_trichotomy n r with b | rfl | b
    · exact three_lt h1 a b h6
    · rw [Nat.xor_assoc, Nat.xor_comm]; exact same n m
    · rcases Nat.lt_trichotomy m r with c | rfl | c
      · rw [Nat.xor_assoc, Nat.xor_comm (H n), ← Nat.xor_assoc]; exact three_lt h1 c b h5
      · rw [Nat.xor_assoc, Nat.xor_comm (H n), ← Nat.xor_assoc]; exact same m n
      · rw [Nat.xor_comm, ← Nat.xor_assoc]; exact three_lt h3 c a h5
  · exact same m r
  · rcases Nat.lt_trichotomy m r with b | rfl | b
    · rw [Nat.xor_comm (H m)]; exact three_lt h2 a b h6
    · rw [Nat.xor_comm (H m), Nat.xor_assoc, Nat.xor_comm]; exact same m n
    · rcases Nat.lt_trichotomy n r with c | rfl | c
      · rw [Nat.xor_assoc, Nat.xor_comm]; exact three_lt h2 c b h4
      · rw [Nat.xor_assoc, Nat.xor_comm]; exact same n m
      · rw [Nat.xor_comm, Nat.xor_comm (H m), ← Nat.xor_assoc]; exact three_lt h3 c a h4

/- WHAT ONE TURNED BIT DOES. -/
theorem word_halves (x : Nat) (hx : x < 256) : halves 8 x = crcWord x := by
  have : ∀ y : Fin 256, halves 8 y.1 = crcWord y.1 := by decide +kernel
  exact this ⟨x, hx⟩
theorem halve_even (t : Nat) : halve (2 * t) = t := by
  unfold halve
  rw [show 2 * t % 2 = 0 by omega, show 2 * t / 2 = t by omega]; rfl
theorem halves_high (t : Nat) : halves 8 (256 * t) = t := by
  show halve (halve (halve (halve (halve (halve (halve (halve (256 * t)))))))) = t
  rw [show 256 * t = 2 * (2 * (2 * (2 * (2 * (2 * (2 * (2 * t))))))) by omega]
  simp only [halve_even]
theorem split256 (s : Nat) : s % 256 ^^^ 256 * (s / 256) = s := by
  apply Nat.eq_of_testBit_eq
  intro i
  rw [Nat.testBit_xor, show (256 : Nat) = 2 ^ 8 from rfl, Nat.testBit_mod_two_pow, Nat.testBit_two_pow_mul, Nat.testBit_div_two_pow]
  by_cases h : i < 8
  · simp [h, show ¬ 8 ≤ i by omega]
  · simp [h, show 8 ≤ i by omega, show i - 8 + 8 = i by omega]
theorem z_halves {s : Nat} (hs : s < 4294967296) : crcZ s = halves 8 s := by
  have h1 : s % 256 < 4294967296 := by omega
  have h2 : 256 * (s / 256) < 4294967296 := by omega
  have e : halves 8 s = halves 8 (s % 256) ^^^ halves 8 (256 * (s / 256)) := by
    rw [← (halves_lin 8).xor _ _ h1 h2, split256]
  rw [e, halves_high, word_halves _ (by omega)]
  unfold crcZ crcStep
  rw [Nat.xor_zero]
theorem zs_halves : ∀ (L : Nat) {s : Nat}, s < 4294967296 → crcZs L s = halves (8 * L) s
  | 0, _, _ => rfl
  | L + 1, s, hs => by
    show crcZs L (crcZ s) = _
    rw [zs_halves L (crcZ_lin.lt s hs), z_halves hs, show 8 * (L + 1) = 8 + 8 * L by omega, halves_add]
theorem run_zeros (L : Nat) (s : Nat) : crcRun s (List.replicate L 0) = crcZs L s := by
  induction L generalizing s with
  | zero => rfl
  | succ L ih => rw [List.replicate_succ]; exact ih (crcZ s)
/-- L bytes of which just bit i is set. -/
def unit : Nat → Nat → List UInt8
  | 0, _ => []
  | L + 1, i => if i < 8 then UInt8.ofNat (2 ^ i) :: List.replicate L 0 else 0 :: unit L (i - 8)
theorem unit_length : ∀ L i, (unit L i).length = L
  | 0, _ => rfl
  | L + 1, i => by
    unfold unit
    split
    · simp
    · simp [unit_length L]
theorem unit_run : ∀ L i, i < 8 * L → crcRun 0 (unit L i) = H (8 * L - i)
  | 0, i, h => by omega
  | L + 1, i, h => by
    unfold unit
    split
    · rename_i h8
      have e : crcRun 0 (UInt8.ofNat (2 ^ i) :: List.replicate L 0) = crcRun (crcStep 0 (UInt8.ofNat (2 ^ i)).toNat) (List.replicate L 0) := rfl
      have hb : crcStep 0 (UInt8.ofNat (2 ^ i)).toNat = H (8 - i) := by
        have : ∀ j : Fin 8, crcStep 0 (UInt8.ofNat (2 ^ j.1)).toNat = H (8 - j.1) := by decide +kernel
        exact this ⟨i, h8⟩
      rw [e, hb, run_zeros, zs_halves L (H_lt _), ← H_add, show 8 * L + (8 - i) = 8 * (L + 1) - i by omega]
    · rename_i h8
      have e : crcRun 0 (0 :: unit L (i - 8)) = crcRun (crcStep 0 0) (unit L (i - 8)) := rfl
      rw [e, show crcStep 0 0 = 0 by decide, unit_run L (i - 8) (by omega), show 8 * L - (i - 8) = 8 * (L + 1) - i by omega]
theorem unit_get : ∀ L i j, j < L → (unit L i)[j]?.getD 0 = if j = i / 8 then UInt8.ofNat (2 ^ (i % 8)) else 0
  | 0, _, _, h => by omega
  | L + 1, i, j, h => by
    unfold unit
    split
    · rename_i h8
      cases j with
      | zero => simp [show i / 8 = 0 by omega, show i % 8 = i by omega]
      | succ j => simp [show i / 8 = 0 by omega, show j < L by omega]
    · rename_i h8
      cases j with
      | zero => simp; omega
      | succ j =>
        simp only [List.getElem?_cons_succ]
        rw [unit_get L (i - 8) j (by omega), show (i - 8) % 8 = i % 8 by omega]
        by_cases e : j + 1 = i / 8
        · rw [if_pos (by omega), if_pos e]
        · rw [if_neg (by omega), if_neg e]
end Go.Proofs.YtaijjlaheoamaaaDoor
/- Layer 6: a byte of a page's bytes changed in any way: the sum is wrong. -/
namespace Go.Proofs.YtaijjlaheoamaaaDoor

theorem xor_left_cancel {a b c : Nat} (h : a ^^^ c = b ^^^ c) : a = b := by
  have := congrArg (fun z => z ^^^ c) h
  simpa [Nat.xor_assoc] using this
theorem run_ne {s : Nat} (hs : s < 4294967296) (pre post : List UInt8) {c c' : UInt8} (h : c ≠ c') : crcRun s (pre ++ c :: post) ≠ crcRun s (pre ++ c' :: post) := by
  intro e
  rw [crcRun_append, crcRun_append] at e
  have hs1 := crcRun_lt hs pre
  generalize crcRun s pre = s1 at e hs1
  change crcRun (crcStep s1 c.toNat) post = crcRun (crcStep s1 c'.toNat) post at e
  have hA := crcStep_lt hs1 (b := c.toNat) c.toNat_lt
  have hB := crcStep_lt hs1 (b := c'.toNat) c'.toNat_lt
  rw [crcRun_split post _ hA, crcRun_split post _ hB] at e
  have e1 := xor_left_cancel e
  have hl := (crcZs_lin post.length).xor _ _ hA hB
  rw [e1, Nat.xor_self, zs_halves _ (xor_lt32 hA hB)] at hl
  have e2 := xor_zero_eq (halves_zero _ (xor_lt32 hA hB) hl)
  unfold crcStep at e2
  have e3 := xor_left_cancel e2
  have hX : (s1 % 256) ^^^ c.toNat < 256 := xor_lt8 (by omega) c.toNat_lt
  have hY : (s1 % 256) ^^^ c'.toNat < 256 := xor_lt8 (by omega) c'.toNat_lt
  have e4 : crcWord (((s1 % 256) ^^^ c.toNat) ^^^ ((s1 % 256) ^^^ c'.toNat)) = 0 := by rw [crcWord_xor, e3, Nat.xor_self]
  have hXY := xor_lt8 hX hY
  rw [← word_halves _ hXY] at e4
  have e5 := xor_zero_eq (halves_zero _ (by omega) e4)
  rw [Nat.xor_comm, Nat.xor_comm (s1 % 256)] at e5
  exact h (UInt8.toNat_inj.1 (xor_left_cancel e5))
theorem sum_ne (pre post : List UInt8) {c c' : UInt8} (h : c ≠ c') : crcSum (pre ++ c :: post) ≠ crcSum (pre ++ c' :: post) := by
  rw [crcSum_eq, crcSum_eq]
  intro e
  rw [Nat.xor_comm, Nat.xor_comm 4294967295] at e
  exact run_ne (by decide) pre post h (xor_left_cancel e)
theorem byte_changed {b : List UInt8} (h : b.length = 256) (hs : sumOk b = true) {i : Nat} (hi : i < 256) {c : UInt8} (hc : c ≠ b[i]?.getD 0) : sumOk (b.set i c) = false := by
  rw [Bool.eq_false_iff]
  intro ht
  have h1 : numOf (b.take 4) = crcSum (b.drop 4) := by simpa [sumOk] using hs
  have h2 : numOf ((b.set i c).take 4) = crcSum ((b.set i c).drop 4) := by simpa [sumOk] using ht
  have hbi : b[i]?.getD 0 = b[i]'(by omega) := by rw [List.getElem?_eq_getElem (by omega)]; rfl
  rw [hbi] at hc
  by_cases h4 : i < 4
  · rw [List.drop_set_of_lt (by omega)] at h2
    have h3 := numOf_inj 4 _ _ (by rw [List.length_take, List.length_set]; omega) (by rw [List.length_take]; omega) (h2.trans h1.symm)
    have h5 := congrArg (fun l : List UInt8 => l[i]?) h3
    simp only [List.getElem?_take, if_pos h4] at h5
    rw [List.getElem?_set_self (by omega), List.getElem?_eq_getElem (by omega)] at h5
    exact hc (Option.some.inj h5)
  · rw [List.take_set_of_le (by omega)] at h2
    have h3 := h1.symm.trans h2
    have e1 : b.drop 4 = (b.drop 4).take (i - 4) ++ b[i]'(by omega) :: (b.drop 4).drop (i - 4 + 1) := by
      rw [List.drop_drop, show 4 + (i - 4 + 1) = i + 1 by omega, ← List.drop_eq_getElem_cons (by omega), show b.drop i = (b.drop 4).drop (i - 4) by rw [List.drop_drop, show 4 + (i - 4) = i by omega], List.take_append_drop]
    have e2 : (b.set i c).drop 4 = (b.drop 4).take (i - 4) ++ c :: (b.drop 4).drop (i - 4 + 1) := by
      rw [List.drop_set, if_neg (by omega), List.set_eq_take_append_cons_drop, if_pos (by rw [List.length_drop]; omega)]
    rw [e1, e2] at h3
    exact sum_ne _ _ (fun e => hc e.symm) h3
end Go.Proofs.YtaijjlaheoamaaaDoor
/- Layer 6: the law on both first metas. -/
namespace Go.Proofs.YtaijjlaheoamaaaDoor
open Go.RowKit

abbrev mrow1 (m : Mt) : Array Value := #[.int .i64 m.t, .int .i64 m.r, .int .i64 m.f, .int .i64 m.h]
theorem own_cells {Y : World} {n₀ g c0 : Nat} {l : List UInt8} (h : OwnB Y n₀ (.slice (some ⟨g, 0, none⟩) 256 c0) l) (hl : l.length = 256) : n₀ ≤ g ∧ g < Y.heap.size ∧ (∃ cs, Y.heap[g]? = some (.cells cs 5 (0, 0))) ∧ 256 ≤ c0 ∧ ∀ i, i < 256 → Y.cell? ⟨g, i, none⟩ = some (.int .u8 ((l[i]?.getD 0).toNat : Int)) ∧ Y.frozen? ⟨g, i, none⟩ = false := by
  obtain ⟨a, c, e, hm, hle, -, -, hlo⟩ := h.form
  rw [hl] at e hle
  cases e
  obtain ⟨b, off, e, hb, hc⟩ := hm (by intro e; rw [e] at hl; cases hl)
  cases e
  obtain ⟨cs, hcs⟩ := own_block h g rfl
  refine ⟨hlo _ _ _ rfl, hb, ⟨cs, hcs⟩, hle, fun i hi => ⟨?_, frozen_of_row _ _ _ _ _ hcs⟩⟩
  have := hc i (by rw [hl]; exact hi)
  rwa [Nat.zero_add] at this
structure FsS (w : World) (n₀ b5 b6 b8 g : Nat) (c0 : Nat) (a1 : Option Addr) (c1 : Nat) (l : List UInt8) (Y : World) : Prop where
  tab : Tab w
  tabs : 0 + 1 ≤ w.heap.size
  below : Below w.heap.size w Y
  lo : w.heap.size ≤ n₀
  len : l.length = 256
  r5 : Y.heap[b5]? = some (.cells #[.slice (some ⟨g, 0, none⟩) 256 c0, .slice a1 256 c1] 44 (0, 0))
  r6 : Y.heap[b6]? = some (.cells #[.int .i64 0, .int .i64 0, .int .i64 0, .int .i64 2] 25 (0, 0))
  r8 : Y.heap[b8]? = some (.cells #[.int .i64 1, .int .i64 0, .int .i64 0, .int .i64 2] 25 (0, 0))
  own : OwnB Y n₀ (.slice (some ⟨g, 0, none⟩) 256 c0) l
section
variable {w : World} {n₀ b5 b6 b8 g c0 c1 : Nat} {a1 : Option Addr} {l : List UInt8} {Y Y' : World}
theorem FsS.next (h : FsS w n₀ b5 b6 b8 g c0 a1 c1 l Y) (hb : Below Y.heap.size Y Y') : FsS w n₀ b5 b6 b8 g c0 a1 c1 l Y' :=
  ⟨h.tab, h.tabs, go_on h.below hb, h.lo, h.len, go_row h.r5 hb, go_row h.r6 hb, go_row h.r8 hb, h.own.below hb⟩
theorem FsS.mtab (h : FsS w n₀ b5 b6 b8 g c0 a1 c1 l Y) : Tab Y ∧ 0 + 1 ≤ Y.heap.size := ⟨h.tab.below h.tabs h.below, Nat.le_trans h.tabs h.below.size⟩
theorem FsS.blk (h : FsS w n₀ b5 b6 b8 g c0 a1 c1 l Y) : n₀ ≤ g ∧ g < Y.heap.size ∧ (∃ cs, Y.heap[g]? = some (.cells cs 5 (0, 0))) ∧ 256 ≤ c0 ∧ ∀ i, i < 256 → Y.cell? ⟨g, i, none⟩ = some (.int .u8 ((l[i]?.getD 0).toNat : Int)) ∧ Y.frozen? ⟨g, i, none⟩ = false := own_cells h.own h.len
theorem FsS.bs (h : FsS w n₀ b5 b6 b8 g c0 a1 c1 l Y) : BsAt Y.heap.size Y (some ⟨g, 0, none⟩) l c0 := by
  obtain ⟨a, c, e, hm, hle, -, hno, -⟩ := h.own.form
  rw [h.len] at e hle
  cases e
  exact ⟨hm, hno, by rw [h.len]; exact hle, by rw [h.len]; decide⟩
theorem FsS.set (h : FsS w n₀ b5 b6 b8 g c0 a1 c1 l Y) (i : Nat) (c : UInt8) : FsS w n₀ b5 b6 b8 g c0 a1 c1 (l.set i c) (Y.setCell ⟨g, i, none⟩ (.int .u8 (c.toNat : Int))) := by
  obtain ⟨h1, h2, ⟨cs, hcs⟩, -, -⟩ := h.blk
  have hg := set_grown Y ⟨g, i, none⟩ (.int .u8 (c.toNat : Int))
  have hne : ∀ {b : Nat} {x : Array Value} {t : TypeId}, Y.heap[b]? = some (.cells x t (0, 0)) → t ≠ 5 → some b ≠ some g := fun hx ht e => by
    cases e; rw [hcs] at hx; cases hx; exact ht rfl
  have hlt : ∀ {b : Nat} {o : Obj}, Y.heap[b]? = some o → b < Y.heap.size := fun hx => (Array.getElem?_eq_some_iff.1 hx).1
  exact ⟨h.tab, h.tabs, h.below.grown hg h.below.size (fun q e => by cases e; exact Nat.le_trans h.lo h1), h.lo, by rw [List.length_set]; exact h.len,
    (hg.block _ (hlt h.r5) (hne h.r5 (by decide))).trans h.r5, (hg.block _ (hlt h.r6) (hne h.r6 (by decide))).trans h.r6, (hg.block _ (hlt h.r8) (hne h.r8 (by decide))).trans h.r8, h.own.set i c⟩
end
theorem opt_set {i : Nat} (hi : i < 256) {c : UInt8} (hc : c ≠ mt0.raw[i]?.getD 0) : Opt 0 (mt0.raw.set i c) none := fun m hm => by
  have h1 := (isMt_self mt0_ok).look.2.2.1
  have h2 := parseE_look hm.look.2.2.1
  have h3 := byte_changed (Mt.raw_len mt0_ok) (look_raw (parseE_look h1)).2.2.2.2.1 hi hc
  rw [(look_raw h2).2.2.2.2.1] at h3
  cases h3
theorem opt_nil' (n : Int) : Opt n [] none := fun m h => by have := h.look.2.1; cases this
theorem set_same {l : List UInt8} {i : Nat} (hi : i < l.length) : l.set i (l[i]?.getD 0) = l := by
  rw [List.getElem?_eq_getElem hi]; simp
set_option maxRecDepth 100000 in
set_option maxHeartbeats 16000000 in
theorem metaFirst_any (k : Int) (x : UInt8) (w : World) (hT : Tab w) (hg : 0 + 1 ≤ w.heap.size) :
    Calls Tryd.prog 7 #[.int .i64 k, .int .u8 (x.toNat : Int)] w fun e w' => e = .returned (.bool true) ∧ Below w.heap.size w w' := by
  have HF := Lib.hid (first_any w hT hg)
  have HT := Lib.hid (And.intro hT hg)
  clear hT hg
  go_enter Tryd.func7, Tryd.ntmps7
  go_wp2_with fail
  refine HF.out.mono ?_
  rintro e w1 ⟨a0, c0, a1, c1, n₁, rfl, hb1, hn1, -, hO0, -, hO1⟩
  obtain ⟨a0', c0', ev, hm0, hno0, hle0⟩ := own256 mt0_ok hO0
  cases ev
  obtain ⟨a1', c1', ev, hm1, hno1, hle1⟩ := own256 mt1_ok hO1
  cases ev
  obtain ⟨g, rfl⟩ : ∃ g, a0 = some ⟨g, 0, none⟩ := by
    obtain ⟨-, ⟨e, -⟩ | ⟨g, cap, cur, e, -⟩⟩ := hO0
    · cases e
    · cases e; exact ⟨g, rfl⟩
  have hal := (Below.refl w1.heap.size w1).alloc (Nat.le_refl _) (.cells #[.slice (some ⟨g, 0, none⟩) 256 c0, .slice a1 256 c1] 44)
  have hr5 := heap_alloc_new w1 (.cells #[.slice (some ⟨g, 0, none⟩) 256 c0, .slice a1 256 c1] 44)
  have hb2 := go_on hb1 hal
  have hp0 := mparse_opt 0 mt0.raw (some ⟨g, 0, none⟩) c0 _ (by rw [Mt.raw_len mt0_ok]; exact hle0) (by rw [Mt.raw_len mt0_ok]; decide) _ (hm0.below hal) hal.size hno0 (HT.out.1.below HT.out.2 hb2) (Nat.le_trans HT.out.2 hb2.size) (some mt0) (isMt_self mt0_ok)
  rw [Mt.raw_len mt0_ok, show optM (some mt0) = mtv 0 0 0 2 from rfl, show optE 0 mt0.raw (some mt0) = 0 from rfl] at hp0
  have HP := Lib.hid hp0
  have HX := Lib.hid (And.intro hb2 (And.intro hr5 (And.intro (hO0.below hal) (And.intro (hm1.below hal) hal.size))))
  clear hp0 hal hr5 hb2 hb1 hn1 hO0 hO1 hm0 hm1 hno0 hle0 HF
  go_wp2_with fail
  refine HP.out.mono ?_
  rintro e w2 ⟨rfl, hb2⟩
  obtain ⟨hbw, hr5, hO0, hm1, hsz⟩ := HX.out
  have hal := (Below.refl w2.heap.size w2).alloc (Nat.le_refl _) (.cells #[.int .i64 0, .int .i64 0, .int .i64 0, .int .i64 2] 25)
  have hr6 := heap_alloc_new w2 (.cells #[.int .i64 0, .int .i64 0, .int .i64 0, .int .i64 2] 25)
  have hbw2 := go_on (go_on hbw hb2) hal
  have hm1' := (hm1.below (hb2.mono hsz)).below (hal.mono (Nat.le_trans hsz hb2.size))
  have hp1 := mparse_opt 1 mt1.raw a1 c1 _ (by rw [Mt.raw_len mt1_ok]; exact hle1) (by rw [Mt.raw_len mt1_ok]; decide) _ hm1' (Nat.le_trans (Nat.le_trans hsz hb2.size) hal.size) hno1 (HT.out.1.below HT.out.2 hbw2) (Nat.le_trans HT.out.2 hbw2.size) (some mt1) (isMt_self mt1_ok)
  rw [Mt.raw_len mt1_ok, show optM (some mt1) = mtv 1 0 0 2 from rfl, show optE 1 mt1.raw (some mt1) = 0 from rfl] at hp1
  have HP1 := Lib.hid hp1
  have hr5b := go_row hr5 hb2
  have l5 := (Array.getElem?_eq_some_iff.1 hr5b).1
  have p0 := cell_of_row w2 w1.heap.size 0 _ _ _ hr5b
  have p1 := cell_of_row w2 w1.heap.size 1 _ _ _ hr5b
  simp only [List.getElem?_toArray, List.getElem?_cons_zero, List.getElem?_cons_succ] at p0 p1
  have HX2 := Lib.hid (And.intro hbw2 (And.intro (go_row hr5b hal) (And.intro hr6 ((hO0.below hb2).below hal))))
  clear hp1 hbw hr5 hO0 hm1 hsz hal hr6 hbw2 hm1' hr5b hb2 HX HP hno1 hle1
  go_wp2_with fail
  refine HP1.out.mono ?_
  rintro e w3 ⟨rfl, hb3⟩
  obtain ⟨hbw, hr5, hr6, hO0⟩ := HX2.out
  have hal := (Below.refl w3.heap.size w3).alloc (Nat.le_refl _) (.cells #[.int .i64 1, .int .i64 0, .int .i64 0, .int .i64 2] 25)
  have hr8 := heap_alloc_new w3 (.cells #[.int .i64 1, .int .i64 0, .int .i64 0, .int .i64 2] 25)
  have hS3 : FsS w w.heap.size w1.heap.size w2.heap.size w3.heap.size g c0 a1 c1 mt0.raw (w3.alloc (.cells #[.int .i64 1, .int .i64 0, .int .i64 0, .int .i64 2] 25)) :=
    ⟨HT.out.1, HT.out.2, go_on (go_on hbw hb3) hal, Nat.le_refl _, Mt.raw_len mt0_ok, go_row (go_row hr5 hb3) hal, go_row (go_row hr6 hb3) hal, hr8, (hO0.below hb3).below hal⟩
  clear p0 p1 l5
  have hr5c := go_row hr5 hb3
  have hr6c := go_row hr6 hb3
  have hO3 := hO0.below hb3
  obtain ⟨hg0, hg1, ⟨gcs, hgcs⟩, hg3, hgc⟩ := own_cells hO3 (Mt.raw_len mt0_ok)
  have hne5 : some w1.heap.size ≠ some g := fun e => by
    have e2 : w1.heap.size = g := Option.some.inj e
    rw [e2, hgcs] at hr5c
    cases hr5c
  have HR5 := Lib.hid (And.intro hne5 hr5c)
  have l5 := (Array.getElem?_eq_some_iff.1 hr5c).1
  have l6 := (Array.getElem?_eq_some_iff.1 hr6c).1
  have p0 := cell_of_row w3 w1.heap.size 0 _ _ _ hr5c
  have p1 := cell_of_row w3 w1.heap.size 1 _ _ _ hr5c
  have q0 := cell_of_row w3 w2.heap.size 0 _ _ _ hr6c
  have q1 := cell_of_row w3 w2.heap.size 1 _ _ _ hr6c
  have q2 := cell_of_row w3 w2.heap.size 2 _ _ _ hr6c
  have q3 := cell_of_row w3 w2.heap.size 3 _ _ _ hr6c
  simp only [List.getElem?_toArray, List.getElem?_cons_zero, List.getElem?_cons_succ] at p0 p1 q0 q1 q2 q3
  have HS3 := Lib.hid hS3
  clear hbw hr5 hr6 hO0 hal hr8 hb3 HX2 HP1 hS3 hr5c hr6c hO3 hne5 hgcs
  by_cases h1 : 0 ≤ k
  case neg =>
    have HS := HS3
    clear hgc hg0 hg1 hg3 HS3
    go_wp2_with fail
    refine (first_any _ HS.out.mtab.1 HS.out.mtab.2).mono ?_
    rintro e w5 ⟨u0, d0, u1, d1, n₂, rfl, hb5, hn2, -, hQ0, -, hQ1⟩
    obtain ⟨u0', d0', ev, hv0, hnv0, hlv0⟩ := own256 mt0_ok hQ0
    cases ev
    obtain ⟨u1', d1', ev, hv1, hnv1, hlv1⟩ := own256 mt1_ok hQ1
    cases ev
    have hal5 := (Below.refl w5.heap.size w5).alloc (Nat.le_refl _) (.cells #[.slice u0 256 d0, .slice u1 256 d1] 44)
    have hS5 := (HS.out.next hb5).next hal5
    have hcn := counts_any u0 u1 mt0.raw mt1.raw d0 d1 (some mt0) (some mt1) (isMt_self mt0_ok) (isMt_self mt1_ok) _ _ hal5.size (BsAt.raw mt0_ok (hv0.below hal5) hnv0 hlv0) (BsAt.raw mt1_ok (hv1.below hal5) hnv1 hlv1) hS5.mtab.1 hS5.mtab.2
    rw [Mt.raw_len mt0_ok, Mt.raw_len mt1_ok, show cnt (some mt0) (some mt1) = some mt1 from rfl, show optM (some mt1) = mtv 1 0 0 2 from rfl, show cntE (some mt1) = 0 from rfl] at hcn
    have HC5 := Lib.hid hcn
    have HS5 := Lib.hid hS5
    clear hcn hS5 hal5 hb5 hn2 hQ0 hQ1 hv0 hnv0 hlv0 hv1 hnv1 hlv1
    go_wp2_with fail
    refine HC5.out.mono ?_
    rintro e w6 ⟨rfl, hb6⟩
    have hS6 := HS5.out.next hb6
    have hal6 := (Below.refl w6.heap.size w6).alloc (Nat.le_refl _) (.cells #[.int .i64 1, .int .i64 0, .int .i64 0, .int .i64 2] 25)
    have hS7 := hS6.next hal6
    have HK := Lib.hid (And.intro hS7.below (mknown_any _ hS7.mtab.1 hS7.mtab.2))
    have l8 := (Array.getElem?_eq_some_iff.1 hS6.r8).1
    have k0 := cell_of_row w6 _ 0 _ _ _ hS6.r8
    have k1 := cell_of_row w6 _ 1 _ _ _ hS6.r8
    have k2 := cell_of_row w6 _ 2 _ _ _ hS6.r8
    have k3 := cell_of_row w6 _ 3 _ _ _ hS6.r8
    simp only [List.getElem?_toArray, List.getElem?_cons_zero, List.getElem?_cons_succ] at k0 k1 k2 k3
    clear hS6 hal6 hS7 hb6 HS5 HC5 HS
    go_wp2_with (go_at_call 8; refine HK.out.2.mono ?_; rintro e w8 ⟨rfl, hb8⟩; have HB8 := Lib.hid hb8; clear hb8)
    go_ret
    exact ⟨rfl, go_on HK.out.1 HB8.out⟩
  by_cases h2 : k < 256
  case neg =>
    have HS := HS3
    clear hgc hg0 hg1 hg3 HS3
    go_wp2_with fail
    refine (first_any _ HS.out.mtab.1 HS.out.mtab.2).mono ?_
    rintro e w5 ⟨u0, d0, u1, d1, n₂, rfl, hb5, hn2, -, hQ0, -, hQ1⟩
    obtain ⟨u0', d0', ev, hv0, hnv0, hlv0⟩ := own256 mt0_ok hQ0
    cases ev
    obtain ⟨u1', d1', ev, hv1, hnv1, hlv1⟩ := own256 mt1_ok hQ1
    cases ev
    have hal5 := (Below.refl w5.heap.size w5).alloc (Nat.le_refl _) (.cells #[.slice u0 256 d0, .slice u1 256 d1] 44)
    have hS5 := (HS.out.next hb5).next hal5
    have hcn := counts_any u0 u1 mt0.raw mt1.raw d0 d1 (some mt0) (some mt1) (isMt_self mt0_ok) (isMt_self mt1_ok) _ _ hal5.size (BsAt.raw mt0_ok (hv0.below hal5) hnv0 hlv0) (BsAt.raw mt1_ok (hv1.below hal5) hnv1 hlv1) hS5.mtab.1 hS5.mtab.2
    rw [Mt.raw_len mt0_ok, Mt.raw_len mt1_ok, show cnt (some mt0) (some mt1) = some mt1 from rfl, show optM (some mt1) = mtv 1 0 0 2 from rfl, show cntE (some mt1) = 0 from rfl] at hcn
    have HC5 := Lib.hid hcn
    have HS5 := Lib.hid hS5
    clear hcn hS5 hal5 hb5 hn2 hQ0 hQ1 hv0 hnv0 hlv0 hv1 hnv1 hlv1
    go_wp2_with fail
    refine HC5.out.mono ?_
    rintro e w6 ⟨rfl, hb6⟩
    have hS6 := HS5.out.next hb6
    have hal6 := (Below.refl w6.heap.size w6).alloc (Nat.le_refl _) (.cells #[.int .i64 1, .int .i64 0, .int .i64 0, .int .i64 2] 25)
    have hS7 := hS6.next hal6
    have HK := Lib.hid (And.intro hS7.below (mknown_any _ hS7.mtab.1 hS7.mtab.2))
    have l8 := (Array.getElem?_eq_some_iff.1 hS6.r8).1
    have k0 := cell_of_row w6 _ 0 _ _ _ hS6.r8
    have k1 := cell_of_row w6 _ 1 _ _ _ hS6.r8
    have k2 := cell_of_row w6 _ 2 _ _ _ hS6.r8
    have k3 := cell_of_row w6 _ 3 _ _ _ hS6.r8
    simp only [List.getElem?_toArray, List.getElem?_cons_zero, List.getElem?_cons_succ] at k0 k1 k2 k3
    clear hS6 hal6 hS7 hb6 HS5 HC5 HS
    go_wp2_with (go_at_call 8; refine HK.out.2.mono ?_; rintro e w8 ⟨rfl, hb8⟩; have HB8 := Lib.hid hb8; clear hb8)
    go_ret
    exact ⟨rfl, go_on HK.out.1 HB8.out⟩
  obtain ⟨i, rfl⟩ : ∃ i : Nat, k = i := ⟨k.toNat, by omega⟩
  obtain ⟨hgi, hfi⟩ := hgc i (by omega)
  obtain ⟨y, hy⟩ : ∃ y, mt0.raw[i]?.getD 0 = y := ⟨_, rfl⟩
  rw [hy] at hgi
  have hx8 := xor8 (x := y.toNat) (y := x.toNat) y.toNat_lt x.toNat_lt
  have hS4 := HS3.out.set i (y ^^^ x)
  rw [World.setCell_alloc_past (hn := hg1), UInt8.toNat_xor] at hS4
  have HS4 := Lib.hid hS4
  have HY := Lib.hid hy
  have hi : i < 256 := by omega
  have HI := Lib.hid hi
  clear hS4 hy hgc HS3 hg0 hg3 h1 hi
  have hr5s := ((set_grown w3 ⟨g, i, none⟩ (.int .u8 ((y.toNat ^^^ x.toNat : Nat) : Int))).block w1.heap.size l5 HR5.out.1).trans HR5.out.2
  have l5s := (Array.getElem?_eq_some_iff.1 hr5s).1
  have s0 := cell_of_row (w3.setCell ⟨g, i, none⟩ (.int .u8 ((y.toNat ^^^ x.toNat : Nat) : Int))) w1.heap.size 0 _ _ _ hr5s
  simp only [List.getElem?_toArray, List.getElem?_cons_zero] at s0
  clear hr5s HR5
  by_cases hx0 : x = 0
  · skip
    have hraw : mt0.raw.set i (y ^^^ x) = mt0.raw := by rw [hx0, UInt8.xor_zero, ← HY.out]; exact set_same (by rw [Mt.raw_len mt0_ok]; exact HI.out)
    have hopt : Opt 0 (mt0.raw.set i (y ^^^ x)) (some mt0) := by rw [hraw]; exact isMt_self mt0_ok
    have tokx : ((x.toNat : Int) == 0) = true := by rw [hx0]; rfl
    have hcn := counts_any (some ⟨g, 0, none⟩) none (mt0.raw.set i (y ^^^ x)) [] c0 0 (some mt0) none hopt (opt_nil' 1) _ _ (Nat.le_refl _) HS4.out.bs ⟨.nil, fun _ => rfl, Nat.le_refl _, by decide⟩ HS4.out.mtab.1 HS4.out.mtab.2
    rw [HS4.out.len, show cnt (some mt0) none = (some mt0) from rfl, show optM (some mt0) = mtv 0 0 0 2 from rfl, show cntE (some mt0) = 0 from rfl] at hcn
    have HC := Lib.hid hcn
    clear hcn hopt hx0 hraw
    go_wp2_with fail
    refine HC.out.mono ?_
    rintro e w4 ⟨rfl, hb4⟩
    have hS := HS4.out.next hb4
    have hal4 := (Below.refl w4.heap.size w4).alloc (Nat.le_refl _) (.cells #[.int .i64 0, .int .i64 0, .int .i64 0, .int .i64 2] 25)
    have HS := Lib.hid (hS.next hal4)
    have l6' := (Array.getElem?_eq_some_iff.1 hS.r6).1
    have z0 := cell_of_row w4 _ 0 _ _ _ hS.r6
    have z1 := cell_of_row w4 _ 1 _ _ _ hS.r6
    have z2 := cell_of_row w4 _ 2 _ _ _ hS.r6
    have z3 := cell_of_row w4 _ 3 _ _ _ hS.r6
    simp only [List.getElem?_toArray, List.getElem?_cons_zero, List.getElem?_cons_succ] at z0 z1 z2 z3
    clear hS hal4 hb4 HC HS4 p0 p1 q0 q1 q2 q3 l5 l6 hgi hfi hx8 l5s s0 hg1
    go_wp2_with fail
    refine (first_any _ HS.out.mtab.1 HS.out.mtab.2).mono ?_
    rintro e w5 ⟨u0, d0, u1, d1, n₂, rfl, hb5, hn2, -, hQ0, -, hQ1⟩
    obtain ⟨u0', d0', ev, hv0, hnv0, hlv0⟩ := own256 mt0_ok hQ0
    cases ev
    obtain ⟨u1', d1', ev, hv1, hnv1, hlv1⟩ := own256 mt1_ok hQ1
    cases ev
    have hal5 := (Below.refl w5.heap.size w5).alloc (Nat.le_refl _) (.cells #[.slice u0 256 d0, .slice u1 256 d1] 44)
    have hS5 := (HS.out.next hb5).next hal5
    have hcn := counts_any u0 u1 mt0.raw mt1.raw d0 d1 (some mt0) (some mt1) (isMt_self mt0_ok) (isMt_self mt1_ok) _ _ hal5.size (BsAt.raw mt0_ok (hv0.below hal5) hnv0 hlv0) (BsAt.raw mt1_ok (hv1.below hal5) hnv1 hlv1) hS5.mtab.1 hS5.mtab.2
    rw [Mt.raw_len mt0_ok, Mt.raw_len mt1_ok, show cnt (some mt0) (some mt1) = some mt1 from rfl, show optM (some mt1) = mtv 1 0 0 2 from rfl, show cntE (some mt1) = 0 from rfl] at hcn
    have HC5 := Lib.hid hcn
    have HS5 := Lib.hid hS5
    clear hcn hS5 hal5 hb5 hn2 hQ0 hQ1 hv0 hnv0 hlv0 hv1 hnv1 hlv1
    go_wp2_with fail
    refine HC5.out.mono ?_
    rintro e w6 ⟨rfl, hb6⟩
    have hS6 := HS5.out.next hb6
    have hal6 := (Below.refl w6.heap.size w6).alloc (Nat.le_refl _) (.cells #[.int .i64 1, .int .i64 0, .int .i64 0, .int .i64 2] 25)
    have hS7 := hS6.next hal6
    have HK := Lib.hid (And.intro hS7.below (mknown_any _ hS7.mtab.1 hS7.mtab.2))
    have l8 := (Array.getElem?_eq_some_iff.1 hS6.r8).1
    have k0 := cell_of_row w6 _ 0 _ _ _ hS6.r8
    have k1 := cell_of_row w6 _ 1 _ _ _ hS6.r8
    have k2 := cell_of_row w6 _ 2 _ _ _ hS6.r8
    have k3 := cell_of_row w6 _ 3 _ _ _ hS6.r8
    simp only [List.getElem?_toArray, List.getElem?_cons_zero, List.getElem?_cons_succ] at k0 k1 k2 k3
    clear hS6 hal6 hS7 hb6 HS5 HC5 HS
    go_wp2_with (go_at_call 8; refine HK.out.2.mono ?_; rintro e w8 ⟨rfl, hb8⟩; have HB8 := Lib.hid hb8; clear hb8)
    go_ret
    exact ⟨rfl, go_on HK.out.1 HB8.out⟩
  · skip
    have hopt : Opt 0 (mt0.raw.set i (y ^^^ x)) none := opt_set HI.out (by
      rw [HY.out]
      intro e
      have h := congrArg (fun z => y ^^^ z) e
      simp only [← UInt8.xor_assoc, UInt8.xor_self, UInt8.zero_xor] at h
      exact hx0 h)
    have tokx : ((x.toNat : Int) == 0) = false := by simpa using fun e => hx0 (UInt8.toNat_inj.1 e)
    have hcn := counts_any (some ⟨g, 0, none⟩) none (mt0.raw.set i (y ^^^ x)) [] c0 0 none none hopt (opt_nil' 1) _ _ (Nat.le_refl _) HS4.out.bs ⟨.nil, fun _ => rfl, Nat.le_refl _, by decide⟩ HS4.out.mtab.1 HS4.out.mtab.2
    rw [HS4.out.len, show cnt none none = none from rfl, show optM none = mtv 0 0 0 0 from rfl, show cntE none = 160 from rfl] at hcn
    have HC := Lib.hid hcn
    clear hcn hopt hx0
    go_wp2_with fail
    refine HC.out.mono ?_
    rintro e w4 ⟨rfl, hb4⟩
    have hS := HS4.out.next hb4
    have hal4 := (Below.refl w4.heap.size w4).alloc (Nat.le_refl _) (.cells #[.int .i64 0, .int .i64 0, .int .i64 0, .int .i64 0] 25)
    have HS := Lib.hid (hS.next hal4)
    have l6' := (Array.getElem?_eq_some_iff.1 hS.r6).1
    have z0 := cell_of_row w4 _ 0 _ _ _ hS.r6
    have z1 := cell_of_row w4 _ 1 _ _ _ hS.r6
    have z2 := cell_of_row w4 _ 2 _ _ _ hS.r6
    have z3 := cell_of_row w4 _ 3 _ _ _ hS.r6
    simp only [List.getElem?_toArray, List.getElem?_cons_zero, List.getElem?_cons_succ] at z0 z1 z2 z3
    clear hS hal4 hb4 HC HS4 p0 p1 q0 q1 q2 q3 l5 l6 hgi hfi hx8 l5s s0 hg1
    go_wp2_with fail
    refine (first_any _ HS.out.mtab.1 HS.out.mtab.2).mono ?_
    rintro e w5 ⟨u0, d0, u1, d1, n₂, rfl, hb5, hn2, -, hQ0, -, hQ1⟩
    obtain ⟨u0', d0', ev, hv0, hnv0, hlv0⟩ := own256 mt0_ok hQ0
    cases ev
    obtain ⟨u1', d1', ev, hv1, hnv1, hlv1⟩ := own256 mt1_ok hQ1
    cases ev
    have hal5 := (Below.refl w5.heap.size w5).alloc (Nat.le_refl _) (.cells #[.slice u0 256 d0, .slice u1 256 d1] 44)
    have hS5 := (HS.out.next hb5).next hal5
    have hcn := counts_any u0 u1 mt0.raw mt1.raw d0 d1 (some mt0) (some mt1) (isMt_self mt0_ok) (isMt_self mt1_ok) _ _ hal5.size (BsAt.raw mt0_ok (hv0.below hal5) hnv0 hlv0) (BsAt.raw mt1_ok (hv1.below hal5) hnv1 hlv1) hS5.mtab.1 hS5.mtab.2
    rw [Mt.raw_len mt0_ok, Mt.raw_len mt1_ok, show cnt (some mt0) (some mt1) = some mt1 from rfl, show optM (some mt1) = mtv 1 0 0 2 from rfl, show cntE (some mt1) = 0 from rfl] at hcn
    have HC5 := Lib.hid hcn
    have HS5 := Lib.hid hS5
    clear hcn hS5 hal5 hb5 hn2 hQ0 hQ1 hv0 hnv0 hlv0 hv1 hnv1 hlv1
    go_wp2_with fail
    refine HC5.out.mono ?_
    rintro e w6 ⟨rfl, hb6⟩
    have hS6 := HS5.out.next hb6
    have hal6 := (Below.refl w6.heap.size w6).alloc (Nat.le_refl _) (.cells #[.int .i64 1, .int .i64 0, .int .i64 0, .int .i64 2] 25)
    have hS7 := hS6.next hal6
    have HK := Lib.hid (And.intro hS7.below (mknown_any _ hS7.mtab.1 hS7.mtab.2))
    have l8 := (Array.getElem?_eq_some_iff.1 hS6.r8).1
    have k0 := cell_of_row w6 _ 0 _ _ _ hS6.r8
    have k1 := cell_of_row w6 _ 1 _ _ _ hS6.r8
    have k2 := cell_of_row w6 _ 2 _ _ _ hS6.r8
    have k3 := cell_of_row w6 _ 3 _ _ _ hS6.r8
    simp only [List.getElem?_toArray, List.getElem?_cons_zero, List.getElem?_cons_succ] at k0 k1 k2 k3
    clear hS6 hal6 hS7 hb6 HS5 HC5 HS
    go_wp2_with (go_at_call 8; refine HK.out.2.mono ?_; rintro e w8 ⟨rfl, hb8⟩; have HB8 := Lib.hid hb8; clear hb8)
    go_ret
    exact ⟨rfl, go_on HK.out.1 HB8.out⟩
end Go.Proofs.YtaijjlaheoamaaaDoor
/- MetaFirst: for every place and every byte: both first metas are whole, of no Root and no Free; where one byte of the first one's bytes is changed in any way, it counts no more, and each call tells bytes of its own; it answers true, and the arguments read as before. No condition but the table, which the card ties to the program's text. -/
namespace Go.Proofs.YtaijjlaheoamaaaDoor.metaFirst
open Go.ChangeShapes Go.WideShapes Go.ChangeAt Go.RowKit

theorem laid_met (os : Os) : laidMet Tryd.prog Rows.metaFirstRow.laid ((laidWorld os).forCall (fun _ _ => 0) ⟨#[], #[.int .i64 0, .int .u8 0], []⟩).memory :=
  laidMet_of_run' 8 (by kernel_rfl) (by kernel_rfl)
theorem reads (os : Os) {H : Type} (enc : TypeId × Value → H) : ∃ places, DataW.whole enc Tryd.prog ((laidWorld os).forCall (fun _ _ => 0) ⟨#[], #[.int .i64 0, .int .u8 0], []⟩).memory Tryd.f7.params.toList Rows.metaFirstSpec.vars false (#[.int .i64 0, .int .u8 0] : Array Value).toList 8 = some ([.lit (.int .i64 0), .lit (.int .u8 0)], [], places) :=
  ⟨[], by kernel_rfl⟩

set_option maxRecDepth 100000 in
theorem contract (H : Type) (enc : TypeId × Value → H) (W : World) (base : Nat) (args : Array Value) (ds gs : List (DataW H)) (before : List MemPlace)
    (hval : ∀ (j : Nat) t v, Tryd.f7.params[j]? = some t → args[j]? = some v → Value.okWide Tryd.prog W .any base t v)
    (hW : DataW.Whole enc Tryd.prog Tryd.f7.params.toList Rows.metaFirstSpec.vars false W args.toList ds gs before) (hL : laidMetH Tryd.prog Rows.metaFirstRow.laid W) :
    Calls Tryd.prog 7 args W fun e W' => ∃ v, e = .returned v ∧ Rows.metaFirstSpec.post enc Tryd.prog Tryd.f7 false true false false W args v W' := by
  have hW' := hW
  obtain ⟨p, q, hA0, hV, rfl, hfz, hnd⟩ := hW
  have hA : DataW.TrodAll enc Tryd.prog W 0 (fun _ => true) true Tryd.f7.params.toList args.toList ds p := hA0
  rw [Tryd.params7] at hA hval
  obtain ⟨rfl, rfl⟩ := trodVars_none hV
  obtain ⟨v0, vs0, d0, ds0, p0, q0, hargs, rfl, rfl, h0, r0⟩ := trodAll_cons hA
  obtain ⟨v1, vs1, d1, ds1, p1, q1, rfl, rfl, rfl, h1, r1⟩ := trodAll_cons r0
  obtain ⟨rfl, rfl, rfl⟩ := trodAll_nil r1
  obtain rfl : args = #[v0, v1] := by cases args; simp_all
  obtain ⟨k, rfl, -, -, -⟩ := open_int Tryd.underlying3 (hval 0 3 v0 rfl rfl) h0
  obtain ⟨z, rfl, -, -, hz⟩ := open_int Tryd.underlying5 (hval 1 5 v1 rfl rfl) h1
  obtain ⟨x, hx⟩ : ∃ x : UInt8, (x.toNat : Int) = z := by
    have := wf_u8 hz
    refine ⟨UInt8.ofNat z.toNat, ?_⟩
    rw [UInt8.toNat_ofNat_of_lt' (by have : UInt8.size = 256 := rfl; omega)]
    omega
  subst hx
  refine (metaFirst_any k x W (tab hL) (by simpa using tab_size (tab hL))).mono fun e W' ⟨he, hb⟩ => ?_
  subst he
  exact ⟨_, rfl, law_post laidOut (fun t ht => types_ok t (by rw [Tryd.params7] at ht; revert ht; decide +revert)) rfl hW' rfl rfl rfl Tryd.underlying4 (by kernel_rfl) hb⟩

set_option maxRecDepth 100000 in
theorem lifted (os : Os) (started : os.Started) (H : Type) (enc : TypeId × Value → H) (F : Stop.Interp) :
    ReturnsInHanded {} Tryd.checked os 7 .any ((OpenSpec.ofChange Rows.metaFirstSpec).preRow enc Tryd.prog Tryd.f7 Rows.metaFirstRow.domain false Rows.metaFirstRow.laid) (((OpenSpec.ofChange Rows.metaFirstSpec).at F).post enc Tryd.prog Tryd.f7 false true false false) := by
  obtain ⟨places, hx⟩ := reads os enc
  refine returnsInHanded_of_row (C := Tryd.checked) (s := OpenSpec.ofChange Rows.metaFirstSpec) own started (by kernel_rfl) Tryd.func7
    (witness_row_at (enc := enc) (C := Tryd.checked) false (laidWorld os) #[.int .i64 0, .int .u8 0] rfl (by kernel_rfl) (by kernel_rfl) (by kernel_rfl)
      (OpenSpec.preRow_of_cond 8 hx (by kernel_rfl) (fun k hk => by cases hk) (by kernel_rfl) (laid_met os))) ?_
  intro W base args ds gs before hval hW _ _ _ hL _ _
  exact contract H enc W base args ds gs before hval hW hL

theorem said : Rows.MetaFirstSaid :=
  OpenClaim.holds_of_cond 7 Tryd.f7 rfl rfl rfl rfl rfl rfl rfl ⟨rfl, rfl, rfl, rfl, rfl⟩ rfl rfl rfl rfl rfl (by kernel_rfl) Tryd.func7 (by kernel_rfl)
    (of_decide_eq_true (by kernel_rfl)) (by unfold Func.isWrapper; first | (rw [if_pos (by decide +kernel)]; kernel_rfl) | (rw [if_neg (by decide +kernel)]; exact ⟨rfl, rfl⟩))
    (fun os started H enc _ F => by rw [OpenClaim.pre_eq_preRow]; exact lifted os started H enc F)

theorem plain (f : FuncId) (fn : Func) (hf : Tryd.pinned.checked.prog.funcNamed "pigeonry/pigeonrylaw06.MetaFirst" = some f) (hfn : Tryd.pinned.checked.prog.funcs[f]? = some fn) :
    true = Tryd.pinned.checked.prog.looks [] ∧ ∀ (j : Nat) t, fn.params[j]? = some t → Tryd.pinned.checked.prog.wantsStandIn t = false := by
  obtain rfl : f = 7 := Option.some.inj ((show Tryd.prog.funcNamed "pigeonry/pigeonrylaw06.MetaFirst" = some 7 by kernel_rfl).symm.trans hf) |>.symm
  obtain rfl : fn = Tryd.f7 := (Option.some.inj (Tryd.func7.symm.trans hfn)).symm
  refine ⟨by kernel_rfl, fun j t ht => ?_⟩
  rw [Tryd.params7] at ht
  have h : ∀ t ∈ Tryd.f7.params.toList, Tryd.prog.wantsStandIn t = false := by
    have h : ((Tryd.f7.params.toList).all fun t => !Tryd.prog.wantsStandIn t) = true := by kernel_rfl
    intro t ht
    simpa using List.all_eq_true.1 h t ht
  exact h t (by rw [Tryd.params7]; exact Array.mem_toList_iff.2 (Array.mem_of_getElem? ht))

/-- THE CARD. -/
theorem card : Rows.MetaFirstCardSaid :=
  Claim7.holds_tied_plain_at .later [] _ _ _ _ said (fun _ h => by cases h) (by kernel_rfl) (fun _ h => by cases h) metaFirst_row_tie rfl ⟨rfl, rfl⟩ (by kernel_rfl) rfl plain (by kernel_rfl)
end Go.Proofs.YtaijjlaheoamaaaDoor.metaFirst
