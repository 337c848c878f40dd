/- Layer 4: pages and their bytes, as plain functions: the bytes of a page tell the page; bytes that tell a page are the page's. -/
import Derived.Test.YtjfpgclaefbhjaaDoorWireP
import Derived.Test.YtjfpgclaefbhjaaDoorPageF
namespace Go.Proofs.YtjfpgclaefbhjaaDoor
open Go.RowKit

theorem numOf_inj : ∀ (k : Nat) (l m : List UInt8), l.length = k → m.length = k → numOf l = numOf m → l = m
  | 0, l, m, hl, hm, _ => by rw [List.eq_nil_of_length_eq_zero hl, List.eq_nil_of_length_eq_zero hm]
  | k + 1, l, m, hl, hm, h => by
    have hl0 : l ≠ [] := by rintro rfl; simp at hl
    have hm0 : m ≠ [] := by rintro rfl; simp at hm
    rw [← List.dropLast_concat_getLast hl0, ← List.dropLast_concat_getLast hm0, numOf_snoc, numOf_snoc] at h
    have h1 := UInt8.toNat_lt (l.getLast hl0)
    have h2 := UInt8.toNat_lt (m.getLast hm0)
    have e1 := numOf_inj k l.dropLast m.dropLast (by simp [hl]) (by simp [hm]) (by omega)
    have e2 : l.getLast hl0 = m.getLast hm0 := UInt8.toNat_inj.1 (by omega)
    rw [← List.dropLast_concat_getLast hl0, ← List.dropLast_concat_getLast hm0, e1, e2]
theorem laid_numOf {l : List UInt8} {k : Nat} (h : l.length = k) : laidB (numOf l) k k = l :=
  numOf_inj k _ _ (laidB_len _ _ _) h (by
    have := numOf_lt l
    rw [h] at this
    exact numOf_whole this)
theorem noughts {l : List UInt8} (h : l.all (· == 0) = true) : l = List.replicate l.length 0 :=
  List.eq_replicate_iff.2 ⟨rfl, fun b hb => by simpa using List.all_eq_true.1 h b hb⟩
def pgOf (b : List UInt8) : Pg := ⟨atK b, atT b, atX b, atB b⟩
theorem wrap_small {t : Nat} (h : t ≤ 4611686018427387904) : wrap64 (t : Int) = t := by unfold wrap64; omega
theorem wrap_back {t : Nat} (h : t < 18446744073709551616) (h0 : 0 ≤ wrap64 (t : Int)) (h1 : wrap64 (t : Int) ≤ 4611686018427387904) : t ≤ 4611686018427387904 := by
  unfold wrap64 at h0 h1; omega
theorem Pg.ok_right {p : Pg} (h : p.ok) : rightB p.k (wrap64 p.t) p.x p.b.length = true := by
  obtain ⟨h1, h2, h3, h4, h5⟩ := h
  rw [wrap_small h3]
  simp [rightB, kindB, numB]; omega
/-- The bytes of a page, place by place. -/
theorem raw_places (n : Nat) (p : Pg) :
    (p.raw n).take 4 = laidB (crcSum (p.behind n)) 4 4 ∧ (p.raw n).drop 4 = p.behind n ∧ ((p.raw n).drop 4).take 1 = laidB p.k 1 1 ∧ ((p.raw n).drop 5).take 1 = laidB p.b.length 1 1 ∧
    ((p.raw n).drop 6).take 8 = laidB p.t 8 8 ∧ ((p.raw n).drop 14).take 4 = laidB n 4 4 ∧ ((p.raw n).drop 18).take 4 = laidB p.x 4 4 ∧ (p.raw n).drop 22 = laidB 0 2 2 ++ (p.b ++ List.replicate (232 - p.b.length) 0) := by
  have e : p.raw n = laidB (crcSum (p.behind n)) 4 4 ++ (laidB p.k 1 1 ++ (laidB p.b.length 1 1 ++ (laidB p.t 8 8 ++ (laidB n 4 4 ++ (laidB p.x 4 4 ++ (laidB 0 2 2 ++ (p.b ++ List.replicate (232 - p.b.length) 0))))))) := by
    rw [Pg.raw]; simp [laidParts, Pg.behind, Pg.parts]
  have eb : p.behind n = laidB p.k 1 1 ++ (laidB p.b.length 1 1 ++ (laidB p.t 8 8 ++ (laidB n 4 4 ++ (laidB p.x 4 4 ++ (laidB 0 2 2 ++ (p.b ++ List.replicate (232 - p.b.length) 0)))))) := by
    simp [laidParts, Pg.behind, Pg.parts]
  generalize p.raw n = r at e ⊢
  have d4 : r.drop 4 = p.behind n := by rw [e, drop_laid, eb]
  have d5 : r.drop 5 = laidB p.b.length 1 1 ++ (laidB p.t 8 8 ++ (laidB n 4 4 ++ (laidB p.x 4 4 ++ (laidB 0 2 2 ++ (p.b ++ List.replicate (232 - p.b.length) 0))))) := by rw [show 5 = 4 + 1 from rfl, ← List.drop_drop, d4, eb, drop_laid]
  have d6 : r.drop 6 = laidB p.t 8 8 ++ (laidB n 4 4 ++ (laidB p.x 4 4 ++ (laidB 0 2 2 ++ (p.b ++ List.replicate (232 - p.b.length) 0)))) := by rw [show 6 = 5 + 1 from rfl, ← List.drop_drop, d5, drop_laid]
  have d14 : r.drop 14 = laidB n 4 4 ++ (laidB p.x 4 4 ++ (laidB 0 2 2 ++ (p.b ++ List.replicate (232 - p.b.length) 0))) := by rw [show 14 = 6 + 8 from rfl, ← List.drop_drop, d6, drop_laid]
  have d18 : r.drop 18 = laidB p.x 4 4 ++ (laidB 0 2 2 ++ (p.b ++ List.replicate (232 - p.b.length) 0)) := by rw [show 18 = 14 + 4 from rfl, ← List.drop_drop, d14, drop_laid]
  have d22 : r.drop 22 = laidB 0 2 2 ++ (p.b ++ List.replicate (232 - p.b.length) 0) := by rw [show 22 = 18 + 4 from rfl, ← List.drop_drop, d18, drop_laid]
  refine ⟨by rw [e, take_laid], d4, by rw [d4, eb, take_laid], by rw [d5, take_laid], by rw [d6, take_laid], by rw [d14, take_laid], by rw [d18, take_laid], d22⟩
theorem raw_look {n : Nat} {p : Pg} (h : p.ok) (hn : n ≤ 4095) : lookE (p.raw n) = 0 ∧ pgOf (p.raw n) = p ∧ atN (p.raw n) = n := by
  obtain ⟨t4, d4, k1, s1, t8, n4, x4, d22⟩ := raw_places n p
  obtain ⟨h1, h2, h3, h4, h5⟩ := h
  have hl := Pg.raw_len (n := n) ⟨h1, h2, h3, h4, h5⟩
  have eK : atK (p.raw n) = p.k := by unfold atK; rw [k1, numOf_whole (by omega)]
  have eS : atS (p.raw n) = p.b.length := by unfold atS; rw [s1, numOf_whole (by omega)]
  have eT : atT (p.raw n) = p.t := by unfold atT; rw [t8, numOf_whole (by omega)]
  have eN : atN (p.raw n) = n := by unfold atN; rw [n4, numOf_whole (by omega)]
  have eX : atX (p.raw n) = p.x := by unfold atX; rw [x4, numOf_whole (by omega)]
  have eB : atB (p.raw n) = p.b := by
    unfold atB
    rw [eS, show 24 = 22 + 2 from rfl, ← List.drop_drop, d22, drop_laid, List.take_left]
  have hs : sumOk (p.raw n) = true := by
    unfold sumOk
    rw [t4, d4, numOf_whole (by have := crcSum_lt (p.behind n); omega)]; simp
  have hb : bodyOk ((p.raw n).drop 22) (atS (p.raw n)) = true := by
    rw [eS, d22]
    unfold bodyOk
    rw [take_laid, show 2 + p.b.length = 2 + p.b.length from rfl, ← List.drop_drop, drop_laid, List.drop_left]
    simp [laidB_len]
    exact ⟨by omega, by decide⟩
  have hr : restOk (p.raw n) = true := by
    unfold restOk
    rw [hb, eN, eK, eT, eX, eS, Pg.ok_right ⟨h1, h2, h3, h4, h5⟩]
    simp [numB]; omega
  refine ⟨?_, ?_, eN⟩
  · unfold lookE; rw [if_neg (by rw [hl]; simp), hs, hr]; rfl
  · unfold pgOf; rw [eK, eT, eX, eB]
theorem look_raw {b : List UInt8} (h : lookE b = 0) : (pgOf b).ok ∧ atN b ≤ 4095 ∧ (pgOf b).raw (atN b) = b ∧ b.length = 256 ∧ sumOk b = true ∧ restOk b = true ∧ atB b = (b.drop 24).take (atS b) ∧ (atB b).length = atS b := by
  unfold lookE at h
  split at h
  · cases h
  · rename_i hl
    have hl : b.length = 256 := by simpa using hl
    split at h
    · rename_i hs
      split at h
      · rename_i hr
        have hr0 := hr
        unfold restOk at hr
        simp only [Bool.and_eq_true] at hr
        obtain ⟨hbo, hn, hrt⟩ := hr
        have hT : atT b < 18446744073709551616 := num_lt b 6 8 (by omega)
        have hn2 : atN b ≤ 4095 := by simp [numB] at hn; omega
        simp only [rightB, kindB, numB, Bool.and_eq_true, decide_eq_true_eq] at hrt
        obtain ⟨⟨⟨⟨q1, q2⟩, q3⟩, q4⟩, q5⟩ := hrt
        have q6 := wrap_back hT q2 q3
        unfold bodyOk at hbo
        simp only [Bool.and_eq_true, decide_eq_true_eq] at hbo
        obtain ⟨z1, z2, z3⟩ := hbo
        rw [List.drop_drop] at z3
        have lB : (atB b).length = atS b := by unfold atB; rw [List.length_take, List.length_drop]; omega
        have hok : (pgOf b).ok := ⟨by unfold pgOf; dsimp only; omega, by unfold pgOf; dsimp only; omega, by unfold pgOf; dsimp only; omega, by unfold pgOf; dsimp only; omega, by unfold pgOf; dsimp only; omega⟩
        refine ⟨hok, hn2, ?_, hl, hs, hr0, rfl, lB⟩
        have p1 := laid_numOf (l := (b.drop 4).take 1) (k := 1) (by rw [List.length_take, List.length_drop]; omega)
        have p2 := laid_numOf (l := (b.drop 5).take 1) (k := 1) (by rw [List.length_take, List.length_drop]; omega)
        have p3 := laid_numOf (l := (b.drop 6).take 8) (k := 8) (by rw [List.length_take, List.length_drop]; omega)
        have p4 := laid_numOf (l := (b.drop 14).take 4) (k := 4) (by rw [List.length_take, List.length_drop]; omega)
        have p5 := laid_numOf (l := (b.drop 18).take 4) (k := 4) (by rw [List.length_take, List.length_drop]; omega)
        have p0 := laid_numOf (l := b.take 4) (k := 4) (by rw [List.length_take]; omega)
        have w2 := noughts z2
        have w3 := noughts z3
        rw [show ((b.drop 22).take 2).length = 2 by rw [List.length_take, List.length_drop]; omega] at w2
        rw [show (b.drop (22 + (2 + atS b))).length = 232 - atS b by rw [List.length_drop]; omega] at w3
        have cut : ∀ (i k : Nat), b.drop i = (b.drop i).take k ++ b.drop (i + k) := fun i k => by
          rw [← List.drop_drop, List.take_append_drop]
        have hbe : (pgOf b).behind (atN b) = b.drop 4 := by
          have e1 : (pgOf b).behind (atN b) = laidB (atK b) 1 1 ++ (laidB (atB b).length 1 1 ++ (laidB (atT b) 8 8 ++ (laidB (atN b) 4 4 ++ (laidB (atX b) 4 4 ++ (laidB 0 2 2 ++ (atB b ++ List.replicate (232 - (atB b).length) 0)))))) := by
            simp [laidParts, Pg.behind, Pg.parts, pgOf]
          rw [e1, lB]
          unfold atK atS atT atN atX atB at *
          rw [p1, p2, p3, p4, p5, show laidB 0 2 2 = List.replicate 2 0 by rfl, ← w2, ← w3]
          have c24 : (b.drop 24).take (atS b) ++ b.drop (22 + (2 + atS b)) = b.drop 24 := by
            rw [show 22 + (2 + atS b) = 24 + atS b by omega, ← cut 24 (atS b)]
          have c22 : (b.drop 22).take 2 ++ b.drop 24 = b.drop 22 := (cut 22 2).symm
          have c18 : (b.drop 18).take 4 ++ b.drop 22 = b.drop 18 := (cut 18 4).symm
          have c14 : (b.drop 14).take 4 ++ b.drop 18 = b.drop 14 := (cut 14 4).symm
          have c6 : (b.drop 6).take 8 ++ b.drop 14 = b.drop 6 := (cut 6 8).symm
          have c5 : (b.drop 5).take 1 ++ b.drop 6 = b.drop 5 := (cut 5 1).symm
          have c4 : (b.drop 4).take 1 ++ b.drop 5 = b.drop 4 := (cut 4 1).symm
          rw [show numOf (List.take 1 (List.drop 5 b)) = atS b from rfl, c24, c22, c18, c14, c6, c5, c4]
        rw [Pg.raw, hbe]
        unfold sumOk at hs
        rw [show laidParts [(crcSum (b.drop 4), 4)] = laidB (crcSum (b.drop 4)) 4 4 by simp [laidParts], ← (by simpa using hs : numOf (b.take 4) = crcSum (b.drop 4)), p0, List.take_append_drop]
      · cases h
    · cases h
end Go.Proofs.YtjfpgclaefbhjaaDoor
