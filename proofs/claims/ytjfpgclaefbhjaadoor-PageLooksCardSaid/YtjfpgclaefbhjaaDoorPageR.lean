/- Layer 4: the bytes of a page. -/
import Derived.Test.YtjfpgclaefbhjaaDoorPageC
import Derived.Test.YtjfpgclaefbhjaaDoorMakeB
namespace Go.Proofs.YtjfpgclaefbhjaaDoor
open Go.RowKit

/-- A page that may be. -/
structure Pg where
  k : Nat
  t : Nat
  x : Nat
  b : List UInt8
def Pg.ok (p : Pg) : Prop := 1 ≤ p.k ∧ p.k ≤ 5 ∧ p.t ≤ 4611686018427387904 ∧ p.x ≤ 4095 ∧ p.b.length ≤ 232
def Pg.parts (n : Nat) (p : Pg) : List (Nat × Nat) := [(p.k, 1), (p.b.length, 1), (p.t, 8), (n, 4), (p.x, 4), (0, 2)]
def Pg.behind (n : Nat) (p : Pg) : List UInt8 := laidParts (p.parts n) ++ (p.b ++ List.replicate (232 - p.b.length) 0)
def Pg.raw (n : Nat) (p : Pg) : List UInt8 := laidParts [(crcSum (p.behind n), 4)] ++ p.behind n
theorem Pg.parts_len (n : Nat) (p : Pg) : (laidParts (p.parts n)).length = 20 := by simp [laidParts, Pg.parts, laidB_len]
theorem Pg.behind_len {n : Nat} {p : Pg} (h : p.ok) : (p.behind n).length = 252 := by
  have := h.2.2.2.2
  rw [Pg.behind, List.length_append, List.length_append, Pg.parts_len, List.length_replicate]; omega
theorem Pg.raw_len {n : Nat} {p : Pg} (h : p.ok) : (p.raw n).length = 256 := by
  rw [Pg.raw, List.length_append, Pg.behind_len h]; simp [laidParts, laidB_len]
theorem Pg.parts_ok {n : Nat} {p : Pg} (h : p.ok) (hn : n ≤ 4095) : ∀ y ∈ p.parts n, 1 ≤ y.2 ∧ y.2 ≤ 8 ∧ y.1 < 2 ^ (8 * y.2) := by
  obtain ⟨h1, h2, h3, h4, h5⟩ := h
  intro y hy
  simp only [Pg.parts, List.mem_cons, List.not_mem_nil, or_false] at hy
  rcases hy with rfl | rfl | rfl | rfl | rfl | rfl <;> refine ⟨by dsimp only; omega, by dsimp only; omega, ?_⟩ <;> simp <;> omega
theorem rows_of {w : World} {P : Nat} {ps : List (Nat × Nat)} {T : TypeId} {fr : Nat × Nat} (h : w.heap[P]? = some (.cells (ps.flatMap fun x => [Value.int .u64 (x.1 : Int), .int .i64 (x.2 : Int)]).toArray T fr)) : PartRows w P ps := by
  refine ⟨(Array.getElem?_eq_some_iff.1 h).1, fun j hj => ?_⟩
  have key : ∀ (ps : List (Nat × Nat)) (j : Nat), j < ps.length → (ps.flatMap fun x => [Value.int .u64 (x.1 : Int), .int .i64 (x.2 : Int)])[j * 2]? = some (.int .u64 ((ps.getD j (0, 0)).1 : Int)) ∧ (ps.flatMap fun x => [Value.int .u64 (x.1 : Int), .int .i64 (x.2 : Int)])[j * 2 + 1]? = some (.int .i64 ((ps.getD j (0, 0)).2 : Int)) := by
    intro ps
    induction ps with
    | nil => intro j hj; simp at hj
    | cons x ps ih =>
      intro j hj
      cases j with
      | zero => exact ⟨rfl, rfl⟩
      | succ j =>
        have := ih j (by simpa using hj)
        rw [show (j + 1) * 2 = j * 2 + 1 + 1 by omega]
        exact this
  obtain ⟨h1, h2⟩ := key ps j hj
  exact ⟨by rw [cell_of_row w P (j * 2) _ _ _ h, List.getElem?_toArray]; exact h1, by rw [cell_of_row w P (j * 2 + 1) _ _ _ h, List.getElem?_toArray]; exact h2⟩
/-- A slice value of bytes. -/
def IsBs (n₀ : Nat) (w : World) (v : Value) (l : List UInt8) : Prop := ∃ a c, v = .slice a l.length c ∧ BytesAt n₀ w a l ∧ (a = none → c = 0) ∧ l.length ≤ c
theorem IsBs.below {n₀ : Nat} {w w' : World} {v : Value} {l : List UInt8} (h : IsBs n₀ w v l) (hb : Below n₀ w w') : IsBs n₀ w' v l := by
  obtain ⟨a, c, h1, h2, h3, h4⟩ := h; exact ⟨a, c, h1, h2.below hb, h3, h4⟩
theorem IsBs.mono {n₀ n₁ : Nat} {w : World} {v : Value} {l : List UInt8} (h : IsBs n₀ w v l) (hn : n₀ ≤ n₁) : IsBs n₁ w v l := by
  obtain ⟨a, c, h1, h2, h3, h4⟩ := h; exact ⟨a, c, h1, h2.mono hn, h3, h4⟩
theorem OwnB.isBs {w : World} {base : Nat} {v : Value} {l : List UInt8} (h : OwnB w base v l) : IsBs w.heap.size w v l := by
  obtain ⟨a, c, h1, h2, h3, -, h5, -⟩ := h.form; exact ⟨a, c, h1, h2, h5, h3⟩
theorem bs_of {w : World} {P : Nat} {vs : List Value} {ls : List (List UInt8)} {T : TypeId} {fr : Nat × Nat} (h : w.heap[P]? = some (.cells vs.toArray T fr)) (hv : ∀ j, j < ls.length → ∃ v, vs[j]? = some v ∧ IsBs w.heap.size w v (ls[j]?.getD [])) : BsRow w P ls := by
  refine ⟨(Array.getElem?_eq_some_iff.1 h).1, fun j hj => ?_⟩
  obtain ⟨v, h1, a, c, rfl, h2, h3, h4⟩ := hv j hj
  exact ⟨a, c, by rw [cell_of_row w P j _ _ _ h, List.getElem?_toArray]; exact h1, h2, h3, h4⟩
theorem bs3_of {w : World} {P : Nat} {v0 v1 v2 : Value} {l0 l1 l2 : List UInt8} {T : TypeId} {fr : Nat × Nat} (h : w.heap[P]? = some (.cells #[v0, v1, v2] T fr)) (h0 : IsBs w.heap.size w v0 l0) (h1 : IsBs w.heap.size w v1 l1) (h2 : IsBs w.heap.size w v2 l2) : BsRow w P [l0, l1, l2] :=
  bs_of (vs := [v0, v1, v2]) h fun j hj => match j, hj with
    | 0, _ => ⟨_, rfl, h0⟩
    | 1, _ => ⟨_, rfl, h1⟩
    | 2, _ => ⟨_, rfl, h2⟩
theorem bs4_of {w : World} {P : Nat} {v0 v1 v2 v3 : Value} {l0 l1 l2 l3 : List UInt8} {T : TypeId} {fr : Nat × Nat} (h : w.heap[P]? = some (.cells #[v0, v1, v2, v3] T fr)) (h0 : IsBs w.heap.size w v0 l0) (h1 : IsBs w.heap.size w v1 l1) (h2 : IsBs w.heap.size w v2 l2) (h3 : IsBs w.heap.size w v3 l3) : BsRow w P [l0, l1, l2, l3] :=
  bs_of (vs := [v0, v1, v2, v3]) h fun j hj => match j, hj with
    | 0, _ => ⟨_, rfl, h0⟩
    | 1, _ => ⟨_, rfl, h1⟩
    | 2, _ => ⟨_, rfl, h2⟩
    | 3, _ => ⟨_, rfl, h3⟩
theorem zeros_bs (w : World) (m : Nat) : IsBs (w.heap.size + 1) (w.alloc (.cells (byteVals (List.replicate m 0)).toArray 5)) (.slice (some ⟨w.heap.size, 0, none⟩) m m) (List.replicate m 0) :=
  ⟨_, m, by rw [List.length_replicate], fun _ => ⟨_, 0, rfl, by omega, fun j hj => by
    rw [Nat.zero_add, cell_of_row _ _ j _ _ _ (heap_alloc_new w _), List.getElem?_toArray, byteVals, List.getElem?_map, List.getElem?_eq_getElem hj]; simp⟩, fun e => (by cases e), by simp⟩
theorem go_on {w a b : World} (h : Below w.heap.size w a) (hb : Below a.heap.size a b) : Below w.heap.size w b := h.trans (hb.mono h.size)
theorem go_new {w a : World} (h : Below w.heap.size w a) (o : Obj) : Below w.heap.size w (a.alloc o) := h.alloc h.size _
theorem go_row {a b : World} {k : Nat} {o : Obj} (h : a.heap[k]? = some o) (hb : Below a.heap.size a b) : b.heap[k]? = some o := (hb.block k (Array.getElem?_eq_some_iff.1 h).1).trans h
def RawPost (w : World) (l : List UInt8) (e : Ending) (w' : World) : Prop := ∃ v, e = .returned (.tuple #[v, .int .i64 0]) ∧ OwnB w' w.heap.size v l ∧ Below w.heap.size w w'
set_option maxRecDepth 100000 in
set_option maxHeartbeats 1000000 in
theorem raw_no (n k t x : Int) (a : Option Addr) (m c : Nat) (w : World) (hm : m ≤ 9223372036854775807) (h : numB n = false ∨ rightB k t x m = false) :
    Calls Tryd.prog 9 #[.int .i64 n, pgv k t x a m c] w fun e w' => e = .returned (.tuple #[.slice none 0 0, .int .i64 2]) ∧ Below w.heap.size w w' := by
  have hb : Below w.heap.size w (w.alloc (.cells #[.int .i64 k, .int .i64 t, .int .i64 x, .slice a m c] 25)) := (Below.refl _ _).alloc (Nat.le_refl _) _
  have HB := Lib.hid hb
  clear hb
  by_cases h1 : numB n = true
  · have h2 : rightB k t x m = false := by rcases h with h | h; · rw [h1] at h; cases h
                                           · exact h
    have HC := Lib.hid (fun w => check_any k t x a m c w hm)
    simp only [h2] at HC
    clear h hm
    go_enter Tryd.func9, Tryd.ntmps9
    go_wp2_with (first | (go_at_call 19; refine (isNumber_any _ _).mono ?_; rintro e w' ⟨rfl, rfl⟩) | (go_at_call 10; refine (HC.out _).mono ?_; rintro e w' ⟨rfl, hb'⟩))

    go_ret2
    exact ⟨rfl, HB.out.trans (hb'.mono (by simp))⟩
  · have h1' : numB n = false := by simpa using h1
    clear h h1
    go_enter Tryd.func9, Tryd.ntmps9
    go_wp2_with (first | (go_at_call 19; refine (isNumber_any _ _).mono ?_; rintro e w' ⟨rfl, rfl⟩))
    go_ret2
    exact ⟨rfl, HB.out⟩
set_option maxRecDepth 100000 in
set_option maxHeartbeats 1000000 in
theorem raw_yes (n : Nat) (hn : n ≤ 4095) (p : Pg) (hok : p.ok) (a : Option Addr) (c : Nat) (w : World) (n₁ : Nat) (hn₁ : n₁ ≤ w.heap.size) (hm : BytesAt n₁ w a p.b) (hno : a = none → c = 0) (hle : p.b.length ≤ c) (hT : Tab w) (hg : 1 + 1 ≤ w.heap.size) :
    Calls Tryd.prog 9 #[.int .i64 n, pgv p.k p.t p.x a p.b.length c] w fun e w' => RawPost w (p.raw n) e w' := by
  have h1 : numB (n : Int) = true := by simp [numB]; omega
  have h2 : rightB (p.k : Int) (p.t : Int) (p.x : Int) p.b.length = true := by
    obtain ⟨q1, q2, q3, q4, q5⟩ := hok
    simp [rightB, kindB, numB]; omega
  have HC := Lib.hid (fun w => check_any p.k p.t p.x a p.b.length c w (by have := hok.2.2.2.2; omega))
  simp only [h2, if_true] at HC
  have hb : Below w.heap.size w (w.alloc (.cells #[.int .i64 p.k, .int .i64 p.t, .int .i64 p.x, .slice a p.b.length c] 25)) := (Below.refl _ _).alloc (Nat.le_refl _) _
  have HB := Lib.hid hb
  have HK := Lib.hid hok
  have HM := Lib.hid (And.intro hm (And.intro hno hle))
  obtain ⟨k1, k2, k3, k4, k5⟩ := hok
  obtain ⟨bl, hbl⟩ : ∃ bl, p.b.length = bl := ⟨_, rfl⟩
  rw [hbl] at HC HB k5 ⊢
  have HBL := Lib.hid hbl
  clear hb hm hno hle h2 hbl
  have HT := Lib.hid (And.intro hT hg)
  clear hT hg
  go_enter Tryd.func9, Tryd.ntmps9
  go_wp2_with (first | (go_at_call 19; refine (isNumber_any _ _).mono ?_; rintro e w' ⟨rfl, rfl⟩) | (go_at_call 10; refine (HC.out _).mono ?_; rintro e w1 ⟨rfl, hb1⟩; have hrow := (hb1.block w.heap.size (by simp)).trans (heap_alloc_new w _); have c0 := cell_of_row w1 w.heap.size 0 _ _ _ hrow; have c1 := cell_of_row w1 w.heap.size 1 _ _ _ hrow; have c2 := cell_of_row w1 w.heap.size 2 _ _ _ hrow; have c3 := cell_of_row w1 w.heap.size 3 _ _ _ hrow; simp only [List.getElem?_toArray, List.getElem?_cons_zero, List.getElem?_cons_succ] at c0 c1 c2 c3; have HR := Lib.hid (And.intro hrow hb1); clear hrow hb1 HC))
  have B1 := go_on HB.out HR.out.2
  refine (laid_any _ w1.heap.size 6 (p.parts n) (rows_of (T := 52) (fr := (0, 0)) (by rw [← HBL.out]; exact heap_alloc_new w1 _)) (Pg.parts_ok HK.out hn) (by simp [Pg.parts])).mono ?_
  rintro e w2 ⟨v2, rfl, hO2, hb2⟩
  have hrow2 := go_row ((Below.heap_alloc _ _ _ (Array.getElem?_eq_some_iff.1 HR.out.1).1).trans HR.out.1) hb2
  have B2 := go_on (go_new B1 _) hb2
  obtain ⟨a2, d2, rfl, S2, S2n, S2l⟩ := hO2.isBs
  rw [Pg.parts_len] at S2l ⊢
  clear HR hb2 c0 c1 c2 c3 B1
  have c3 := cell_of_row w2 w.heap.size 3 _ _ _ hrow2
  simp only [List.getElem?_toArray, List.getElem?_cons_zero, List.getElem?_cons_succ] at c3
  have hlt2 := (Array.getElem?_eq_some_iff.1 hrow2).1
  obtain ⟨m, hme⟩ : ∃ m, 232 - bl = m := ⟨_, rfl⟩
  have hm1 : (232 : Int) - (bl : Int) = (m : Int) := by omega
  have hmk := fun w => makeB w m (by omega)
  have HME := Lib.hid (And.intro hme hm1)
  obtain ⟨Z, hZ⟩ : ∃ Z, (byteVals (List.replicate m 0)).toArray = Z := ⟨_, rfl⟩
  have hzb := zeros_bs w2 m
  rw [hZ] at hzb
  simp only [hZ] at hmk
  have S2b : IsBs w2.heap.size w2 (.slice a2 20 d2) (laidParts (p.parts n)) := ⟨a2, d2, by rw [Pg.parts_len], S2, S2n, by rw [Pg.parts_len]; exact S2l⟩
  have HH := Lib.hid (And.intro hrow2 (And.intro B2 (And.intro S2b hzb)))
  clear hrow2 B2 S2 S2n S2l S2b hO2 hzb hZ hme
  go_wp2_with fail
  obtain ⟨hrow2, B2, S2, hzb⟩ := HH.out
  have hA : Below w2.heap.size w2 (w2.alloc (.cells Z 5)) := (Below.refl _ _).alloc (Nat.le_refl _) _
  have hB : Below w2.heap.size w2 ((w2.alloc (.cells Z 5)).alloc (.cells #[.slice a2 20 d2, .slice a bl c, .slice (some ⟨w2.heap.size, 0, none⟩) m m] 23)) := hA.alloc hA.size _
  have hz3 := (hzb.below ((Below.refl (w2.heap.size + 1) _).alloc (by simp) (.cells #[.slice a2 20 d2, .slice a bl c, .slice (some ⟨w2.heap.size, 0, none⟩) m m] 23))).mono (n₁ := ((w2.alloc (.cells Z 5)).alloc (.cells #[.slice a2 20 d2, .slice a bl c, .slice (some ⟨w2.heap.size, 0, none⟩) m m] 23)).heap.size) (by simp)
  have hr3 := heap_alloc_new (w2.alloc (.cells Z 5)) (.cells #[.slice a2 20 d2, .slice a bl c, .slice (some ⟨w2.heap.size, 0, none⟩) m m] 23)
  have hrow3 := go_row hrow2 hB
  have B3 := go_on B2 hB
  have hbody : IsBs n₁ w (.slice a bl c) p.b := ⟨a, c, by rw [HBL.out], HM.out.1, HM.out.2.1, HM.out.2.2⟩
  have h23 := (S2.below hB).mono hB.size
  have hbo3 := (hbody.below (B3.mono hn₁)).mono (Nat.le_trans hn₁ B3.size)
  revert hz3 hr3 hrow3 B3 h23 hbo3
  have hsz2 : (w2.alloc (.cells Z 5)).heap.size = w2.heap.size + 1 := by simp
  rw [hsz2]
  generalize (w2.alloc (.cells Z 5)).alloc (.cells #[.slice a2 20 d2, .slice a bl c, .slice (some ⟨w2.heap.size, 0, none⟩) m m] 23) = w3
  intro hz3 hr3 hrow3 B3 h23 hbo3
  have hbs3 := bs3_of hr3 h23 hbo3 hz3
  refine (sum_any (some ⟨w2.heap.size + 1, 0, none⟩) 3 [laidParts (p.parts n), p.b, List.replicate m 0] (by simp) w3 (HT.out.1.below HT.out.2 B3) (Nat.le_trans HT.out.2 B3.size) (hbs3.parts ?_)).mono ?_
  · intro l hl
    simp only [List.mem_cons, List.not_mem_nil, or_false] at hl
    rcases hl with rfl | rfl | rfl
    · rw [Pg.parts_len]; decide
    · have := HBL.out; omega
    · have := HME.out.1; rw [List.length_replicate]; omega
  have hfl : [laidParts (p.parts n), p.b, List.replicate m 0].flatten = p.behind n := by
    rw [Pg.behind, HBL.out, HME.out.1]; simp
  rw [hfl]
  have hs := crcSum_lt (p.behind n)
  obtain ⟨s, hse⟩ : ∃ s, crcSum (p.behind n) = s := ⟨_, rfl⟩
  rw [hse] at hs ⊢
  have HS := Lib.hid hse
  have HA := Lib.hid hA
  rintro e w4 ⟨rfl, hb4⟩
  have hrow4 := go_row hrow3 hb4
  have B4 := go_on B3 hb4
  have h24 := (h23.below hb4).mono hb4.size
  have hz4 := (hz3.below hb4).mono hb4.size
  have c4 := cell_of_row w4 w.heap.size 3 _ _ _ hrow4
  simp only [List.getElem?_toArray, List.getElem?_cons_zero, List.getElem?_cons_succ] at c4
  have hlt4 := (Array.getElem?_eq_some_iff.1 hrow4).1
  have H4 := Lib.hid (And.intro hrow4 (And.intro B4 (And.intro h24 hz4)))
  have HB1 := Lib.hid hbody
  clear hrow4 B4 h24 hz4 hb4 hbs3 hz3 hr3 hrow3 B3 h23 hbo3 hB hA hse hfl hrow2 B2 S2 hzb HH c3 hmk hbody hlt2 hsz2
  go_wp2_with fail
  refine (laid_any _ w4.heap.size 1 [(s, 4)] (rows_of (T := 52) (fr := (0, 0)) (heap_alloc_new w4 _)) (by intro y hy; simp only [List.mem_cons, List.not_mem_nil, or_false] at hy; subst hy; exact ⟨by dsimp only; omega, by dsimp only; omega, by simpa using hs⟩) (by simp)).mono ?_
  rintro e w5 ⟨v5, rfl, hO5, hb5⟩
  obtain ⟨hrow4, B4, h24, hz4⟩ := H4.out
  have hA4 : Below w4.heap.size w4 (w4.alloc (.cells #[.int .u64 (s : Int), .int .i64 4] 52)) := (Below.refl _ _).alloc (Nat.le_refl _) _
  have hb45 := go_on hA4 hb5
  have hrow5 := go_row hrow4 hb45
  have B5 := go_on B4 hb45
  have h25 := (h24.below hb45).mono hb45.size
  have hz5 := (hz4.below hb45).mono hb45.size
  have hbo5 := (HB1.out.below (B5.mono hn₁)).mono (Nat.le_trans hn₁ B5.size)
  have h55 := hO5.isBs
  have hll : (laidParts [(s, 4)]).length = 4 := by simp [laidParts, laidB_len]
  obtain ⟨a5, d5, rfl, S5, S5n, S5l⟩ := hO5.isBs
  rw [hll] at h55 ⊢
  have c5 := cell_of_row w5 w.heap.size 3 _ _ _ hrow5
  simp only [List.getElem?_toArray, List.getElem?_cons_zero, List.getElem?_cons_succ] at c5
  have hlt5 := (Array.getElem?_eq_some_iff.1 hrow5).1
  have H5 := Lib.hid (And.intro hrow5 (And.intro B5 (And.intro h25 (And.intro hz5 (And.intro hbo5 h55)))))
  clear hrow5 B5 h25 hz5 hbo5 h55 S5 S5n S5l hO5 hll hb45 hb5 hA4 hrow4 B4 h24 hz4 H4 c4 hlt4
  go_wp2_with fail
  obtain ⟨hrow5, B5, h25, hz5, hbo5, h55⟩ := H5.out
  have hr6 := heap_alloc_new w5 (.cells #[.slice a5 4 d5, .slice a2 20 d2, .slice a bl c, .slice (some ⟨w2.heap.size, 0, none⟩) m m] 23)
  have hB6 : Below w5.heap.size w5 (w5.alloc (.cells #[.slice a5 4 d5, .slice a2 20 d2, .slice a bl c, .slice (some ⟨w2.heap.size, 0, none⟩) m m] 23)) := (Below.refl _ _).alloc (Nat.le_refl _) _
  have hbs6 := bs4_of hr6 ((h55.below hB6).mono hB6.size) ((h25.below hB6).mono hB6.size) ((hbo5.below hB6).mono hB6.size) ((hz5.below hB6).mono hB6.size)
  have hfl : [laidParts [(s, 4)], laidParts (p.parts n), p.b, List.replicate m 0].flatten = p.raw n := by
    rw [Pg.raw, Pg.behind, HBL.out, HME.out.1, ← HS.out, Pg.behind, HBL.out, HME.out.1]; simp
  have hrl := Pg.raw_len (n := n) HK.out
  rw [← hfl] at hrl
  refine (concat_any _ w5.heap.size 4 _ hbs6 (by simp) (by rw [hrl]; decide) (by rw [hrl]; decide)).mono ?_
  rw [hfl]
  rintro e w7 ⟨v7, rfl, hO7, hb7⟩
  have B7 := go_on (go_on B5 hB6) hb7
  have hle := (go_on B5 hB6).size
  have H7 := Lib.hid (And.intro hO7 (And.intro B7 hle))
  clear hrow5 B5 h25 hz5 hbo5 h55 H5 hr6 hB6 hbs6 hfl hrl hO7 B7 hle hb7
  go_wp2
  go_ret2
  exact ⟨v7, rfl, H7.out.1.mono H7.out.2.2, H7.out.2.1⟩
end Go.Proofs.YtjfpgclaefbhjaaDoor
