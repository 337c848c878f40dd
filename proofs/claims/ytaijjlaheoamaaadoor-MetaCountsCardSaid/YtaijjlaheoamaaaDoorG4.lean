/- Texts of the proof in one file, in build order: PageC, PageR, PageN, WireK, PageD. -/
import Derived.Lib.AppendZerosOnto
import Derived.Test.YtaijjlaheoamaaaDoorG3
import Derived.WalkLawsBesides
import Derived.Test.YtaijjlaheoamaaaDoorG2
/- slices.Grow and slices.Concat of bytes. -/
namespace Go.Proofs.YtaijjlaheoamaaaDoor
open Go.RowKit

/-- From the block's first cell on lie these slices of bytes. -/
def BsRow (w : World) (P : Nat) (ls : List (List UInt8)) : Prop := P < w.heap.size ∧ ∀ j, j < ls.length → ∃ a c, w.cell? ⟨P, j, none⟩ = some (.slice a (ls[j]?.getD []).length c) ∧ BytesAt w.heap.size w a (ls[j]?.getD []) ∧ (a = none → c = 0) ∧ (ls[j]?.getD []).length ≤ c
theorem BsRow.below {w w' : World} {P : Nat} {ls : List (List UInt8)} (h : BsRow w P ls) (hb : Below w.heap.size w w') : BsRow w' P ls :=
  ⟨Nat.lt_of_lt_of_le h.1 hb.size, fun j hj => by
    obtain ⟨a, c, h1, h2, h3, h4⟩ := h.2 j hj
    exact ⟨a, c, (hb.cell (p := ⟨P, j, none⟩) h.1).trans h1, (h2.below hb).mono hb.size, h3, h4⟩⟩
theorem BsRow.parts {w : World} {P : Nat} {ls : List (List UInt8)} (h : BsRow w P ls) (hf : ∀ l ∈ ls, l.length ≤ 1000000) : PartsAt w.heap.size w (some ⟨P, 0, none⟩) ls := fun _ =>
  ⟨P, 0, rfl, h.1, fun j hj => by
    obtain ⟨a, c, h1, h2, -, -⟩ := h.2 j hj
    refine ⟨?_, a, c, by rw [Nat.zero_add]; exact h1, h2⟩
    have := hf (ls[j]?.getD []) (by rw [List.getElem?_eq_getElem hj]; exact List.getElem_mem hj)
    omega⟩
theorem zeros_own (w : World) (G base : Nat) (hb : base ≤ w.heap.size) (hG : G ≤ maxLen) : OwnB (w.alloc (.cells (Array.replicate G (.int .u8 0)) 5)) base (.slice (some ⟨w.heap.size, 0, none⟩) 0 G) [] :=
  ⟨rfl, .inr ⟨w.heap.size, G, _, rfl, hb, heap_alloc_new w _, Nat.zero_le _, hG, by simp, by simp [byteVals]⟩⟩
def GrowPost (w : World) (e : Ending) (w' : World) : Prop := ∃ v, e = .returned v ∧ OwnB w' w.heap.size v [] ∧ Below w.heap.size w w'
theorem zero_cells (n : Nat) : Builtin.zeroCells (Value.int IntKind.u8 0).cells n = Array.replicate n (.int .u8 0) := by
  unfold Builtin.zeroCells
  apply Array.ext
  · simp [Value.cells]
  · intro i h1 h2
    simp [Value.cells, Nat.mod_one]
set_option maxRecDepth 100000 in
theorem grow_any (n : Nat) (h1 : 1 ≤ n) (h2 : n ≤ 1000000) (w : World) : Calls Tryd.prog 61 #[.slice none 0 0, .int .i64 n] w fun e w' => GrowPost w e w' := by
  obtain ⟨i0, hi, hz0, hz1, hz2⟩ := info_parts infoU8
  have hap : ∀ ty, (Builtin.append_ #[22, 3] ty #[.slice none 0 0, .int .i64 n]).run Tryd.prog w = .ok (.slice (some ⟨w.heap.size, 0, none⟩) n (grownCap w (0 + n) 0 5)) (w.drew.alloc (.cells (Array.replicate (grownCap w (0 + n) 0 5) (.int .u8 0)) 5)) := fun ty => by
    have h := Lib.run_append_grow_zeros (P := Tryd.prog) w 22 3 ty 5 i0 (.int .u8 0) .i64 .i64 Tryd.underlying22 Tryd.underlying3 hi hz0 none 0 0 [] (run_firstCells_none w.drew i0.size 0 0 0) n (by omega) (by rw [hz1]; decide) (by omega) (by omega) (by rw [hz2]; omega) (growslice_fits (by omega) (by rw [hz2]; omega))
    rw [h, Nat.zero_add]
    have hge := grownCap_ge w n 0 5
    congr 4
    rw [zero_cells, zero_cells]
    simp
    omega
  have hG := grownCap_le_maxLen w (0 + n) 0 5 (by unfold maxLen; omega)
  obtain ⟨G, hGe⟩ : ∃ G, grownCap w (0 + n) 0 5 = G := ⟨_, rfl⟩
  rw [hGe] at hG
  simp only [hGe] at hap
  have HO := Lib.hid (zeros_own w.drew G w.heap.size (Nat.le_refl _) hG)
  have HG := Lib.hid hG
  clear hGe hG
  have hn : (0 : Int) < n := by omega
  go_enter Tryd.func61, Tryd.ntmps61
  go_wp2_with (at_builtin; refine stop_here ?_)
  refine wpList_append_val rfl rfl rfl rfl (hap _) ?_
  go_wp2
  go_ret
  exact ⟨_, rfl, HO.out, ((Below.refl _ _).alloc (Nat.le_refl _) _).drew⟩
set_option maxHeartbeats 1000000 in
set_option maxRecDepth 100000 in
theorem concat_any (w : World) (P c : Nat) (ls : List (List UInt8)) (hp : BsRow w P ls) (hf : ls.length ≤ 100) (h1 : 1 ≤ ls.flatten.length) (h2 : ls.flatten.length ≤ 1000000) :
    Calls Tryd.prog 44 #[.slice (some ⟨P, 0, none⟩) ls.length c] w fun e w' => LaidPost w ls.flatten e w' := by
  have HP := Lib.hid hp
  have HL := Lib.hid (And.intro h1 h2)
  clear hp h1 h2
  go_enter Tryd.func44, Tryd.ntmps44
  go_wp2
  go_loop [3, 5, 11, 12, 13, 14, 15, 16, 17, 18, 19, 20, 21, 22] (fun z _ i _ _ _ _ _ _ _ _ _ _ _ => ∃ k : Nat, i = .int .i64 k ∧ k ≤ ls.length ∧ z = .int .i64 (ls.take k).flatten.length) (fun _ _ i _ _ _ _ _ _ _ _ _ _ _ => ls.length - (intOf i).toNat)
  case atStart => exact ⟨0, rfl, Nat.zero_le _, rfl⟩
  case round =>
    obtain ⟨k, rfl, hk, rfl⟩ := hrel
    by_cases hlt : k < ls.length
    · obtain ⟨a, cc, hcell, -, -, -⟩ := HP.out.2 k hlt
      have hfl : (ls.take (k + 1)).flatten.length = (ls.take k).flatten.length + (ls[k]?.getD []).length := by rw [flat_succ hlt, List.length_append]
      have hle : (ls.take (k + 1)).flatten.length ≤ 1000000 := by
        have h2 := HL.out.2
        have : ls.flatten = (ls.take (k + 1)).flatten ++ (ls.drop (k + 1)).flatten := by rw [← List.flatten_append, List.take_append_drop]
        rw [this, List.length_append] at h2
        omega
      obtain ⟨m, hm⟩ : ∃ m, (ls[k]?.getD []).length = m := ⟨_, rfl⟩
      obtain ⟨z, hz⟩ : ∃ z, (ls.take k).flatten.length = z := ⟨_, rfl⟩
      rw [hm, hz] at hfl
      rw [hm] at hcell
      rw [hfl] at hle
      have HF := Lib.hid hfl
      have HZ := Lib.hid hz
      rw [hz]
      clear hfl hm hz
      have hkL : (k : Int) < (ls.length : Int) := by omega
      go_wp2
      exact ⟨⟨k + 1, by go_num, hlt, by rw [HF.out]; go_num⟩, by simp only [intOf]; omega⟩
    · obtain rfl : k = ls.length := by omega
      have hkL : ¬ ((ls.length : Int) < (ls.length : Int)) := by omega
      rw [List.take_length]
      obtain ⟨N, hN⟩ : ∃ N, ls.flatten.length = N := ⟨_, rfl⟩
      have hN1 := HL.out.1
      have hN2 := HL.out.2
      rw [hN] at hN1 hN2 ⊢
      have HN := Lib.hid hN
      clear hN
      go_wp2_with (go_at_call 61; refine (grow_any N hN1 hN2 _).mono ?_; rintro e w1 ⟨v1, rfl, hO1, hb1⟩)
      go_loopw [6, 8, 27, 28, 29, 30, 31, 32, 33, 34] (fun v _ i _ _ _ _ _ _ _ wr => ∃ k : Nat, i = .int .i64 k ∧ k ≤ ls.length ∧ OwnB wr w.heap.size v (ls.take k).flatten ∧ Below w.heap.size w wr) (fun _ _ i _ _ _ _ _ _ _ _ => ls.length - (intOf i).toNat)
      case atStart => exact ⟨0, rfl, Nat.zero_le _, hO1, hb1⟩
      case round =>
        obtain ⟨k, rfl, hk, hO, hbr⟩ := hrel
        by_cases hlt : k < ls.length
        · obtain ⟨a, cc, hcell, hBt, hno, hle⟩ := (HP.out.below hbr).2 k hlt
          have hfl : (ls.take (k + 1)).flatten = (ls.take k).flatten ++ (ls[k]?.getD []) := flat_succ hlt
          have hle2 : (ls.take k).flatten.length + (ls[k]?.getD []).length ≤ 1000000 := by
            have h2 := HL.out.2
            have : ls.flatten = (ls.take (k + 1)).flatten ++ (ls.drop (k + 1)).flatten := by rw [← List.flatten_append, List.take_append_drop]
            rw [this, List.length_append, hfl, List.length_append] at h2
            omega
          obtain ⟨m, hm⟩ : ∃ m, ls[k]?.getD [] = m := ⟨_, rfl⟩
          rw [hm] at hcell hBt hle hfl hle2
          clear hm
          have HF := Lib.hid hfl
          have HX := Lib.hid (And.intro hBt (And.intro hno (And.intro hle (And.intro hle2 (And.intro hbr hO)))))
          clear hfl hBt hno hle hle2 hbr hO
          have hkL : (k : Int) < (ls.length : Int) := by omega
          go_wp2_with (at_builtin; refine wpList_append_bytes rfl (.tmp 31) (.tmp 32) rfl w.heap.size wr.heap.size _ _ rfl HX.out.2.2.2.2.2 _ _ _ rfl HX.out.2.1 HX.out.2.2.1 HX.out.1 (by have := HX.out.2.2.2.1; omega) HX.out.2.2.2.2.1.size ?_; intro v' w' hO' hg'; rw [← HF.out] at hO'; have hb' := HX.out.2.2.2.2.2.grown hg' HX.out.2.2.2.2.1 (Nat.le_refl _) HX.out.2.2.2.2.1.size)
          exact ⟨⟨k + 1, by go_num, hlt, hO', hb'⟩, by simp only [intOf]; omega⟩
        · obtain rfl : k = ls.length := by omega
          have hkL : ¬ ((ls.length : Int) < (ls.length : Int)) := by omega
          rw [List.take_length] at hO
          have HX := Lib.hid (And.intro hO hbr)
          clear hO hbr
          go_wp2
          go_ret
          exact ⟨_, rfl, HX.out.1, HX.out.2⟩
end Go.Proofs.YtaijjlaheoamaaaDoor
/- Layer 4: the bytes of a page. -/
namespace Go.Proofs.YtaijjlaheoamaaaDoor
open Go.RowKit

/-- A page that may be. -/
structure Pg where
  k : Nat
  t : Nat
  x : Nat
  b : List UInt8
def Pg.ok (p : Pg) : Prop := 1 ≤ p.k ∧ p.k ≤ 5 ∧ p.t ≤ 4611686018427387904 ∧ p.x ≤ 4095 ∧ p.b.length ≤ 232
def Pg.parts (n : Nat) (p : Pg) : List (Nat × Nat) := [(p.k, 1), (p.b.length, 1), (p.t, 8), (n, 4), (p.x, 4), (0, 2)]
def Pg.behind (n : Nat) (p : Pg) : List UInt8 := laidParts (p.parts n) ++ (p.b ++ List.replicate (232 - p.b.length) 0)
def Pg.raw (n : Nat) (p : Pg) : List UInt8 := laidParts [(crcSum (p.behind n), 4)] ++ p.behind n
theorem Pg.parts_len (n : Nat) (p : Pg) : (laidParts (p.parts n)).length = 20 := by simp [laidParts, Pg.parts, laidB_len]
theorem Pg.behind_len {n : Nat} {p : Pg} (h : p.ok) : (p.behind n).length = 252 := by
  have := h.2.2.2.2
  rw [Pg.behind, List.length_append, List.length_append, Pg.parts_len, List.length_replicate]; omega
theorem Pg.raw_len {n : Nat} {p : Pg} (h : p.ok) : (p.raw n).length = 256 := by
  rw [Pg.raw, List.length_append, Pg.behind_len h]; simp [laidParts, laidB_len]
theorem Pg.parts_ok {n : Nat} {p : Pg} (h : p.ok) (hn : n ≤ 4095) : ∀ y ∈ p.parts n, 1 ≤ y.2 ∧ y.2 ≤ 8 ∧ y.1 < 2 ^ (8 * y.2) := by
  obtain ⟨h1, h2, h3, h4, h5⟩ := h
  intro y hy
  simp only [Pg.parts, List.mem_cons, List.not_mem_nil, or_false] at hy
  rcases hy with rfl | rfl | rfl | rfl | rfl | rfl <;> refine ⟨by dsimp only; omega, by dsimp only; omega, ?_⟩ <;> simp <;> omega
theorem rows_of {w : World} {P : Nat} {ps : List (Nat × Nat)} {T : TypeId} {fr : Nat × Nat} (h : w.heap[P]? = some (.cells (ps.flatMap fun x => [Value.int .u64 (x.1 : Int), .int .i64 (x.2 : Int)]).toArray T fr)) : PartRows w P ps := by
  refine ⟨(Array.getElem?_eq_some_iff.1 h).1, fun j hj => ?_⟩
  have key : ∀ (ps : List (Nat × Nat)) (j : Nat), j < ps.length → (ps.flatMap fun x => [Value.int .u64 (x.1 : Int), .int .i64 (x.2 : Int)])[j * 2]? = some (.int .u64 ((ps.getD j (0, 0)).1 : Int)) ∧ (ps.flatMap fun x => [Value.int .u64 (x.1 : Int), .int .i64 (x.2 : Int)])[j * 2 + 1]? = some (.int .i64 ((ps.getD j (0, 0)).2 : Int)) := by
    intro ps
    induction ps with
    | nil => intro j hj; simp at hj
    | cons x ps ih =>
      intro j hj
      cases j with
      | zero => exact ⟨rfl, rfl⟩
      | succ j =>
        have := ih j (by simpa using hj)
        rw [show (j + 1) * 2 = j * 2 + 1 + 1 by omega]
        exact this
  obtain ⟨h1, h2⟩ := key ps j hj
  exact ⟨by rw [cell_of_row w P (j * 2) _ _ _ h, List.getElem?_toArray]; exact h1, by rw [cell_of_row w P (j * 2 + 1) _ _ _ h, List.getElem?_toArray]; exact h2⟩
/-- A slice value of bytes. -/
def IsBs (n₀ : Nat) (w : World) (v : Value) (l : List UInt8) : Prop := ∃ a c, v = .slice a l.length c ∧ BytesAt n₀ w a l ∧ (a = none → c = 0) ∧ l.length ≤ c
theorem IsBs.below {n₀ : Nat} {w w' : World} {v : Value} {l : List UInt8} (h : IsBs n₀ w v l) (hb : Below n₀ w w') : IsBs n₀ w' v l := by
  obtain ⟨a, c, h1, h2, h3, h4⟩ := h; exact ⟨a, c, h1, h2.below hb, h3, h4⟩
theorem IsBs.mono {n₀ n₁ : Nat} {w : World} {v : Value} {l : List UInt8} (h : IsBs n₀ w v l) (hn : n₀ ≤ n₁) : IsBs n₁ w v l := by
  obtain ⟨a, c, h1, h2, h3, h4⟩ := h; exact ⟨a, c, h1, h2.mono hn, h3, h4⟩
theorem OwnB.isBs {w : World} {base : Nat} {v : Value} {l : List UInt8} (h : OwnB w base v l) : IsBs w.heap.size w v l := by
  obtain ⟨a, c, h1, h2, h3, -, h5, -⟩ := h.form; exact ⟨a, c, h1, h2, h5, h3⟩
theorem bs_of {w : World} {P : Nat} {vs : List Value} {ls : List (List UInt8)} {T : TypeId} {fr : Nat × Nat} (h : w.heap[P]? = some (.cells vs.toArray T fr)) (hv : ∀ j, j < ls.length → ∃ v, vs[j]? = some v ∧ IsBs w.heap.size w v (ls[j]?.getD [])) : BsRow w P ls := by
  refine ⟨(Array.getElem?_eq_some_iff.1 h).1, fun j hj => ?_⟩
  obtain ⟨v, h1, a, c, rfl, h2, h3, h4⟩ := hv j hj
  exact ⟨a, c, by rw [cell_of_row w P j _ _ _ h, List.getElem?_toArray]; exact h1, h2, h3, h4⟩
theorem bs3_of {w : World} {P : Nat} {v0 v1 v2 : Value} {l0 l1 l2 : List UInt8} {T : TypeId} {fr : Nat × Nat} (h : w.heap[P]? = some (.cells #[v0, v1, v2] T fr)) (h0 : IsBs w.heap.size w v0 l0) (h1 : IsBs w.heap.size w v1 l1) (h2 : IsBs w.heap.size w v2 l2) : BsRow w P [l0, l1, l2] :=
  bs_of (vs := [v0, v1, v2]) h fun j hj => match j, hj with
    | 0, _ => ⟨_, rfl, h0⟩
    | 1, _ => ⟨_, rfl, h1⟩
    | 2, _ => ⟨_, rfl, h2⟩
theorem bs4_of {w : World} {P : Nat} {v0 v1 v2 v3 : Value} {l0 l1 l2 l3 : List UInt8} {T : TypeId} {fr : Nat × Nat} (h : w.heap[P]? = some (.cells #[v0, v1, v2, v3] T fr)) (h0 : IsBs w.heap.size w v0 l0) (h1 : IsBs w.heap.size w v1 l1) (h2 : IsBs w.heap.size w v2 l2) (h3 : IsBs w.heap.size w v3 l3) : BsRow w P [l0, l1, l2, l3] :=
  bs_of (vs := [v0, v1, v2, v3]) h fun j hj => match j, hj with
    | 0, _ => ⟨_, rfl, h0⟩
    | 1, _ => ⟨_, rfl, h1⟩
    | 2, _ => ⟨_, rfl, h2⟩
    | 3, _ => ⟨_, rfl, h3⟩
theorem zeros_bs (w : World) (m : Nat) : IsBs (w.heap.size + 1) (w.alloc (.cells (byteVals (List.replicate m 0)).toArray 5)) (.slice (some ⟨w.heap.size, 0, none⟩) m m) (List.replicate m 0) :=
  ⟨_, m, by rw [List.length_replicate], fun _ => ⟨_, 0, rfl, by omega, fun j hj => by
    rw [Nat.zero_add, cell_of_row _ _ j _ _ _ (heap_alloc_new w _), List.getElem?_toArray, byteVals, List.getElem?_map, List.getElem?_eq_getElem hj]; simp⟩, fun e => (by cases e), by simp⟩
theorem go_on {w a b : World} (h : Below w.heap.size w a) (hb : Below a.heap.size a b) : Below w.heap.size w b := h.trans (hb.mono h.size)
theorem go_new {w a : World} (h : Below w.heap.size w a) (o : Obj) : Below w.heap.size w (a.alloc o) := h.alloc h.size _
theorem go_row {a b : World} {k : Nat} {o : Obj} (h : a.heap[k]? = some o) (hb : Below a.heap.size a b) : b.heap[k]? = some o := (hb.block k (Array.getElem?_eq_some_iff.1 h).1).trans h
def RawPost (w : World) (l : List UInt8) (e : Ending) (w' : World) : Prop := ∃ v, e = .returned (.tuple #[v, .int .i64 0]) ∧ OwnB w' w.heap.size v l ∧ Below w.heap.size w w'
set_option maxRecDepth 100000 in
set_option maxHeartbeats 1000000 in
theorem raw_no (n k t x : Int) (a : Option Addr) (m c : Nat) (w : World) (hm : m ≤ 9223372036854775807) (h : numB n = false ∨ rightB k t x m = false) :
    Calls Tryd.prog 26 #[.int .i64 n, pgv k t x a m c] w fun e w' => e = .returned (.tuple #[.slice none 0 0, .int .i64 2]) ∧ Below w.heap.size w w' := by
  have hb : Below w.heap.size w (w.alloc (.cells #[.int .i64 k, .int .i64 t, .int .i64 x, .slice a m c] 55)) := (Below.refl _ _).alloc (Nat.le_refl _) _
  have HB := Lib.hid hb
  clear hb
  by_cases h1 : numB n = true
  · have h2 : rightB k t x m = false := by rcases h with h | h; · rw [h1] at h; cases h
                                           · exact h
    have HC := Lib.hid (fun w => check_any k t x a m c w hm)
    simp only [h2] at HC
    clear h hm
    go_enter Tryd.func26, Tryd.ntmps26
    go_wp2_with (first | (go_at_call 32; refine (isNumber_any _ _).mono ?_; rintro e w' ⟨rfl, rfl⟩) | (go_at_call 41; refine (HC.out _).mono ?_; rintro e w' ⟨rfl, hb'⟩))

    go_ret2
    exact ⟨rfl, HB.out.trans (hb'.mono (by simp))⟩
  · have h1' : numB n = false := by simpa using h1
    clear h h1
    go_enter Tryd.func26, Tryd.ntmps26
    go_wp2_with (first | (go_at_call 32; refine (isNumber_any _ _).mono ?_; rintro e w' ⟨rfl, rfl⟩))
    go_ret2
    exact ⟨rfl, HB.out⟩
set_option maxRecDepth 100000 in
set_option maxHeartbeats 1000000 in
theorem raw_yes (n : Nat) (hn : n ≤ 4095) (p : Pg) (hok : p.ok) (a : Option Addr) (c : Nat) (w : World) (n₁ : Nat) (hn₁ : n₁ ≤ w.heap.size) (hm : BytesAt n₁ w a p.b) (hno : a = none → c = 0) (hle : p.b.length ≤ c) (hT : Tab w) (hg : 0 + 1 ≤ w.heap.size) :
    Calls Tryd.prog 26 #[.int .i64 n, pgv p.k p.t p.x a p.b.length c] w fun e w' => RawPost w (p.raw n) e w' := by
  have h1 : numB (n : Int) = true := by simp [numB]; omega
  have h2 : rightB (p.k : Int) (p.t : Int) (p.x : Int) p.b.length = true := by
    obtain ⟨q1, q2, q3, q4, q5⟩ := hok
    simp [rightB, kindB, numB]; omega
  have HC := Lib.hid (fun w => check_any p.k p.t p.x a p.b.length c w (by have := hok.2.2.2.2; omega))
  simp only [h2, if_true] at HC
  have hb : Below w.heap.size w (w.alloc (.cells #[.int .i64 p.k, .int .i64 p.t, .int .i64 p.x, .slice a p.b.length c] 55)) := (Below.refl _ _).alloc (Nat.le_refl _) _
  have HB := Lib.hid hb
  have HK := Lib.hid hok
  have HM := Lib.hid (And.intro hm (And.intro hno hle))
  obtain ⟨k1, k2, k3, k4, k5⟩ := hok
  obtain ⟨bl, hbl⟩ : ∃ bl, p.b.length = bl := ⟨_, rfl⟩
  rw [hbl] at HC HB k5 ⊢
  have HBL := Lib.hid hbl
  clear hb hm hno hle h2 hbl
  have HT := Lib.hid (And.intro hT hg)
  clear hT hg
  go_enter Tryd.func26, Tryd.ntmps26
  go_wp2_with (first | (go_at_call 32; refine (isNumber_any _ _).mono ?_; rintro e w' ⟨rfl, rfl⟩) | (go_at_call 41; refine (HC.out _).mono ?_; rintro e w1 ⟨rfl, hb1⟩; have hrow := (hb1.block w.heap.size (by simp)).trans (heap_alloc_new w _); have c0 := cell_of_row w1 w.heap.size 0 _ _ _ hrow; have c1 := cell_of_row w1 w.heap.size 1 _ _ _ hrow; have c2 := cell_of_row w1 w.heap.size 2 _ _ _ hrow; have c3 := cell_of_row w1 w.heap.size 3 _ _ _ hrow; simp only [List.getElem?_toArray, List.getElem?_cons_zero, List.getElem?_cons_succ] at c0 c1 c2 c3; have HR := Lib.hid (And.intro hrow hb1); clear hrow hb1 HC))
  have B1 := go_on HB.out HR.out.2
  refine (laid_any _ w1.heap.size 6 (p.parts n) (rows_of (T := 92) (fr := (0, 0)) (by rw [← HBL.out]; exact heap_alloc_new w1 _)) (Pg.parts_ok HK.out hn) (by simp [Pg.parts])).mono ?_
  rintro e w2 ⟨v2, rfl, hO2, hb2⟩
  have hrow2 := go_row ((Below.heap_alloc _ _ _ (Array.getElem?_eq_some_iff.1 HR.out.1).1).trans HR.out.1) hb2
  have B2 := go_on (go_new B1 _) hb2
  obtain ⟨a2, d2, rfl, S2, S2n, S2l⟩ := hO2.isBs
  rw [Pg.parts_len] at S2l ⊢
  clear HR hb2 c0 c1 c2 c3 B1
  have c3 := cell_of_row w2 w.heap.size 3 _ _ _ hrow2
  simp only [List.getElem?_toArray, List.getElem?_cons_zero, List.getElem?_cons_succ] at c3
  have hlt2 := (Array.getElem?_eq_some_iff.1 hrow2).1
  obtain ⟨m, hme⟩ : ∃ m, 232 - bl = m := ⟨_, rfl⟩
  have hm1 : (232 : Int) - (bl : Int) = (m : Int) := by omega
  have hmk := fun w => makeB w m (by omega)
  have HME := Lib.hid (And.intro hme hm1)
  obtain ⟨Z, hZ⟩ : ∃ Z, (byteVals (List.replicate m 0)).toArray = Z := ⟨_, rfl⟩
  have hzb := zeros_bs w2 m
  rw [hZ] at hzb
  simp only [hZ] at hmk
  have S2b : IsBs w2.heap.size w2 (.slice a2 20 d2) (laidParts (p.parts n)) := ⟨a2, d2, by rw [Pg.parts_len], S2, S2n, by rw [Pg.parts_len]; exact S2l⟩
  have HH := Lib.hid (And.intro hrow2 (And.intro B2 (And.intro S2b hzb)))
  clear hrow2 B2 S2 S2n S2l S2b hO2 hzb hZ hme
  go_wp2_with fail
  obtain ⟨hrow2, B2, S2, hzb⟩ := HH.out
  have hA : Below w2.heap.size w2 (w2.alloc (.cells Z 5)) := (Below.refl _ _).alloc (Nat.le_refl _) _
  have hB : Below w2.heap.size w2 ((w2.alloc (.cells Z 5)).alloc (.cells #[.slice a2 20 d2, .slice a bl c, .slice (some ⟨w2.heap.size, 0, none⟩) m m] 22)) := hA.alloc hA.size _
  have hz3 := (hzb.below ((Below.refl (w2.heap.size + 1) _).alloc (by simp) (.cells #[.slice a2 20 d2, .slice a bl c, .slice (some ⟨w2.heap.size, 0, none⟩) m m] 22))).mono (n₁ := ((w2.alloc (.cells Z 5)).alloc (.cells #[.slice a2 20 d2, .slice a bl c, .slice (some ⟨w2.heap.size, 0, none⟩) m m] 22)).heap.size) (by simp)
  have hr3 := heap_alloc_new (w2.alloc (.cells Z 5)) (.cells #[.slice a2 20 d2, .slice a bl c, .slice (some ⟨w2.heap.size, 0, none⟩) m m] 22)
  have hrow3 := go_row hrow2 hB
  have B3 := go_on B2 hB
  have hbody : IsBs n₁ w (.slice a bl c) p.b := ⟨a, c, by rw [HBL.out], HM.out.1, HM.out.2.1, HM.out.2.2⟩
  have h23 := (S2.below hB).mono hB.size
  have hbo3 := (hbody.below (B3.mono hn₁)).mono (Nat.le_trans hn₁ B3.size)
  revert hz3 hr3 hrow3 B3 h23 hbo3
  have hsz2 : (w2.alloc (.cells Z 5)).heap.size = w2.heap.size + 1 := by simp
  rw [hsz2]
  generalize (w2.alloc (.cells Z 5)).alloc (.cells #[.slice a2 20 d2, .slice a bl c, .slice (some ⟨w2.heap.size, 0, none⟩) m m] 22) = w3
  intro hz3 hr3 hrow3 B3 h23 hbo3
  have hbs3 := bs3_of hr3 h23 hbo3 hz3
  refine (sum_any (some ⟨w2.heap.size + 1, 0, none⟩) 3 [laidParts (p.parts n), p.b, List.replicate m 0] (by simp) w3 (HT.out.1.below HT.out.2 B3) (Nat.le_trans HT.out.2 B3.size) (hbs3.parts ?_)).mono ?_
  · intro l hl
    simp only [List.mem_cons, List.not_mem_nil, or_false] at hl
    rcases hl with rfl | rfl | rfl
    · rw [Pg.parts_len]; decide
    · have := HBL.out; omega
    · have := HME.out.1; rw [List.length_replicate]; omega
  have hfl : [laidParts (p.parts n), p.b, List.replicate m 0].flatten = p.behind n := by
    rw [Pg.behind, HBL.out, HME.out.1]; simp
  rw [hfl]
  have hs := crcSum_lt (p.behind n)
  obtain ⟨s, hse⟩ : ∃ s, crcSum (p.behind n) = s := ⟨_, rfl⟩
  rw [hse] at hs ⊢
  have HS := Lib.hid hse
  have HA := Lib.hid hA
  rintro e w4 ⟨rfl, hb4⟩
  have hrow4 := go_row hrow3 hb4
  have B4 := go_on B3 hb4
  have h24 := (h23.below hb4).mono hb4.size
  have hz4 := (hz3.below hb4).mono hb4.size
  have c4 := cell_of_row w4 w.heap.size 3 _ _ _ hrow4
  simp only [List.getElem?_toArray, List.getElem?_cons_zero, List.getElem?_cons_succ] at c4
  have hlt4 := (Array.getElem?_eq_some_iff.1 hrow4).1
  have H4 := Lib.hid (And.intro hrow4 (And.intro B4 (And.intro h24 hz4)))
  have HB1 := Lib.hid hbody
  clear hrow4 B4 h24 hz4 hb4 hbs3 hz3 hr3 hrow3 B3 h23 hbo3 hB hA hse hfl hrow2 B2 S2 hzb HH c3 hmk hbody hlt2 hsz2
  go_wp2_with fail
  refine (laid_any _ w4.heap.size 1 [(s, 4)] (rows_of (T := 92) (fr := (0, 0)) (heap_alloc_new w4 _)) (by intro y hy; simp only [List.mem_cons, List.not_mem_nil, or_false] at hy; subst hy; exact ⟨by dsimp only; omega, by dsimp only; omega, by simpa using hs⟩) (by simp)).mono ?_
  rintro e w5 ⟨v5, rfl, hO5, hb5⟩
  obtain ⟨hrow4, B4, h24, hz4⟩ := H4.out
  have hA4 : Below w4.heap.size w4 (w4.alloc (.cells #[.int .u64 (s : Int), .int .i64 4] 92)) := (Below.refl _ _).alloc (Nat.le_refl _) _
  have hb45 := go_on hA4 hb5
  have hrow5 := go_row hrow4 hb45
  have B5 := go_on B4 hb45
  have h25 := (h24.below hb45).mono hb45.size
  have hz5 := (hz4.below hb45).mono hb45.size
  have hbo5 := (HB1.out.below (B5.mono hn₁)).mono (Nat.le_trans hn₁ B5.size)
  have h55 := hO5.isBs
  have hll : (laidParts [(s, 4)]).length = 4 := by simp [laidParts, laidB_len]
  obtain ⟨a5, d5, rfl, S5, S5n, S5l⟩ := hO5.isBs
  rw [hll] at h55 ⊢
  have c5 := cell_of_row w5 w.heap.size 3 _ _ _ hrow5
  simp only [List.getElem?_toArray, List.getElem?_cons_zero, List.getElem?_cons_succ] at c5
  have hlt5 := (Array.getElem?_eq_some_iff.1 hrow5).1
  have H5 := Lib.hid (And.intro hrow5 (And.intro B5 (And.intro h25 (And.intro hz5 (And.intro hbo5 h55)))))
  clear hrow5 B5 h25 hz5 hbo5 h55 S5 S5n S5l hO5 hll hb45 hb5 hA4 hrow4 B4 h24 hz4 H4 c4 hlt4
  go_wp2_with fail
  obtain ⟨hrow5, B5, h25, hz5, hbo5, h55⟩ := H5.out
  have hr6 := heap_alloc_new w5 (.cells #[.slice a5 4 d5, .slice a2 20 d2, .slice a bl c, .slice (some ⟨w2.heap.size, 0, none⟩) m m] 22)
  have hB6 : Below w5.heap.size w5 (w5.alloc (.cells #[.slice a5 4 d5, .slice a2 20 d2, .slice a bl c, .slice (some ⟨w2.heap.size, 0, none⟩) m m] 22)) := (Below.refl _ _).alloc (Nat.le_refl _) _
  have hbs6 := bs4_of hr6 ((h55.below hB6).mono hB6.size) ((h25.below hB6).mono hB6.size) ((hbo5.below hB6).mono hB6.size) ((hz5.below hB6).mono hB6.size)
  have hfl : [laidParts [(s, 4)], laidParts (p.parts n), p.b, List.replicate m 0].flatten = p.raw n := by
    rw [Pg.raw, Pg.behind, HBL.out, HME.out.1, ← HS.out, Pg.behind, HBL.out, HME.out.1]; simp
  have hrl := Pg.raw_len (n := n) HK.out
  rw [← hfl] at hrl
  refine (concat_any _ w5.heap.size 4 _ hbs6 (by simp) (by rw [hrl]; decide) (by rw [hrl]; decide)).mono ?_
  rw [hfl]
  rintro e w7 ⟨v7, rfl, hO7, hb7⟩
  have B7 := go_on (go_on B5 hB6) hb7
  have hle := (go_on B5 hB6).size
  have H7 := Lib.hid (And.intro hO7 (And.intro B7 hle))
  clear hrow5 B5 h25 hz5 hbo5 h55 H5 hr6 hB6 hbs6 hfl hrl hO7 B7 hle hb7
  go_wp2
  go_ret2
  exact ⟨v7, rfl, H7.out.1.mono H7.out.2.2, H7.out.2.1⟩
end Go.Proofs.YtaijjlaheoamaaaDoor
/- Layer 4: numbers out of a reader; what is left over must be noughts. -/
namespace Go.Proofs.YtaijjlaheoamaaaDoor
open Go.RowKit

theorem next_any {n₀ : Nat} {w : World} {B : Nat} {r : List UInt8} (h : IsRd n₀ w B r) (k : Nat) (h1 : 1 ≤ k) (h8 : k ≤ 8) (hk : k ≤ r.length) :
    Calls Tryd.prog 65 #[wptr B, .int .i64 k] w fun e w' => RdPost n₀ w B (.int .u64 (numOf (r.take k))) (r.drop k) e w' := by
  have hr : rNum r (k : Int) = (numOf (r.take k), 0, r.drop k) := by
    unfold rNum
    rw [if_neg (by omega), Int.toNat_natCast, if_neg (by omega)]
  have HR := Lib.hid (rnum_any h (k : Int))
  rw [hr] at HR
  clear hr h hk h1 h8
  go_enter Tryd.func65, Tryd.ntmps65
  go_wp2_with (go_at_call 35; refine HR.out.mono ?_; rintro e w1 ⟨rfl, hR1, hg1⟩)
  go_ret
  exact ⟨rfl, hR1, hg1⟩
theorem nought_any (b : UInt8) (w : World) : Calls Tryd.prog 72 #[.int .u8 (b.toNat : Int)] w fun e w' => e = .returned (.bool (b == 0)) ∧ w = w' := by
  have hb : decide ((b.toNat : Int) = 0) = (b == 0) := by
    by_cases h : b = 0
    · subst h; rfl
    · have h2 : b.toNat ≠ 0 := fun e => h (UInt8.toNat_inj.1 e)
      rw [show (b == 0) = false by simpa using h]
      simp; omega
  have HB := Lib.hid hb
  clear hb
  go_enter Tryd.func72, Tryd.ntmps72
  go_wp2
  go_ret
  exact ⟨ret_bool HB.out, rfl⟩
theorem all_any (a : Option Addr) (l : List UInt8) (c n₁ : Nat) (hl : l.length ≤ 9223372036854775807) (w : World) (hm : BytesAt n₁ w a l) :
    Calls Tryd.prog 73 #[.slice a l.length c, .func (.func 72) #[] #[]] w fun e w' => e = .returned (.bool (l.all (· == 0))) ∧ w = w' := by
  have HM := Lib.hid hm
  clear hm
  go_enter Tryd.func73, Tryd.ntmps73
  go_wp2
  go_loop [6, 9, 10, 11, 12, 13, 14, 15, 16, 17] (fun _ i _ _ _ _ _ _ _ _ => ∃ k : Nat, i = .int .i64 k ∧ k ≤ l.length ∧ (l.take k).all (· == 0) = true) (fun _ i _ _ _ _ _ _ _ _ => l.length - (intOf i).toNat)
  case atStart => exact ⟨0, rfl, Nat.zero_le _, rfl⟩
  case round =>
    obtain ⟨k, rfl, hk, ha⟩ := hrel
    by_cases hlt : k < l.length
    · obtain ⟨b, off, rfl, hb, hc⟩ := HM.out (by rintro rfl; simp at hlt)
      have hck := hc k hlt
      obtain ⟨x, hx⟩ : ∃ x, l[k]?.getD 0 = x := ⟨_, rfl⟩
      rw [hx] at hck
      have hts : (l.take (k + 1)).all (· == 0) = (x == 0) := by rw [take_succ_get hlt, List.all_append, ha, hx]; simp
      have hall : (x == 0) = false → l.all (· == 0) = false := fun h => by
        rw [← List.take_append_drop (k + 1) l, List.all_append, hts, h]; rfl
      have HT := Lib.hid (And.intro hts hall)
      have HA := Lib.hid ha
      clear hc hx hts hall ha
      have hkL : (k : Int) < (l.length : Int) := by omega
      by_cases hx0 : (x == 0) = true
      · go_wp2_with (go_at_call 72; refine (nought_any x _).mono ?_; rintro e w' ⟨rfl, rfl⟩)
        exact ⟨⟨k + 1, by go_num, hlt, by rw [HT.out.1]; exact hx0⟩, by simp only [intOf]; omega⟩
      · have hx1 : (x == 0) = false := by simpa using hx0
        go_wp2_with (go_at_call 72; refine (nought_any x _).mono ?_; rintro e w' ⟨rfl, rfl⟩)
        go_ret
        exact ⟨ret_bool (HT.out.2 hx1).symm, rfl⟩
    · obtain rfl : k = l.length := by omega
      have hkL : ¬ ((l.length : Int) < (l.length : Int)) := by omega
      rw [List.take_length] at ha
      have HA := Lib.hid ha
      clear ha
      go_wp2
      go_ret
      exact ⟨ret_bool HA.out.symm, rfl⟩
def bodyAt (a : Option Addr) (size : Nat) : Option Addr := if 2 + size = 2 then a else a.map fun x => x.add (2 * 1)
theorem sliceBody (w : World) (a : Option Addr) (n c size : Nat) (hc : 2 + size ≤ c) : (Instr.sliceAt 22 (.slice a n c) (some (.int .i64 2)) (some (.int .i64 (2 + (size : Int)))) (some (.int .i64 (2 + (size : Int))))).run Tryd.prog w = .ok (.slice (bodyAt a size) size size) w := by
  have hel : Tryd.prog.elem 22 = 5 := by kernel_rfl
  have hu : Tryd.prog.underlying 22 = some (.slice (Tryd.prog.elem 22)) := by rw [hel]; exact Tryd.underlying22
  have hs : (sizeOf 5).run Tryd.prog w = .ok 1 w := by kernel_rfl
  have h1 := (run_sliceAt_slice (P := Tryd.prog) w 22 (.slice a n c) (some (.int .i64 2)) (some (.int .i64 (2 + (size : Int)))) (some (.int .i64 (2 + (size : Int)))) hu).trans (run_slice_lhm (P := Tryd.prog) w 22 a n c hu .i64 .i64 .i64 2 (2 + (size : Int)) (2 + (size : Int)) (by omega) (by omega) (by omega) (by omega))
  rw [hel, hs] at h1
  rw [h1]
  simp only [Result.andThen_ok, sliced, show (2 + (size : Int)).toNat = 2 + size by omega, show (2 : Int).toNat = 2 from rfl, show 2 + size - 2 = size by omega]
  rfl
theorem body_at {n₁ : Nat} {w : World} {a : Option Addr} {l : List UInt8} {size : Nat} (hm : BytesAt n₁ w a l) (hs : 2 + size ≤ l.length) : BytesAt n₁ w (bodyAt a size) ((l.drop 2).take size) := fun hne => by
  have hp : 0 < size := by
    rcases Nat.eq_zero_or_pos size with h | h
    · subst h; simp at hne
    · exact h
  obtain ⟨b, off, rfl, hb, hcc⟩ := hm (by rintro rfl; simp at hs)
  refine ⟨b, off + 2, ?_, hb, fun j hj => ?_⟩
  · unfold bodyAt
    rw [if_neg (by omega)]
    simp [addr_add]
  · have hj2 : j < size := by rw [List.length_take] at hj; omega
    have := hcc (2 + j) (by omega)
    rw [List.getElem?_take, if_pos hj2, List.getElem?_drop]
    rw [show off + 2 + j = off + (2 + j) by omega]
    exact this
theorem bodyAt_none {a : Option Addr} {size c : Nat} (h : a = none → c = 0) (hc : 2 + size ≤ c) : bodyAt a size ≠ none := by
  cases a with
  | none => have := h rfl; omega
  | some a => unfold bodyAt; split <;> simp
def bodyOk (l : List UInt8) (size : Nat) : Bool := decide (size + 2 ≤ l.length) && ((l.take 2).all (· == 0) && (l.drop (2 + size)).all (· == 0))
def errV (n : Int) : List PanicEntry := [{ v := .iface 26 (.int .i64 n), recovered := false }]
def BodyPost (w : World) (a : Option Addr) (l : List UInt8) (size : Nat) (e : Ending) (w' : World) : Prop :=
  (bodyOk l size = true ∧ e = .returned (.slice (bodyAt a size) size size) ∧ w = w') ∨ (bodyOk l size = false ∧ e = .panicked (errV 141) ∧ w = w')
set_option maxHeartbeats 1000000 in
set_option maxRecDepth 100000 in
theorem body_any (a : Option Addr) (l : List UInt8) (c n₁ : Nat) (h2 : 2 ≤ l.length) (hl : l.length ≤ 1000000) (hlc : l.length ≤ c) (hc : c ≤ 9223372036854775807) (size : Nat) (hs : size ≤ 1000000) (w : World) (hm : BytesAt n₁ w a l) :
    Calls Tryd.prog 66 #[.slice a l.length c, .int .i64 size] w fun e w' => BodyPost w a l size e w' := by
  obtain ⟨n, hn⟩ : ∃ n, l.length = n := ⟨_, rfl⟩
  have HN := Lib.hid hn
  rw [hn] at h2 hl hlc ⊢
  by_cases q1 : size + 2 ≤ n
  case neg =>
    have hd : decide ((n : Int) - 2 < (size : Int)) = true := by simp; omega
    go_enter Tryd.func66, Tryd.ntmps66
    have hbo : bodyOk l size = false := by unfold bodyOk; rw [decide_eq_false (by omega)]; rfl
    go_wp2
    exact ⟨rfl, .inr ⟨hbo, rfl, rfl⟩⟩
  have hd : decide ((n : Int) - 2 < (size : Int)) = false := by simp; omega
  have hm2 : BytesAt n₁ w a (l.take 2) := by
    have : l.take 2 ++ l.drop 2 = l := List.take_append_drop 2 l
    exact BytesAt.left (m := l.drop 2) (by rw [this]; exact hm)
  have hb1 : bodyOk l size = ((l.take 2).all (· == 0) && (l.drop (2 + size)).all (· == 0)) := by unfold bodyOk; rw [decide_eq_true (by omega)]; rfl
  have htl : (l.take 2).length = 2 := by rw [List.length_take]; omega
  have hdl : (l.drop (2 + size)).length = n - (2 + size) := by rw [List.length_drop, hn]
  have hA1 := all_any a (l.take 2) c n₁ (by omega) w hm2
  have hA2 := all_any (slFrom a c (2 + size)) (l.drop (2 + size)) (c - (2 + size)) n₁ (by omega) w (rest_at hm (by omega))
  rw [htl] at hA1
  rw [hdl] at hA2
  have hsl : (Instr.sliceAt 22 (.slice a n c) (some (.int .i64 (2 + (size : Int)))) none none).run Tryd.prog w = .ok (.slice (slFrom a c (2 + size)) (n - (2 + size)) (c - (2 + size))) w := by
    have := sliceFrom w a n c (2 + size) (by omega)
    rwa [show ((2 + size : Nat) : Int) = 2 + (size : Int) by omega] at this
  revert hA2 hsl
  generalize slFrom a c (2 + size) = a4
  generalize n - (2 + size) = n4
  generalize c - (2 + size) = c4
  intro hA2 hsl
  have HM := Lib.hid (And.intro hm hb1)
  have HA1 := Lib.hid hA1
  have HA2 := Lib.hid hA2
  clear hm hm2 hn hb1 htl hdl hA1 hA2
  by_cases z1 : (l.take 2).all (· == 0) = true
  case neg =>
    have z1' : (l.take 2).all (· == 0) = false := by simpa using z1
    rw [z1'] at HA1
    clear z1
    go_enter Tryd.func66, Tryd.ntmps66
    go_wp2_with (go_at_call 73; refine HA1.out.mono ?_; rintro e w' ⟨rfl, rfl⟩)
    exact ⟨rfl, .inr ⟨by rw [HM.out.2, z1']; rfl, rfl, rfl⟩⟩
  rw [z1] at HA1
  by_cases z2 : (l.drop (2 + size)).all (· == 0) = true
  case neg =>
    have z2' : (l.drop (2 + size)).all (· == 0) = false := by simpa using z2
    rw [z2'] at HA2
    clear z2
    have hz := Lib.hid (And.intro z1 z2')
    clear z1 z2'
    have tok1 : True := trivial
    go_enter Tryd.func66, Tryd.ntmps66
    go_wp2_with (first | (go_at_call 73; have _t := tok1; refine HA1.out.mono ?_; rintro e w' ⟨rfl, rfl⟩; clear tok1) | (go_at_call 73; refine HA2.out.mono ?_; rintro e w' ⟨rfl, rfl⟩))
    exact ⟨rfl, .inr ⟨by rw [HM.out.2, hz.out.1, hz.out.2]; rfl, rfl, rfl⟩⟩
  rw [z2] at HA2
  have hz := Lib.hid (And.intro z1 z2)
  clear z1 z2
  have hs3 := sliceBody w a n c size (by omega)
  obtain ⟨a5, ha5⟩ : ∃ x, bodyAt a size = x := ⟨_, rfl⟩
  rw [ha5] at hs3
  have HA5 := Lib.hid ha5
  clear ha5
  have tok1 : True := trivial
  go_enter Tryd.func66, Tryd.ntmps66
  go_wp2_with (first | (go_at_call 73; have _t := tok1; refine HA1.out.mono ?_; rintro e w' ⟨rfl, rfl⟩; clear tok1) | (go_at_call 73; refine HA2.out.mono ?_; rintro e w' ⟨rfl, rfl⟩))
  go_ret
  exact .inl ⟨by rw [HM.out.2, hz.out.1, hz.out.2]; rfl, by rw [HA5.out]; rfl, rfl⟩
end Go.Proofs.YtaijjlaheoamaaaDoor
/- Layer 3: the law's own 'known'. -/
namespace Go.Proofs.YtaijjlaheoamaaaDoor
open Go.RowKit

section
variable {n₀ : Nat} {w w' : World} {B : Nat} {r : List UInt8}
theorem IsRd.lo (h : IsRd n₀ w B r) : n₀ ≤ B := by obtain ⟨_, _, _, h, _⟩ := h; exact h.lo
theorem IsRd.lt (h : IsRd n₀ w B r) : B < w.heap.size := by obtain ⟨_, _, _, h, _⟩ := h; exact h.lt
theorem IsRd.below (h : IsRd n₀ w B r) (hb : Below w.heap.size w w') : IsRd n₀ w' B r := by obtain ⟨v, l, i, h, e⟩ := h; exact ⟨v, l, i, h.below hb, e⟩
theorem rd_below (h : IsRd n₀ w B r) (hg : w.grownBy w' (some B)) : Below n₀ w w' := (Below.refl n₀ w).grown hg (Nat.le_trans h.lo (Nat.le_of_lt h.lt)) (fun k e => by cases e; exact h.lo)
end
theorem IsRd.mono {n₀ n₁ : Nat} {w : World} {B : Nat} {r : List UInt8} (h : IsRd n₀ w B r) (hn : n₁ ≤ n₀) : IsRd n₁ w B r := by
  obtain ⟨v, l, i, h, e⟩ := h
  refine ⟨v, l, i, ⟨h.cells, ⟨h.own.1, ?_⟩, Nat.le_trans hn h.lo, h.le, h.len⟩, e⟩
  rcases h.own.2 with e | ⟨g, cp, cur, e, hg, r⟩
  · exact .inl e
  · exact .inr ⟨g, cp, cur, e, Nat.le_trans hn hg, r⟩
theorem some_bytes (w : World) (l : List UInt8) : BytesAt (w.heap.size + 1) (w.alloc (.cells (byteVals l).toArray 5)) (some ⟨w.heap.size, 0, none⟩) l := fun _ =>
  ⟨_, 0, rfl, by omega, fun j hj => by
    rw [Nat.zero_add, cell_of_row _ w.heap.size j _ _ _ (heap_alloc_new w _)]
    simp [byteVals, hj]⟩
def kl1 : List UInt8 := (wNum [] 258 3).2
def kl2 : List UInt8 := (wTextS kl1 ⟨#[97, 98]⟩).2
def kl3 : List UInt8 := (wTruth kl2 true).2
theorem kw1 : wNum [] 258 3 = (0, kl1) := by kernel_rfl
theorem kw2 : wTextS kl1 ⟨#[97, 98]⟩ = (0, kl2) := by kernel_rfl
theorem kw3 : wTruth kl2 true = (0, kl3) := by kernel_rfl
theorem kw4 : kl3 = [0, 1, 2, 0, 2, 97, 98, 1] := by kernel_rfl
theorem kr1 : rText [0, 3, 97] = ([], 130, [0, 3, 97]) := by kernel_rfl
theorem kr2 : rNum [0, 3, 97] 2 = (3, 0, [97]) := by kernel_rfl
theorem kr3 : rTruth [97] = (false, 130, [97]) := by kernel_rfl

end Go.Proofs.YtaijjlaheoamaaaDoor
/- Layer 4: a page read out of its bytes. -/
namespace Go.Proofs.YtaijjlaheoamaaaDoor
open Go.RowKit

/-- What a page's bytes tell, place by place. -/
def atK (b : List UInt8) : Nat := numOf ((b.drop 4).take 1)
def atS (b : List UInt8) : Nat := numOf ((b.drop 5).take 1)
def atT (b : List UInt8) : Nat := numOf ((b.drop 6).take 8)
def atN (b : List UInt8) : Nat := numOf ((b.drop 14).take 4)
def atX (b : List UInt8) : Nat := numOf ((b.drop 18).take 4)
def atB (b : List UInt8) : List UInt8 := (b.drop 24).take (atS b)
def sumOk (b : List UInt8) : Bool := numOf (b.take 4) == crcSum (b.drop 4)
def restOk (b : List UInt8) : Bool := bodyOk (b.drop 22) (atS b) && (numB (atN b) && rightB (atK b) (wrap64 (atT b)) (atX b) (atS b))
/-- What each operation of the drawn statement leaves: the sum that is written, and that which is reckoned. -/
def RdSp (B : Nat) (b : List UInt8) (v0 v3 : Value) : Nat → Value → World → Prop
  | 0, v, _ => v = wptr B
  | 1, v, _ => v = .int .u64 (numOf (b.take 4))
  | 2, v, _ => v = v0
  | 3, v, _ => v = v3
  | 4, v, w' => ∃ P, v = .slice (some ⟨P, 0, none⟩) 1 1 ∧ P ≠ B ∧ w'.heap[P]? = some (.cells #[v3] 22 (0, 0))
  | 5, v, _ => v = .int .u32 (crcSum (b.drop 4))
  | 6, v, _ => v = .int .u64 (crcSum (b.drop 4))
  | 7, v, _ => v = .bool (!sumOk b)
  | _, _, _ => True
theorem RdSp.any {B : Nat} {b : List UInt8} {v0 v3 : Value} {w' w'' : World} (h4 : ∀ P, P ≠ B → w'.heap[P]? = some (.cells #[v3] 22 (0, 0)) → w''.heap[P]? = some (.cells #[v3] 22 (0, 0))) (k : Nat) (v : Value) (h : RdSp B b v0 v3 k v w') : RdSp B b v0 v3 k v w'' := by
  rcases k with _ | _ | _ | _ | _ | _ | _ | _ | k
  · exact h
  · exact h
  · exact h
  · exact h
  · obtain ⟨P, e, hn, hr⟩ := h; exact ⟨P, e, hn, h4 P hn hr⟩
  · exact h
  · exact h
  · exact h
  · exact h
theorem conv_u64 (w : World) (n : Nat) (h : n < 4294967296) : (convert 86 61 (.int .u32 n)).run Tryd.prog w = .ok (.int .u64 n) w := by
  have : IntKind.u64.wrap (n : Int) = n := by rw [wrapU64]; omega
  simp [go_sem, this]
theorem sumOk_neq (b : List UInt8) : (((numOf (b.take 4) : Nat) : Int) != ((crcSum (b.drop 4) : Nat) : Int)) = !sumOk b := by
  unfold sumOk
  rw [Bool.eq_iff_iff]; simp; omega
section
variable {ops : Array Oper} {o : Oper} {i : Nat} {a : Act} {w : World} {K : Act → World → Prop} {Q : Exit → Act → World → Prop}
theorem wpOp_neqU {x y : Operand} {n m : Int} {c : Bool} (ho : ops[i]? = some o) (hg : Region.wanted o (yielded ops a.tmps) = true) (hop : o.op = .binOp .neq 61 x y 61) (hx : a.eval x = .int .u64 n) (hy : a.eval y = .int .u64 m) (hc : c = (n != m)) (hK : K (a.put o.dst (.bool c)) w) : wpOp Tryd.prog ops Q i K a w := by
  subst hc
  exact wpOp_val ho hg (by simp only [execOp, hop, hx, hy]; simp [go_sem]) hK
end
theorem num_lt (b : List UInt8) (i k : Nat) (h : i + k ≤ b.length) : numOf ((b.drop i).take k) < 256 ^ k := by
  have h2 := numOf_lt ((b.drop i).take k)
  rwa [show ((b.drop i).take k).length = k by rw [List.length_take, List.length_drop]; omega] at h2
def ReadPost (w : World) (b : List UInt8) (e : Ending) (w' : World) : Prop := Below w.heap.size w w' ∧
  ((sumOk b = true ∧ restOk b = true ∧ ∃ ar c, e = .returned (.tuple #[.int .i64 (atN b), pgv (atK b) (wrap64 (atT b)) (atX b) (bodyAt ar (atS b)) (atS b) (atS b)]) ∧ OwnB w' w.heap.size (.slice ar 234 c) (b.drop 22)) ∨
  (sumOk b = false ∧ e = .panicked (errV 140)) ∨ (sumOk b = true ∧ restOk b = false ∧ e = .panicked (errV 141)))
theorem set4_heap {w : World} {g : Nat} {a0 a1 a2 a3 : Value} {t : TypeId} (v0 v1 v2 v3 : Value) (h : w.heap[g]? = some (.cells #[a0, a1, a2, a3] t (0, 0))) :
    ((((w.setCell ⟨g, 0, none⟩ v0).setCell ⟨g, 1, none⟩ v1).setCell ⟨g, 2, none⟩ v2).setCell ⟨g, 3, none⟩ v3).heap[g]? = some (.cells #[v0, v1, v2, v3] t (0, 0)) := by
  have h0 := heap_setCell_same w g 0 _ _ v0 h
  have h1 := heap_setCell_same _ g 1 _ _ v1 h0
  have h2 := heap_setCell_same _ g 2 _ _ v2 h1
  have h3 := heap_setCell_same _ g 3 _ _ v3 h2
  rw [h3]; rfl
theorem set4_grown (w : World) (g : Nat) (v0 v1 v2 v3 : Value) :
    w.grownBy ((((w.setCell ⟨g, 0, none⟩ v0).setCell ⟨g, 1, none⟩ v1).setCell ⟨g, 2, none⟩ v2).setCell ⟨g, 3, none⟩ v3) (some g) :=
  World.grownBy.trans (World.grownBy.trans (World.grownBy.trans (set_grown w ⟨g, 0, none⟩ v0) (set_grown _ ⟨g, 1, none⟩ v1)) (set_grown _ ⟨g, 2, none⟩ v2)) (set_grown _ ⟨g, 3, none⟩ v3)
theorem results_tc {fn : Func} {p u : Tmp} {ty : TypeId} {fs : Array Field} (h : fn.results = #[.tmp u, .cell p ty]) (tmps : Array Value) (w : World) (g : Nat) (t : TypeId) (cs : Array Value) (fr : Nat × Nat)
    (hp : tmps.getD p undef = .pointer (some ⟨g, 0, none⟩)) (hg : w.heap[g]? = some (.cells cs t fr)) (hu : Tryd.prog.underlying ty = some (.struct fs)) (hi : (Tryd.prog.info? ty).map (·.size) = some cs.size) :
    (results fn tmps).run Tryd.prog w = .ok (.tuple #[tmps.getD u undef, .agg cs]) w := by
  have h1 : (results fn tmps).run Tryd.prog w = ((asAddr (tmps.getD p undef)).run Tryd.prog w).andThen fun a w => ((loadVar ty a).run Tryd.prog w).andThen fun v w => .ok (.tuple #[tmps.getD u undef, v]) w := by
    simp [results, h]
  rw [h1, hp]
  simp [asAddr, run_loadVar_row w g t ty cs fr _ hg hu rfl hi, Result.andThen]
/-- The reader, and the page that is filled, while the bytes are read. -/
structure RdSt (n₀ : Nat) (w0 w : World) (B : Nat) (r : List UInt8) (V : Nat) (cs : Array Value) : Prop where
  rd : IsRd n₀ w B r
  row : w.heap[V]? = some (.cells cs 55 (0, 0))
  below : Below n₀ w0 w
  lo : n₀ ≤ V
theorem rd_at {n₀ : Nat} {w : World} {B : Nat} {r : List UInt8} (h : IsRd n₀ w B r) : ∃ cs, w.heap[B]? = some (.cells cs 107 (0, 0)) := by
  obtain ⟨v, l, i, h, -⟩ := h; exact ⟨_, h.cells⟩
theorem IsRd.besides {n₀ : Nat} {w w' : World} {B V : Nat} {r : List UInt8} {cs : Array Value} {T : TypeId} {fr : Nat × Nat} (h : IsRd n₀ w B r) (hV : w.heap[V]? = some (.cells cs T fr)) (hT : T ≠ 5) (hT2 : T ≠ 107) (hg : w.grownBy w' (some V)) : IsRd n₀ w' B r := by
  obtain ⟨v, l, i, h, e⟩ := h
  refine ⟨v, l, i, h.kept hg (fun e2 => ?_) (.inr fun e2 => ?_), e⟩
  · obtain rfl := Option.some.inj e2
    rw [h.cells] at hV
    injection hV with hV; injection hV with _ hV _
    exact hT2 hV.symm
  · obtain ⟨cs', hc⟩ := own_block h.own V e2
    rw [hc] at hV
    injection hV with hV; injection hV with _ hV _
    exact hT hV.symm
theorem OwnB.besides {w w' : World} {base : Nat} {u : Value} {l : List UInt8} {V : Nat} {cs : Array Value} {T : TypeId} {fr : Nat × Nat} (h : OwnB w base u l) (hV : w.heap[V]? = some (.cells cs T fr)) (hT : T ≠ 5) (hg : w.grownBy w' (some V)) : OwnB w' base u l :=
  World.ownsRow.kept h hg (.inr fun e2 => by
    obtain ⟨cs', hc⟩ := own_block h V e2
    rw [hc] at hV
    injection hV with hV; injection hV with _ hV _
    exact hT hV.symm)
theorem RdSt.ne {n₀ : Nat} {w0 w : World} {B V : Nat} {r : List UInt8} {cs : Array Value} (h : RdSt n₀ w0 w B r V cs) : V ≠ B := fun e => by
  subst e
  obtain ⟨cs', hc⟩ := rd_at h.rd
  have := hc.symm.trans h.row
  injection this with h1; injection h1 with _ h1 _
  exact absurd h1 (by decide)
theorem RdSt.next {n₀ : Nat} {w0 w w' : World} {B V : Nat} {r r' : List UInt8} {cs : Array Value} (h : RdSt n₀ w0 w B r V cs) (hR : IsRd n₀ w' B r') (hg : w.grownBy w' (some B)) : RdSt n₀ w0 w' B r' V cs :=
  ⟨hR, (hg.block V (Array.getElem?_eq_some_iff.1 h.row).1 (fun e => h.ne (Option.some.inj e))).trans h.row, h.below.trans (rd_below h.rd hg), h.lo⟩
theorem RdSt.go {n₀ : Nat} {w0 w w' : World} {B V : Nat} {r : List UInt8} {cs : Array Value} (h : RdSt n₀ w0 w B r V cs) (hb : Below w.heap.size w w') : RdSt n₀ w0 w' B r V cs :=
  ⟨h.rd.below hb, go_row h.row hb, h.below.trans (hb.mono (Nat.le_trans h.lo (Nat.le_of_lt (Array.getElem?_eq_some_iff.1 h.row).1))), h.lo⟩
theorem RdSt.set {n₀ : Nat} {w0 w : World} {B V : Nat} {r : List UInt8} {cs : Array Value} (h : RdSt n₀ w0 w B r V cs) (j : Nat) (v : Value) : RdSt n₀ w0 (w.setCell ⟨V, j, none⟩ v) B r V (cs.setIfInBounds j v) :=
  ⟨h.rd.besides h.row (by decide) (by decide) (set_grown w ⟨V, j, none⟩ v), heap_setCell_same w V j _ _ v h.row, h.below.setCell h.lo _, h.lo⟩
theorem RdSt.cells {n₀ : Nat} {w0 w : World} {B V : Nat} {r : List UInt8} {c0 c1 c2 c3 : Value} (h : RdSt n₀ w0 w B r V #[c0, c1, c2, c3]) : w.cell? ⟨V, 0, none⟩ = some c0 ∧ w.cell? ⟨V, 1, none⟩ = some c1 ∧ w.cell? ⟨V, 2, none⟩ = some c2 ∧ w.cell? ⟨V, 3, none⟩ = some c3 :=
  ⟨cell_of_row w V 0 _ _ _ h.row, cell_of_row w V 1 _ _ _ h.row, cell_of_row w V 2 _ _ _ h.row, cell_of_row w V 3 _ _ _ h.row⟩
theorem RdSt.free {n₀ : Nat} {w0 w : World} {B V : Nat} {r : List UInt8} {cs : Array Value} (h : RdSt n₀ w0 w B r V cs) (j : Nat) : w.frozen? ⟨V, j, none⟩ = false := frozen_of_row w V j _ _ h.row
def RdInv (n₀ : Nat) (w : World) (B : Nat) (b : List UInt8) (listed : Array Bool) (w' : World) : Prop := Below n₀ w w' ∧ IsRd n₀ w' B (if listed.getD 1 false = true then b.drop 4 else b)
set_option maxRecDepth 100000 in
set_option maxHeartbeats 1000000 in
theorem read_any (b : List UInt8) (hb : b.length = 256) (a : Option Addr) (c n₁ : Nat) (hc : 256 ≤ c) (w : World) (hm : BytesAt n₁ w a b) (hn₁ : n₁ ≤ w.heap.size) (hno : a = none → c = 0) (hT : Tab w) (hg : 0 + 1 ≤ w.heap.size) :
    Calls Tryd.prog 50 #[.slice a 256 c] w fun e w' => ReadPost w b e w' := by
  have hW0 : Below w.heap.size w (w.alloc (.cells #[.int .i64 0, .int .i64 0, .int .i64 0, .slice none 0 0] 55)) := (Below.refl _ _).alloc (Nat.le_refl _) _
  have hnr := fun w' (h : Below w.heap.size w w') => newReader_any w' a b c n₁ (hm.below (h.mono hn₁)) hno (by omega) (by omega)
  rw [hb] at hnr
  have HN := Lib.hid (hnr _ hW0)
  have H0 := Lib.hid hW0
  have HM := Lib.hid (And.intro hm (And.intro hno (And.intro hT hg)))
  clear hm hno hT hg hnr hW0
  go_enter Tryd.func50, Tryd.ntmps50
  go_wp2_with (go_at_call 34; refine HN.out.mono ?_; rintro e w1 ⟨B, rfl, hR1, hb1⟩)
  rw [World.size_alloc] at hR1 hb1
  have hlb := hR1.choose_spec.choose_spec.choose_spec.1
  have hBlt := hlb.lt
  have hBlo := hlb.lo
  clear hlb
  have hb01 := H0.out.trans (hb1.mono (by omega))
  have h1sz := hb1.size
  rw [World.size_alloc] at h1sz
  obtain ⟨a4, c4, ha4⟩ : ∃ a4 c4, (Value.slice (slFrom a c 4) (256 - 4) (c - 4)) = .slice a4 252 c4 := ⟨_, _, rfl⟩
  have hrest : ∀ w', Below w.heap.size w w' → IsBs w'.heap.size w' (.slice a4 252 c4) (b.drop 4) := fun w' h => by
    rw [← ha4]
    exact ⟨slFrom a c 4, c - 4, by rw [List.length_drop, hb], (rest_at ((HM.out.1.below (h.mono hn₁)).mono (Nat.le_trans hn₁ h.size)) (by omega)), slFrom_none HM.out.2.1, by rw [List.length_drop]; omega⟩
  have hsl := fun w' => sliceFrom w' a 256 c 4 (by decide)
  simp only [ha4] at hsl
  clear ha4
  refine wp_region_m (RdInv (w.heap.size + 1) w1 B b) (RdSp B b (.slice a 256 c) (.slice a4 252 c4)) (by kernel_rfl) (by kernel_rfl) (by kernel_rfl) (by kernel_rfl) ⟨(Below.refl _ _).drew, by rw [if_neg (by simp)]; exact hR1.below (Below.refl _ _).drew⟩ ?step ?fin
  case step =>
    intro q o ho listed a' w' hI hn hpre
    have hq : q < 8 := (Array.getElem?_eq_some_iff.1 ho).1
    obtain ⟨hB, hR⟩ := hI.inv
    have hlb := hR.choose_spec.choose_spec.choose_spec.1
    have hBlt' := hlb.lt
    have hall := hb01.trans (hB.mono (by omega))
    have hsame : ∀ k, k ≠ 1 → RdInv (w.heap.size + 1) w1 B b (listed.setIfInBounds k true) w' := fun k hk => ⟨hB, by rw [listed_other (Ne.symm hk)]; exact hR⟩
    match q, hq with
    | 0, _ =>
      cases ho
      exact wpOp_move rfl rfl (.inl rfl) (hI.kept (t := 4) (by kernel_rfl)) ⟨_, rfl, hsame _ (by decide), fun _ => rfl, fun _ _ _ h => h⟩
    | 1, _ =>
      cases ho
      rw [if_neg (by rw [hn]; decide)] at hR
      have e0 : a'.eval (.tmp 10) = wptr B := hI.slot 0 10 rfl (hpre ⟨0, .data⟩ (by simp) rfl) rfl
      refine wpOp_callFn rfl rfl rfl (vs := #[wptr B, .int .i64 4]) (by simp only [List.map_toArray, List.map_cons, List.map_nil, e0]; rfl) (fun _ _ => by kernel_rfl) ((next_any hR 4 (by decide) (by decide) (by omega)).mono ?_)
      rintro e w'' ⟨rfl, hR2, hg2⟩
      refine ⟨_, rfl, _, rfl, ⟨hB.trans (rd_below hR hg2), by rw [if_pos (listed_same (by rw [hI.size]; decide))]; exact hR2⟩, fun _ => rfl, fun j u _ h => RdSp.any (fun P hP hr => (hg2.block P (Array.getElem?_eq_some_iff.1 hr).1 (fun e => hP (Option.some.inj e))).trans hr) j u h⟩
    | 2, _ =>
      cases ho
      exact wpOp_move rfl rfl (.inl rfl) (hI.kept (t := 0) (by kernel_rfl)) ⟨_, rfl, hsame _ (by decide), fun _ => rfl, fun _ _ _ h => h⟩
    | 3, _ =>
      cases ho
      have e2 : a'.eval (.tmp 12) = .slice a 256 c := hI.slot 2 12 rfl (hpre ⟨2, .data⟩ (by simp) rfl) rfl
      exact wpOp_slice rfl rfl rfl e2 rfl rfl rfl (hsl w') ⟨_, rfl, hsame _ (by decide), fun _ => rfl, fun _ _ _ h => h⟩
    | 4, _ =>
      cases ho
      have e3 : a'.eval (.tmp 13) = .slice a4 252 c4 := hI.slot 3 13 rfl (hpre ⟨3, .data⟩ (by simp) rfl) rfl
      have hal : Below w'.heap.size w' (w'.alloc (.cells #[.slice a4 252 c4] 22)) := (Below.refl _ _).alloc (Nat.le_refl _) _
      refine wpOp_buildSlice rfl rfl rfl (vs := #[(0, .slice a4 252 c4)]) (by simp only [List.map_toArray, List.map_cons, List.map_nil, e3]) (v := .slice (some ⟨w'.heap.size, 0, none⟩) 1 1) (w' := w'.alloc (.cells #[.slice a4 252 c4] 22)) (by simp [go_sem]) ⟨_, rfl, ⟨hB.trans (hal.mono (by omega)), by rw [listed_other (by decide)]; exact hR.below hal⟩, fun _ => ⟨_, rfl, by omega, heap_alloc_new _ _⟩, fun j u _ h => RdSp.any (fun P _ hr => (hal.block P (Array.getElem?_eq_some_iff.1 hr).1).trans hr) j u h⟩
    | 5, _ =>
      cases ho
      obtain ⟨P, e4, hPB, hrow⟩ : ∃ P, a'.eval (.tmp 14) = .slice (some ⟨P, 0, none⟩) 1 1 ∧ P ≠ B ∧ w'.heap[P]? = some (.cells #[.slice a4 252 c4] 22 (0, 0)) := hI.slot 4 14 rfl (hpre ⟨4, .data⟩ (by simp) rfl) rfl
      have hbs : BsRow w' P [b.drop 4] := bs_of (vs := [.slice a4 252 c4]) hrow fun j hj => match j, hj with
        | 0, _ => ⟨_, rfl, hrest w' hall⟩
      have hcs := sum_any (some ⟨P, 0, none⟩) 1 [b.drop 4] (by simp) w' (HM.out.2.2.1.below HM.out.2.2.2 hall) (Nat.le_trans HM.out.2.2.2 hall.size) (hbs.parts (by intro l hl; simp only [List.mem_cons, List.not_mem_nil, or_false] at hl; subst hl; rw [List.length_drop]; omega))
      rw [show [b.drop 4].flatten = b.drop 4 by simp] at hcs
      refine wpOp_callFn rfl rfl rfl (vs := #[.slice (some ⟨P, 0, none⟩) 1 1]) (by simp only [List.map_toArray, List.map_cons, List.map_nil, e4]) (fun _ _ => by kernel_rfl) (hcs.mono ?_)
      rintro e w'' ⟨rfl, hb2⟩
      exact ⟨_, rfl, _, rfl, ⟨hB.trans (hb2.mono (by omega)), by rw [listed_other (by decide)]; exact hR.below hb2⟩, fun _ => rfl, fun j u _ h => RdSp.any (fun P _ hr => (hb2.block P (Array.getElem?_eq_some_iff.1 hr).1).trans hr) j u h⟩
    | 6, _ =>
      cases ho
      have hs := crcSum_lt (b.drop 4)
      exact wpOp_conv rfl rfl rfl (hI.slot 5 15 rfl (hpre ⟨5, .data⟩ (by simp) rfl) rfl) (v := .int .u64 (crcSum (b.drop 4))) (w' := w') (conv_u64 w' _ hs) ⟨_, rfl, hsame _ (by decide), fun _ => rfl, fun _ _ _ h => h⟩
    | 7, _ =>
      cases ho
      have e1 : a'.eval (.tmp 11) = .int .u64 (numOf (b.take 4)) := hI.slot 1 11 rfl (hpre ⟨1, .data⟩ (by simp) rfl) rfl
      have e6 : a'.eval (.tmp 16) = .int .u64 (crcSum (b.drop 4)) := hI.slot 6 16 rfl (hpre ⟨6, .data⟩ (by simp) rfl) rfl
      exact wpOp_neqU rfl rfl rfl e1 e6 (sumOk_neq b).symm ⟨_, rfl, hsame _ (by decide), fun _ => rfl, fun _ _ _ h => h⟩
  case fin =>
    intro listed a' w' hI hall
    obtain ⟨hB, hR⟩ := hI.inv
    rw [if_pos (hall 1 (by decide))] at hR
    have e17 : a'.tmps.getD 17 undef = .bool (!sumOk b) := hI.slot 7 17 rfl (hall 7 (by decide)) rfl
    obtain ⟨vs, hvl, hvs, e⟩ := hI.frame 10 8 (Nat.le_of_ble_eq_true (by kernel_rfl)) (by kernel_rfl)
    have v7' := hvs 7 (by decide)
    clear hI hall hvs
    match vs, hvl with
    | [t0, t1, t2, t3, t4, t5, t6, t7], _ =>
    simp only [List.getElem?_cons_zero, List.getElem?_cons_succ, Option.some.injEq] at v7'
    rw [show 10 + 7 = 17 from rfl, e17] at v7'
    subst v7'
    simp only [List.take_succ_cons, List.take_zero, List.drop_succ_cons, List.drop_zero, List.cons_append, List.nil_append, Nat.reduceAdd] at e
    subst e
    have hB1 := hb01.trans (hB.mono (by omega))
    have hRow : w'.heap[w.heap.size]? = some (.cells #[.int .i64 0, .int .i64 0, .int .i64 0, .slice none 0 0] 55 (0, 0)) := (hB.block w.heap.size (by omega)).trans ((hb1.block w.heap.size (by omega)).trans (heap_alloc_new w _))
    have HX := Lib.hid (And.intro hB1 (And.intro hR hRow))
    clear hR1 hb1 hB hR hrest hsl e17 HN hBlt hBlo h1sz hb01 hB1 hRow
    by_cases hsum : sumOk b = true
    case neg =>
      have hsum' : sumOk b = false := by simpa using hsum
      rw [hsum']
      have HS := Lib.hid hsum'
      clear hsum hsum'
      go_wp2
      exact ⟨rfl, HX.out.1, .inr (.inl ⟨HS.out, rfl⟩)⟩
    rw [hsum]
    have HS := Lib.hid hsum
    clear hsum
    have hw1 := HX.out.1.size
    go_wp2_with fail
    have hal : Below w'.heap.size w' (w'.alloc (.cells #[.int .i64 0, .int .i64 0, .int .i64 0, .slice none 0 0] 55)) := (Below.refl _ _).alloc (Nat.le_refl _) _
    obtain ⟨V, hV⟩ : ∃ V, w'.heap.size = V := ⟨_, rfl⟩
    have hr0 := heap_alloc_new w' (.cells #[.int .i64 0, .int .i64 0, .int .i64 0, .slice none 0 0] 55)
    rw [hV] at hr0
    have hVlo : w.heap.size + 1 ≤ V := by have := (Array.getElem?_eq_some_iff.1 HX.out.2.2).1; omega
    have hS0 : RdSt (w.heap.size + 1) w' (w'.alloc (.cells #[.int .i64 0, .int .i64 0, .int .i64 0, .slice none 0 0] 55)) B (b.drop 4) V #[.int .i64 0, .int .i64 0, .int .i64 0, .slice none 0 0] :=
      ⟨HX.out.2.1.below hal, hr0, hal.mono (by omega), hVlo⟩
    revert hS0
    rw [hV]
    clear hr0
    generalize w'.alloc (.cells #[.int .i64 0, .int .i64 0, .int .i64 0, .slice none 0 0] 55) = wa
    intro hS0
    clear hal
    refine (next_any hS0.rd 1 (by decide) (by decide) (by rw [List.length_drop]; omega)).mono ?_
    rintro e w2 ⟨rfl, hR, hg⟩
    have hS := hS0.next hR hg
    rw [List.drop_drop] at hS
    obtain ⟨k, hk⟩ : ∃ k, numOf ((b.drop 4).take 1) = k := ⟨_, rfl⟩
    have hkl := num_lt b 4 1 (by omega)
    rw [hk] at hkl ⊢
    simp only [Nat.reducePow] at hkl
    have Ek := Lib.hid hk
    clear hR hg hk
    have c0 := hS.cells.1; have f0 := hS.free 0
    have hS1 := hS.set 0 (.int .i64 k)
    have HS1 := Lib.hid hS1
    clear hS hS0 hS1
    go_wp2_with fail
    have hS0 : RdSt (w.heap.size + 1) w' _ B (b.drop 5) V #[.int .i64 k, .int .i64 0, .int .i64 0, .slice none 0 0] := HS1.out
    clear HS1 c0 f0
    revert hS0
    generalize w2.setCell ⟨V, 0, none⟩ (.int .i64 (k : Int)) = wa
    intro hS0
    refine (next_any hS0.rd 1 (by decide) (by decide) (by rw [List.length_drop]; omega)).mono ?_
    rintro e w2 ⟨rfl, hR, hg⟩
    have hS := hS0.next hR hg
    rw [List.drop_drop] at hS
    obtain ⟨sz, hsz⟩ : ∃ sz, numOf ((b.drop 5).take 1) = sz := ⟨_, rfl⟩
    have hszl := num_lt b 5 1 (by omega)
    rw [hsz] at hszl ⊢
    simp only [Nat.reducePow] at hszl
    have Esz := Lib.hid hsz
    clear hR hg hsz
    have HS1 := Lib.hid hS
    clear hS hS0
    go_wp2_with fail
    have hS0 : RdSt (w.heap.size + 1) w' _ B (b.drop 6) V #[.int .i64 k, .int .i64 0, .int .i64 0, .slice none 0 0] := HS1.out
    clear HS1
    refine (next_any hS0.rd 8 (by decide) (by decide) (by rw [List.length_drop]; omega)).mono ?_
    rintro e w2 ⟨rfl, hR, hg⟩
    have hS := hS0.next hR hg
    rw [List.drop_drop] at hS
    obtain ⟨t, ht⟩ : ∃ t, numOf ((b.drop 6).take 8) = t := ⟨_, rfl⟩
    have htl := num_lt b 6 8 (by omega)
    rw [ht] at htl ⊢
    simp only [Nat.reducePow] at htl
    have Et := Lib.hid ht
    clear hR hg ht
    have c0 := hS.cells.2.1; have f0 := hS.free 1
    have hS1 := hS.set 1 (.int .i64 (wrap64 t))
    have HS1 := Lib.hid hS1
    clear hS hS0 hS1
    go_wp2_with fail
    have hS0 : RdSt (w.heap.size + 1) w' _ B (b.drop 14) V #[.int .i64 k, .int .i64 (wrap64 t), .int .i64 0, .slice none 0 0] := HS1.out
    clear HS1 c0 f0
    revert hS0
    generalize w2.setCell ⟨V, 1, none⟩ (.int .i64 (wrap64 (t : Int))) = wa
    intro hS0
    refine (next_any hS0.rd 4 (by decide) (by decide) (by rw [List.length_drop]; omega)).mono ?_
    rintro e w2 ⟨rfl, hR, hg⟩
    have hS := hS0.next hR hg
    rw [List.drop_drop] at hS
    obtain ⟨n, hn⟩ : ∃ n, numOf ((b.drop 14).take 4) = n := ⟨_, rfl⟩
    have hnl := num_lt b 14 4 (by omega)
    rw [hn] at hnl ⊢
    simp only [Nat.reducePow] at hnl
    have En := Lib.hid hn
    clear hR hg hn
    have HS1 := Lib.hid hS
    clear hS hS0
    go_wp2_with fail
    have hS0 : RdSt (w.heap.size + 1) w' _ B (b.drop 18) V #[.int .i64 k, .int .i64 (wrap64 t), .int .i64 0, .slice none 0 0] := HS1.out
    clear HS1
    refine (next_any hS0.rd 4 (by decide) (by decide) (by rw [List.length_drop]; omega)).mono ?_
    rintro e w2 ⟨rfl, hR, hg⟩
    have hS := hS0.next hR hg
    rw [List.drop_drop] at hS
    obtain ⟨x, hx⟩ : ∃ x, numOf ((b.drop 18).take 4) = x := ⟨_, rfl⟩
    have hxl := num_lt b 18 4 (by omega)
    rw [hx] at hxl ⊢
    simp only [Nat.reducePow] at hxl
    have Ex := Lib.hid hx
    clear hR hg hx
    have c0 := hS.cells.2.2.1; have f0 := hS.free 2
    have HS1 := Lib.hid (hS.set 2 (.int .i64 x))
    clear hS hS0
    go_wp2_with fail
    have hS0 : RdSt (w.heap.size + 1) w' _ B (b.drop 22) V #[.int .i64 k, .int .i64 (wrap64 t), .int .i64 x, .slice none 0 0] := HS1.out
    clear HS1 c0 f0
    revert hS0
    generalize w2.setCell ⟨V, 2, none⟩ (.int .i64 (x : Int)) = wa
    intro hS0
    refine (rrest_any hS0.rd).mono ?_
    rintro e w3 ⟨v3, rfl, hO3, hb3⟩
    have hS := hS0.go hb3
    obtain ⟨ar, cr, hv, hm3, hle3, hcm3, hno3, -⟩ := hO3.form
    have hl234 : (b.drop 22).length = 234 := by rw [List.length_drop]; omega
    rw [hl234] at hle3 hv
    subst hv
    have hbod := body_any ar (b.drop 22) cr w3.heap.size (by omega) (by omega) (by omega) (by unfold maxLen at hcm3; omega) sz (by omega) w3 hm3
    rw [hl234] at hbod
    have HBO := Lib.hid hbod
    have hwa : w.heap.size ≤ wa.heap.size := by
      have h1 := hS0.below.size
      omega
    have HS1 := Lib.hid (And.intro hS (hO3.mono hwa))
    have c0 := hS.cells.2.2.2; have f0 := hS.free 3
    clear hS hS0 hO3 hb3 hm3 hle3 hcm3 hno3 hl234 hbod hwa
    go_wp2_with fail
    refine HBO.out.mono ?_
    rintro e w4 (⟨hbo, rfl, rfl⟩ | ⟨hbo, rfl, rfl⟩)
    case inr =>
      have hrest : restOk b = false := by
        unfold restOk
        rw [show atS b = sz from Esz.out, hbo]; rfl
      have hbb : Below w.heap.size w w3 := HX.out.1.trans (HS1.out.1.below.mono (by omega))
      go_wp2
      exact ⟨rfl, hbb, .inr (.inr ⟨HS.out, hrest, rfl⟩)⟩
    have HBK := Lib.hid hbo
    clear hbo HBO
    go_wp2_with fail
    have hS0 : RdSt (w.heap.size + 1) w' _ B (b.drop 22) V #[.int .i64 k, .int .i64 (wrap64 t), .int .i64 x, .slice (bodyAt ar sz) sz sz] := HS1.out.1.set 3 (.slice (bodyAt ar sz) sz sz)
    have hO0 : OwnB (w3.setCell ⟨V, 3, none⟩ (.slice (bodyAt ar sz) sz sz)) w.heap.size (.slice ar 234 cr) (b.drop 22) := HS1.out.2.besides HS1.out.1.row (by decide) (set_grown w3 ⟨V, 3, none⟩ _)
    have hSO := And.intro hS0 hO0
    clear HS1 c0 f0 hS0 hO0
    obtain ⟨ab, hab⟩ : ∃ ab, bodyAt ar sz = ab := ⟨_, rfl⟩
    rw [hab] at hSO ⊢
    have HAB := Lib.hid hab
    clear hab
    revert hSO
    generalize w3.setCell ⟨V, 3, none⟩ (.slice ab sz sz) = w4
    rintro ⟨hS0, hO0⟩
    have hrest : restOk b = (numB n && rightB k (wrap64 t) x sz) := by
      unfold restOk
      rw [show atS b = sz from Esz.out, HBK.out, show atN b = n from En.out, show atK b = k from Ek.out, show atT b = t from Et.out, show atX b = x from Ex.out]; rfl
    have HR := Lib.hid hrest
    have hbb : Below w.heap.size w w4 := HX.out.1.trans (hS0.below.mono (by omega))
    have HB4 := Lib.hid hbb
    clear hrest hbb
    by_cases hn1 : numB (n : Int) = true
    case neg =>
      have hn2 : numB (n : Int) = false := by simpa using hn1
      clear hn1
      have HS0 := Lib.hid hS0
      clear hS0 hO0
      refine (isNumber_any _ _).mono ?_
      rintro e w5 ⟨rfl, rfl⟩
      go_wp2
      exact ⟨rfl, HB4.out, .inr (.inr ⟨HS.out, by rw [HR.out, hn2]; rfl, rfl⟩)⟩
    refine (isNumber_any _ _).mono ?_
    rintro e w5 ⟨rfl, rfl⟩
    obtain ⟨c0, c1, c2, c3⟩ := hS0.cells
    have HS0 := Lib.hid (And.intro hS0 hO0)
    clear hS0 hO0
    go_wp2_with fail
    by_cases hr1 : rightB (k : Int) (wrap64 t) (x : Int) sz = true
    case neg =>
      have hr2 : rightB (k : Int) (wrap64 t) (x : Int) sz = false := by simpa using hr1
      have hck := check_any k (wrap64 t) x ab sz sz w4 (by omega)
      rw [hr2, if_neg (by decide)] at hck
      refine hck.mono ?_
      rintro e w5 ⟨rfl, hb5⟩
      have HB5 := Lib.hid (go_on HB4.out hb5)
      clear hr1 hb5 hck
      go_wp2
      exact ⟨rfl, HB5.out, .inr (.inr ⟨HS.out, by rw [HR.out, hr2]; simp, rfl⟩)⟩
    have hck := check_any k (wrap64 t) x ab sz sz w4 (by omega)
    rw [hr1, if_pos rfl] at hck
    refine hck.mono ?_
    rintro e w5 ⟨rfl, hb5⟩
    have hS5 := HS0.out.1.go hb5
    have hO5 := HS0.out.2.below hb5
    have hB5 := go_on HB4.out hb5
    have hrowV := hS5.row
    have hrowR : w5.heap[w.heap.size]? = some (.cells #[.int .i64 0, .int .i64 0, .int .i64 0, .slice none 0 0] 55 (0, 0)) := (hS5.below.block w.heap.size (by omega)).trans HX.out.2.2
    obtain ⟨c0, c1, c2, c3⟩ := hS5.cells
    have d0 := cell_of_row w5 w.heap.size 0 _ _ _ hrowR; have f0 := frozen_of_row w5 w.heap.size 0 _ _ hrowR
    have d1 := cell_of_row w5 w.heap.size 1 _ _ _ hrowR; have f1 := frozen_of_row w5 w.heap.size 1 _ _ hrowR
    have d2 := cell_of_row w5 w.heap.size 2 _ _ _ hrowR; have f2 := frozen_of_row w5 w.heap.size 2 _ _ hrowR
    have d3 := cell_of_row w5 w.heap.size 3 _ _ _ hrowR; have f3 := frozen_of_row w5 w.heap.size 3 _ _ hrowR
    simp only [List.getElem?_toArray, List.getElem?_cons_zero, List.getElem?_cons_succ] at d0 d1 d2 d3
    have hVR : ¬ V = w.heap.size := by omega
    have H5 := Lib.hid (And.intro hS5 (And.intro hO5 (And.intro hB5 hrowR)))
    have hr0 := Lib.hid hr1
    clear hS5 hO5 hB5 hrowV hrowR hck hb5 hr1
    go_wp2_with fail
    go_region
    go_wp2
    obtain ⟨hS5, hO5, hB5, hrowR⟩ := H5.out
    have hgr := set4_grown w5 w.heap.size (.int .i64 (k : Int)) (.int .i64 (wrap64 (t : Int))) (.int .i64 (x : Int)) (.slice ab sz sz)
    refine bodyPost_ret (results_tc rfl _ _ _ _ _ _ rfl (set4_heap _ _ _ _ hrowR) Tryd.underlying55 (by kernel_rfl)) rfl ?_
    refine ⟨(hB5.grown hgr hB5.size (fun q e => by cases e; exact Nat.le_refl _)).drew, .inl ⟨HS.out, by rw [HR.out, hn1, hr0.out]; rfl, ar, cr, ?_, ?_⟩⟩
    · rw [show atN b = n from En.out, show atK b = k from Ek.out, show atT b = t from Et.out, show atX b = x from Ex.out, show atS b = sz from Esz.out, HAB.out]; rfl
    · exact (hO5.besides hrowR (by decide) hgr).below (Below.refl _ _).drew
end Go.Proofs.YtaijjlaheoamaaaDoor
