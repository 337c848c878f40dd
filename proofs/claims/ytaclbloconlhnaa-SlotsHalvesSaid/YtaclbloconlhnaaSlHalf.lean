/- Layer 5: SlDo, SlHd, SlHq and SlotsHalves in one text (a claim has at most 60 files; printed by hand from these four). -/
import Derived.Test.YtaclbloconlhnaaSlCe
import Derived.Test.YtaclbloconlhnaaSlotsSizes
import Derived.Test.YtaclbloconlhnaaSlHv
namespace Go.Proofs.Ytaclbloconlhnaa
open Go.RowKit

/-! From SlDo. -/
theorem Goes.apart {w w' : World} {v v' : Value} {base : Nat} {u : Value} {l : List UInt8} (h : Goes w w' v v') (hu : OwnB w base u l) (hs : ∀ g, v.ownBlock = some g → u.ownBlock ≠ some g) : OwnB w' base u l ∧ ∀ g, v'.ownBlock = some g → u.ownBlock ≠ some g := by
  refine ⟨World.ownsRow.kept hu h.grown ?_, fun g hg hg2 => ?_⟩
  · cases hx : u.ownBlock with
    | none => exact .inl rfl
    | some g => exact .inr fun e => hs g e.symm hx
  · rcases h.near with e | ⟨q, e, hq⟩
    · exact hs g (e ▸ hg) hg2
    · rw [e] at hg
      cases hg
      obtain ⟨cs, hh⟩ := own_block hu g hg2
      have := (Array.getElem?_eq_some_iff.1 hh).1
      omega
theorem some_of {w : World} {n : Nat} {a : Option Addr} {l : List UInt8} (h : BytesAt n w a l) (hl : l ≠ []) : ∃ ad, a = some ad := by
  obtain ⟨b, off, rfl, -⟩ := h hl; exact ⟨_, rfl⟩
set_option maxRecDepth 100000 in
set_option maxHeartbeats 2000000 in
theorem all5_any (k : Int) (L : List Cv) (hr : RightC k L) (hcap : L.length ≤ 1000) (a : Option Addr) (cap : Nat) (w : World) (hm : CellsAt w.heap.size w a L) :
    Calls Try.prog 16 #[.int .i64 k, .slice a L.length cap] w fun e w' => ∃ v, e = .returned v ∧ OwnB w' w.heap.size v (rawB (bytesOf (k == 2) L)) ∧ Below w.heap.size w w' := by
  have HM := Lib.hid hm
  have HR := Lib.hid hr
  have hkk : (k == 2) = true ∨ (k == 2) = false := by cases k == 2 <;> simp
  obtain ⟨lf, hlf⟩ : ∃ lf, (k == 2) = lf := ⟨_, rfl⟩
  obtain ⟨ls, hls⟩ : ∃ ls, bytesOf (k == 2) L = ls := ⟨_, rfl⟩
  have hlen : ls.length = L.length := by rw [← hls, bytesOf_len]
  have hle9 : ∀ l ∈ ls, l.length ≤ 900 := by rw [← hls]; exact bytesOf_le _ _
  have hfl9 := takenN_le ls hle9
  have hflat := takenN_flat ls
  rw [hls]
  rw [hlf] at hls
  have HLS := Lib.hid (And.intro hls (And.intro hlen (And.intro hle9 (show ls.flatten.length ≤ 1000000 by omega))))
  clear hm hr hls hlen hle9 hfl9 hflat hkk
  go_enter Try.func16, Try.ntmps16
  go_wp2_with fail
  refine (num5_any L.length 2 (by omega) (by omega) (by omega) w).mono ?_
  rintro e w1 ⟨v1, rfl, hO1, hb1⟩
  obtain ⟨a1, c1, rfl, -⟩ := hO1.form
  have H1 := Lib.hid (And.intro hO1 hb1)
  rw [laidB_len]
  clear hO1 hb1
  go_wp2
  go_loopw [5, 7, 8, 9, 17, 18, 19, 20, 21, 22, 23, 24, 25, 26, 27, 28, 29, 30, 31, 32, 33, 34, 35, 36, 37, 38, 39] (fun bv cv y _ _ _ _ _ _ _ _ _ _ _ _ _ _ _ _ _ _ _ _ _ _ _ _ wr => Below w.heap.size w wr ∧ OwnB wr w.heap.size bv (laidB L.length 2 2 ++ headsUpto ls (intOf y).toNat) ∧ OwnB wr w.heap.size cv (ls.take (intOf y).toNat).flatten ∧ (∀ g, bv.ownBlock = some g → cv.ownBlock ≠ some g) ∧ ∃ i : Nat, y = .int .i64 i ∧ i ≤ L.length) (fun _ _ y _ _ _ _ _ _ _ _ _ _ _ _ _ _ _ _ _ _ _ _ _ _ _ _ _ => L.length - (intOf y).toNat)
  case atStart => exact ⟨H1.out.2, by have := H1.out.1; rw [laidB_len] at this; simpa [headsUpto, intOf] using this, by simpa [intOf] using OwnB.nil _ _, (fun g _ e => by cases e), 0, rfl, Nat.zero_le _⟩
  case round =>
    obtain ⟨hb, hO, hC, hsep, i, rfl, hi⟩ := hrel
    simp only [intOf, Int.toNat_natCast] at hO hC
    by_cases hlt : i < L.length
    · have hiL : (i : Int) < (L.length : Int) := by omega
      obtain ⟨b, off, rfl, hbs, hcs⟩ := (HM.out.below hb) (by rintro rfl; simp at hlt)
      have hci := hcs i hlt
      obtain ⟨c, hcd⟩ : ∃ c, L.getD i default = c := ⟨_, rfl⟩
      rw [hcd] at hci
      have hok := (HR.out.2.2 i hlt).1
      rw [hcd, hlf] at hok
      obtain ⟨k0, k1, k2, k3, k4⟩ := hci
      have hget : ls.getD i [] = (handOf lf c).1 := by rw [← HLS.out.1, ← hcd]; simp [bytesOf, List.getD, hlt]
      have hft := flat_succ (ls := ls) (k := i) (by rw [HLS.out.2.1]; exact hlt)
      rw [hget] at hft
      have hhs := headsUpto_succ ls i
      rw [HLS.out.2.1] at hhs
      have hfl := take_flat_le ls i
      obtain ⟨a7, c7, e7, -⟩ := hC.form
      obtain ⟨m, hmm⟩ : ∃ m, (ls.take i).flatten.length = m := ⟨_, rfl⟩
      rw [hmm] at e7 hhs hfl
      have hxl := cell_len hok
      have HCE := Lib.hid (fun w => cell5_any lf c hok w)
      obtain ⟨x, hx⟩ : ∃ x, (handOf lf c).1 = x := ⟨_, rfl⟩
      rw [hx] at hxl HCE hft
      obtain ⟨q, hq⟩ : ∃ q, 2 + 2 * L.length + m = q := ⟨_, rfl⟩
      rw [hq] at hhs
      have hqb : q ≤ 2000000 := by have := HLS.out.2.2.2; omega
      subst e7
      have hlb : (laidB L.length 2 2 ++ headsUpto ls i).length ≤ 5000 := by rw [List.length_append, laidB_len, headsUpto_len]; omega
      have hmb : m ≤ 1000000 := Nat.le_trans hfl HLS.out.2.2.2
      have hOlt : ∀ g, u5.ownBlock = some g → g < wr.heap.size := fun g hg => by
        obtain ⟨cs, hh⟩ := own_block hO g hg
        exact (Array.getElem?_eq_some_iff.1 hh).1
      have HX := Lib.hid (And.intro hb (And.intro hO (And.intro hC (And.intro hsep (And.intro hft (And.intro hhs hlt))))))
      have HL2 := Lib.hid (And.intro hlb (And.intro hmm (And.intro hOlt (And.intro hxl hmb))))
      clear hb hO hC hsep hft hhs hfl hcs hcd hget hok hx hmm hlb hOlt hxl
      go_wp2_with fail
      refine (HCE.out wr).mono ?_
      rintro e w2 ⟨v2, rfl, hO2, hb2⟩
      obtain ⟨a2, c2, e2, m2, m3, -, m5, -⟩ := hO2.form
      obtain ⟨xl, hxl⟩ : ∃ n, x.length = n := ⟨_, rfl⟩
      rw [hxl] at e2 m3
      obtain ⟨ad2, rfl⟩ := some_of m2 (by rintro rfl; have := HL2.out.2.2.2.1.1; simp at this)
      subst e2
      have H2 := Lib.hid (And.intro hO2 (And.intro hb2 hxl))
      clear hO2 hb2 m2 m3 m5 k0 k1 k2 k3 k4 hxl
      go_wp2_with fail
      rw [show (2 + 2 * (L.length : Int) + (m : Int)) = ((q : Nat) : Int) by omega]
      refine (num5_any q 2 (by omega) (by omega) (by omega) w2).mono ?_
      rintro e w3 ⟨v3, rfl, hO3, hb3⟩
      obtain ⟨a3, c3, rfl, p2, p3, -, p5, -⟩ := hO3.form
      obtain ⟨ad3, rfl⟩ := some_of p2 (by intro e; have := congrArg List.length e; rw [laidB_len] at this; simp at this)
      have hb23 := H2.out.2.1.trans (hb3.mono H2.out.2.1.size)
      have hO3b := HX.out.2.1.below hb23
      have hC3b := HX.out.2.2.1.below hb23
      have hX3 := H2.out.1.below hb3
      have hb03 := go_on HX.out.1 hb23
      have H3 := Lib.hid (And.intro hO3b (And.intro hC3b (And.intro hX3 (And.intro hb03 (And.intro p2 hb23.size)))))
      rw [laidB_len]
      clear hO3 hb3 p2 p3 p5 hb23 hO3b hC3b hX3 hb03
      go_wp2_with (at_builtin; refine wpList_append_goes rfl (.tmp 30) (.tmp 35) rfl w.heap.size w3.heap.size _ _ rfl H3.out.1 ad3 (laidB q 2 2) c3 rfl H3.out.2.2.2.2.1 (by rw [laidB_len]; have := HL2.out.1; omega) H3.out.2.2.2.1.size ?_; intro v4 w4 hO4 hG4 _; have H4 := Lib.hid (And.intro hO4 hG4); clear hO4 hG4; refine stop_here ?_)
      change wpList _ _ _ _ _ _
      obtain ⟨hC4, hsep4⟩ := H4.out.2.apart H3.out.2.1 HX.out.2.2.2.1
      have hX4 := H3.out.2.2.1.kept H4.out.2.grown (fun g hg => HL2.out.2.2.1 g hg)
      have hb4 := H3.out.2.2.2.1.grown H4.out.2.grown H3.out.2.2.2.1.size (fun k e => own_ge H3.out.1 e)
      obtain ⟨a4, c4, e4, q2, -⟩ := hX4.form
      rw [H2.out.2.2] at e4
      cases e4
      have H5 := Lib.hid (And.intro hC4 (And.intro hsep4 (And.intro hb4 q2)))
      clear hC4 hsep4 hX4 hb4 q2
      go_wp2_with (at_builtin; refine wpList_append_goes rfl (.tmp 37) (.tmp 38) rfl w.heap.size w4.heap.size _ _ rfl H5.out.1 ad2 x c2 (by rw [H2.out.2.2]; rfl) H5.out.2.2.2 (by have := HL2.out.2.1; have := HL2.out.2.2.2.1.2; omega) H5.out.2.2.1.size ?_; intro v6 w6 hO6 hG6 _; have H6 := Lib.hid (And.intro hO6 hG6); clear hO6 hG6; refine stop_here ?_)
      change wpList _ _ _ _ _ _
      obtain ⟨hO7, hsep7⟩ := H6.out.2.apart H4.out.1 (fun g e1 e2 => H5.out.2.1 g e2 e1)
      have hb7 := H5.out.2.2.1.grown H6.out.2.grown H5.out.2.2.1.size (fun k e => own_ge H5.out.1 e)
      have hO8 : OwnB w6 w.heap.size v4 (laidB L.length 2 2 ++ headsUpto ls (i + 1)) := by rw [HX.out.2.2.2.2.2.1, ← List.append_assoc]; exact hO7
      have hC8 : OwnB w6 w.heap.size v6 (ls.take (i + 1)).flatten := by rw [HX.out.2.2.2.2.1]; exact H6.out.1
      have H8 := Lib.hid (And.intro hb7 (And.intro hO8 (And.intro hC8 (fun g e1 e2 => hsep7 g e2 e1))))
      clear hO7 hsep7 hb7 hO8 hC8
      go_wp2
      have hto : (((i : Int) + 1)).toNat = i + 1 := by omega
      refine ⟨⟨H8.out.1, ?_, ?_, H8.out.2.2.2, i + 1, by go_num, HX.out.2.2.2.2.2.2⟩, by have := HX.out.2.2.2.2.2.2; simp only [intOf]; omega⟩
      · simp only [intOf, hto]; exact H8.out.2.1
      · simp only [intOf, hto]; exact H8.out.2.2.1
    · obtain rfl : i = L.length := by omega
      have hkL : ¬ ((L.length : Int) < (L.length : Int)) := by omega
      rw [List.take_of_length_le (by rw [HLS.out.2.1]; exact Nat.le_refl _)] at hC
      obtain ⟨a8, c8, rfl, m2, m3, -, m5, -⟩ := hC.form
      obtain ⟨fl, hfl⟩ : ∃ n, ls.flatten.length = n := ⟨_, rfl⟩
      have HX := Lib.hid (And.intro hb (And.intro hO (And.intro m2 (And.intro m3 (And.intro m5 hfl)))))
      rw [hfl]
      clear hb hO hC hsep m2 m3 m5 hfl
      go_wp2_with (at_builtin; refine wpList_append_bytes rfl (.tmp 40) (.tmp 41) rfl w.heap.size wr.heap.size _ _ rfl HX.out.2.1 a8 ls.flatten c8 (by rw [HX.out.2.2.2.2.2]; rfl) HX.out.2.2.2.2.1 HX.out.2.2.2.1 HX.out.2.2.1 (by rw [List.length_append, laidB_len, headsUpto_len]; have := HLS.out.2.2.2; omega) HX.out.1.size ?_; intro v3 w3 hO3 hG3; have H3 := Lib.hid (And.intro hO3 (HX.out.1.grown hG3 HX.out.1.size (fun k e => own_ge HX.out.2.1 e))); clear hO3 hG3; refine stop_here ?_)
      change wpList _ _ _ _ _ _
      go_wp2
      go_ret
      refine ⟨_, rfl, ?_, H3.out.2⟩
      have := H3.out.1
      unfold rawB
      rw [HLS.out.2.1]
      exact this
/-! From SlHd. -/
theorem take_at (L : List Cv) (n j : Nat) (h : j < (L.take n).length) : (L.take n).getD j default = L.getD j default := by
  rw [List.length_take] at h
  simp [List.getD, show j < n by omega]
theorem drop_at (L : List Cv) (n j : Nat) : (L.drop n).getD j default = L.getD (n + j) default := by simp [List.getD, List.getElem?_drop]
theorem right_take {k : Int} {L : List Cv} (h : RightC k L) (n : Nat) (h1 : 1 ≤ n) (h2 : n ≤ L.length) : RightC k (L.take n) := by
  refine ⟨h.1, fun _ e => ?_, fun j hj => ?_⟩
  · have := congrArg List.length e
    rw [List.length_take, List.length_nil] at this; omega
  · have hj' := hj
    rw [List.length_take] at hj'
    obtain ⟨a, b⟩ := h.2.2 j (by omega)
    refine ⟨by rw [take_at L n j hj]; exact a, fun h0 => ?_⟩
    rw [take_at L n j hj, take_at L n (j - 1) (by omega)]
    exact b h0
theorem right_drop {k : Int} {L : List Cv} (h : RightC k L) (n : Nat) (h2 : n < L.length) : RightC k (L.drop n) := by
  refine ⟨h.1, fun _ e => ?_, fun j hj => ?_⟩
  · have := congrArg List.length e
    rw [List.length_drop, List.length_nil] at this; omega
  · rw [List.length_drop] at hj
    obtain ⟨a, b⟩ := h.2.2 (n + j) (by omega)
    refine ⟨by rw [drop_at]; exact a, fun h0 => ?_⟩
    rw [drop_at, drop_at, show n + (j - 1) = n + j - 1 by omega]
    exact b (by omega)
theorem cells_take {n₁ : Nat} {w : World} {a : Option Addr} {L : List Cv} (h : CellsAt n₁ w a L) (n : Nat) : CellsAt n₁ w a (L.take n) := fun hne => by
  obtain ⟨b, off, rfl, hb, hc⟩ := h (by rintro rfl; simp at hne)
  exact ⟨b, off, rfl, hb, fun j hj => by rw [take_at L n j hj]; exact hc j (by rw [List.length_take] at hj; omega)⟩
theorem cells_drop {n₁ : Nat} {w : World} {b off : Nat} {L : List Cv} (hb : b < n₁) (hc : ∀ j, j < L.length → CellAt w b (off + j * 5) (L.getD j default)) (n : Nat) : CellsAt n₁ w (some ⟨b, off + n * 5, none⟩) (L.drop n) := fun _ =>
  ⟨b, off + n * 5, rfl, hb, fun j hj => by
    rw [List.length_drop] at hj
    rw [drop_at, show off + n * 5 + j * 5 = off + (n + j) * 5 by omega]
    exact hc (n + j) (by omega)⟩
theorem bytesOf_take (leaf : Bool) (L : List Cv) (n : Nat) : bytesOf leaf (L.take n) = (bytesOf leaf L).take n := by simp [bytesOf, List.map_take]
theorem bytesOf_drop (leaf : Bool) (L : List Cv) (n : Nat) : bytesOf leaf (L.drop n) = (bytesOf leaf L).drop n := by simp [bytesOf, List.map_drop]
/-- The document's best place so far. -/
def DocMid (ls : List (List UInt8)) (i n best : Nat) : Prop := (i = 0 → n = 0 ∧ best = 0) ∧ (0 < i → MidAt ls i n (grt ls n) ∧ 1 ≤ n ∧ best = 2 + grt ls n)
theorem docMid_next {ls : List (List UInt8)} {i n best : Nat} (h : DocMid ls i n best) (hi : i + 1 < ls.length) :
    DocMid ls (i + 1) (if n = 0 ∨ 2 + grt ls (i + 1) < best then i + 1 else n) (if n = 0 ∨ 2 + grt ls (i + 1) < best then 2 + grt ls (i + 1) else best) := by
  refine ⟨fun h0 => by omega, fun _ => ?_⟩
  rcases Nat.eq_zero_or_pos i with rfl | hp
  · obtain ⟨rfl, rfl⟩ := h.1 rfl
    rw [if_pos (.inl rfl), if_pos (.inl rfl)]
    refine ⟨⟨fun h0 => by omega, fun _ => ⟨by omega, by omega, rfl, fun j h1 h2 => ?_, fun j h1 h2 => by omega⟩⟩, by omega, rfl⟩
    obtain rfl : j = 1 := by omega
    exact Nat.le_refl _
  · obtain ⟨hm, h1, rfl⟩ := h.2 hp
    have hx := mid_next hm hi
    by_cases hg : grt ls (i + 1) < grt ls n
    · rw [if_pos (.inr (by omega)), if_pos (.inr (by omega))]
      rw [if_pos hg, if_pos hg] at hx
      exact ⟨hx, by omega, rfl⟩
    · rw [if_neg (by omega), if_neg (by omega)]
      rw [if_neg hg, if_neg hg] at hx
      exact ⟨hx, h1, rfl⟩
def DocHalf (w : World) (k : Int) (L : List Cv) (e : Ending) (w' : World) : Prop := Below w.heap.size w w' ∧ ∃ n, e = .returned (.int .i64 (n : Nat)) ∧ MidAt (bytesOf (k == 2) L) (L.length - 1) n (grt (bytesOf (k == 2) L) n)
set_option maxRecDepth 100000 in
set_option maxHeartbeats 800000 in
theorem half5_any (k : Int) (L : List Cv) (hr : RightC k L) (h2 : 2 ≤ L.length) (hcap : L.length ≤ 1000) (a : Option Addr) (cap : Nat) (hle : L.length ≤ cap) (w : World) (hm : CellsAt w.heap.size w a L) :
    Calls Try.prog 23 #[.int .i64 k, .slice a L.length cap] w fun e w' => DocHalf w k L e w' := by
  obtain ⟨b, off, rfl, hbs, hcs⟩ := hm (by rintro rfl; simp at h2)
  have HM := Lib.hid hm
  have HR := Lib.hid hr
  have hbl := bytesOf_len (k == 2) L
  have htl := takenN_le (bytesOf (k == 2) L) (bytesOf_le _ _)
  obtain ⟨ls, hls⟩ : ∃ ls, bytesOf (k == 2) L = ls := ⟨_, rfl⟩
  unfold DocHalf
  rw [hls] at hbl htl ⊢
  have hall : ∀ w' : World, Below w.heap.size w w' → ∀ i, 1 ≤ i → i < L.length → Calls Try.prog 16 #[.int .i64 k, .slice (some ⟨b, off, none⟩) i cap] w' fun e w'' => ∃ v, e = .returned v ∧ (∃ a' c', v = .slice a' (2 + takenN (ls.take i)) c') ∧ Below w'.heap.size w' w'' := fun w' hB i h1 hi => by
    have := all5_any k (L.take i) (right_take HR.out i h1 (by omega)) (by rw [List.length_take]; omega) (some ⟨b, off, none⟩) cap w' ((cells_take (HM.out.below hB) i).mono hB.size)
    rw [List.length_take, Nat.min_eq_left (by omega)] at this
    refine this.mono ?_
    rintro e w'' ⟨v, rfl, hO, hb⟩
    obtain ⟨a', c', rfl, -⟩ := hO.form
    rw [rawB_len, bytesOf_take, hls]
    exact ⟨_, rfl, ⟨a', c', rfl⟩, hb⟩
  have hall2 : ∀ w' : World, Below w.heap.size w w' → ∀ i, 1 ≤ i → i < L.length → Calls Try.prog 16 #[.int .i64 k, .slice (some ⟨b, off + i * 5, none⟩) (L.length - i) (cap - i)] w' fun e w'' => ∃ v, e = .returned v ∧ (∃ a' c', v = .slice a' (2 + takenN (ls.drop i)) c') ∧ Below w'.heap.size w' w'' := fun w' hB i h1 hi => by
    have hcb : ∀ j, j < L.length → CellAt w' b (off + j * 5) (L.getD j default) := fun j hj => (hcs j hj).below hB hbs
    have := all5_any k (L.drop i) (right_drop HR.out i hi) (by rw [List.length_drop]; omega) (some ⟨b, off + i * 5, none⟩) (cap - i) w' (cells_drop (Nat.lt_of_lt_of_le hbs hB.size) hcb i)
    rw [List.length_drop] at this
    refine this.mono ?_
    rintro e w'' ⟨v, rfl, hO, hb⟩
    obtain ⟨a', c', rfl, -⟩ := hO.form
    rw [rawB_len, bytesOf_drop, hls]
    exact ⟨_, rfl, ⟨a', c', rfl⟩, hb⟩
  have HA := Lib.hid (And.intro hall hall2)
  have HLS := Lib.hid hbl
  have hT : takenN ls ≤ 1000000 := by rw [hbl] at htl; omega
  have HT := Lib.hid hT
  clear hall hall2 hm hr hls hbl htl hT hcs hbs
  go_enter Try.func23, Try.ntmps23
  go_wp2
  go_loopw [5, 6, 7, 8, 9, 10, 11, 12, 13, 14, 15, 16, 17, 18, 19, 20, 21, 22, 23, 24, 25, 26, 27, 28, 29, 30, 31, 32, 33, 34, 35, 36, 37, 38, 39, 40] (fun x y z _ _ _ _ _ _ _ _ _ _ _ _ _ _ _ _ _ _ _ _ _ _ _ _ _ _ _ _ _ _ _ _ _ wr => Below w.heap.size w wr ∧ ∃ i n best : Nat, z = .int .i64 ((i + 1 : Nat) : Int) ∧ i + 1 ≤ L.length ∧ x = .int .i64 best ∧ y = .int .i64 n ∧ DocMid ls i n best) (fun _ _ z _ _ _ _ _ _ _ _ _ _ _ _ _ _ _ _ _ _ _ _ _ _ _ _ _ _ _ _ _ _ _ _ _ _ => L.length - (intOf z).toNat)
  case atStart => exact ⟨Below.refl _ _, 0, 0, 0, rfl, by omega, rfl, rfl, fun _ => ⟨rfl, rfl⟩, fun h => absurd h (by omega)⟩
  case round =>
    obtain ⟨hb, i, n, best, rfl, hi, rfl, rfl, hmid⟩ := hrel
    by_cases hlt : i + 1 < L.length
    · have hiL : ((i + 1 : Nat) : Int) < (L.length : Int) := by omega
      have hnx := docMid_next hmid (by rw [HLS.out]; exact hlt)
      have hs1 := slice_lo wr b off L.length cap (i + 1) (by omega)
      have hg2 : grt ls (i + 1) = max (takenN (ls.take (i + 1))) (takenN (ls.drop (i + 1))) := rfl
      have hsp := takenN_split ls (i + 1)
      have HX := Lib.hid (And.intro hb (And.intro hnx (And.intro hlt hmid)))
      obtain ⟨p, hA2⟩ : ∃ A, 2 + takenN (ls.take (i + 1)) = A := ⟨_, rfl⟩
      obtain ⟨q, hB2⟩ : ∃ B, 2 + takenN (ls.drop (i + 1)) = B := ⟨_, rfl⟩
      have hpb : p ≤ 1000002 := by have := HT.out; omega
      have hqb : q ≤ 1000002 := by have := HT.out; omega
      have HAB := Lib.hid (And.intro hA2 (And.intro hB2 hg2))
      clear hb hnx hmid hA2 hB2 hg2 hlt hsp
      go_wp2_with fail
      refine (HA.out.1 wr HX.out.1 (i + 1) (by omega) HX.out.2.2.1).mono ?_
      rintro e w2 ⟨v2, rfl, ⟨a2, c2, rfl⟩, hb2⟩
      rw [HAB.out.1]
      have H2 := Lib.hid (go_on HX.out.1 hb2)
      have hs2 := slice_hi w2 b off L.length cap (i + 1) HX.out.2.2.1 (by omega)
      clear hb2 hs1
      go_wp2_with fail
      refine (HA.out.2 w2 H2.out (i + 1) (by omega) HX.out.2.2.1).mono ?_
      rintro e w3 ⟨v3, rfl, ⟨a3, c3, rfl⟩, hb3⟩
      rw [HAB.out.2.1]
      have H3 := Lib.hid (go_on H2.out hb3)
      clear hb3 hs2
      obtain ⟨m, hm⟩ : ∃ m, max p q = m := ⟨_, rfl⟩
      have hgm : 2 + grt ls (i + 1) = m := by have := HAB.out; omega
      have hnx := HX.out.2.1
      rw [hgm] at hnx
      have HNX := Lib.hid hnx
      clear hnx hgm
      have hw2 : wrap64 (((i + 1 : Nat) : Int) + 1) = ((i + 1 + 1 : Nat) : Int) := by unfold wrap64; omega
      by_cases hpq : p < q
      · obtain rfl : q = m := by omega
        have hd1 : (p : Int) < (q : Int) := by omega
        by_cases hn : n = 0
        · subst hn
          rw [if_pos (.inl rfl), if_pos (.inl rfl)] at HNX
          go_wp2
          exact ⟨⟨H3.out, i + 1, i + 1, q, by go_num, HX.out.2.2.1, rfl, rfl, HNX.out⟩, by have := HX.out.2.2.1; simp only [intOf]; omega⟩
        · have hn0 : ¬ (n : Int) = 0 := by omega
          by_cases hlb : q < best
          · have hd2 : (q : Int) < (best : Int) := by omega
            rw [if_pos (.inr hlb), if_pos (.inr hlb)] at HNX
            go_wp2
            exact ⟨⟨H3.out, i + 1, i + 1, q, by go_num, HX.out.2.2.1, rfl, rfl, HNX.out⟩, by have := HX.out.2.2.1; simp only [intOf]; omega⟩
          · have hd2 : ¬ (q : Int) < (best : Int) := by omega
            rw [if_neg (by rintro (h | h) <;> omega), if_neg (by rintro (h | h) <;> omega)] at HNX
            go_wp2
            exact ⟨⟨H3.out, i + 1, n, best, by go_num, HX.out.2.2.1, rfl, rfl, HNX.out⟩, by have := HX.out.2.2.1; simp only [intOf]; omega⟩
      · obtain rfl : p = m := by omega
        have hd1 : ¬ (p : Int) < (q : Int) := by omega
        by_cases hn : n = 0
        · subst hn
          rw [if_pos (.inl rfl), if_pos (.inl rfl)] at HNX
          go_wp2
          exact ⟨⟨H3.out, i + 1, i + 1, p, by go_num, HX.out.2.2.1, rfl, rfl, HNX.out⟩, by have := HX.out.2.2.1; simp only [intOf]; omega⟩
        · have hn0 : ¬ (n : Int) = 0 := by omega
          by_cases hlb : p < best
          · have hd2 : (p : Int) < (best : Int) := by omega
            rw [if_pos (.inr hlb), if_pos (.inr hlb)] at HNX
            go_wp2
            exact ⟨⟨H3.out, i + 1, i + 1, p, by go_num, HX.out.2.2.1, rfl, rfl, HNX.out⟩, by have := HX.out.2.2.1; simp only [intOf]; omega⟩
          · have hd2 : ¬ (p : Int) < (best : Int) := by omega
            rw [if_neg (by rintro (h | h) <;> omega), if_neg (by rintro (h | h) <;> omega)] at HNX
            go_wp2
            exact ⟨⟨H3.out, i + 1, n, best, by go_num, HX.out.2.2.1, rfl, rfl, HNX.out⟩, by have := HX.out.2.2.1; simp only [intOf]; omega⟩
    · have hie : i + 1 = L.length := by omega
      have hnl : ¬ ((i + 1 : Nat) : Int) < (L.length : Int) := by omega
      obtain ⟨hd1, hd2, -⟩ := hmid.2 (by omega)
      have HX := Lib.hid (And.intro hb hd1)
      clear hb hmid hd1 hd2
      go_wp2
      go_ret
      exact ⟨HX.out.1, n, rfl, by rw [show L.length - 1 = i by omega]; exact HX.out.2⟩
/-! From SlHq. -/
theorem mid_one {ls : List (List UInt8)} {i n n' least least' : Nat} (h : MidAt ls i n least) (h' : MidAt ls i n' least') (hi : 0 < i) : n = n' := by
  obtain ⟨a1, a2, -, a4, a5⟩ := h.2 hi
  obtain ⟨b1, b2, -, b4, b5⟩ := h'.2 hi
  have c1 := a4 n' b1 b2
  have c2 := b4 n a1 a2
  rcases Nat.lt_trichotomy n n' with hl | he | hg
  · have := b5 n a1 hl; omega
  · exact he
  · have := a5 n' b1 hg; omega
theorem takenN_app (a b : List (List UInt8)) : takenN (a ++ b) = takenN a + takenN b := by unfold takenN; rw [List.map_append, List.sum_append]
theorem getD_le {ls : List (List UInt8)} (h : ∀ l ∈ ls, l.length ≤ 111) (i : Nat) (hi : i < ls.length) : (ls.getD i []).length ≤ 111 := h _ (by simp [List.getD, hi])
theorem taken_without {ls : List (List UInt8)} (h : ∀ l ∈ ls, l.length ≤ 111) (i : Nat) (hi : i < ls.length) : takenN ls ≤ takenN (ls.take i ++ ls.drop (i + 1)) + 113 := by
  have h1 := takenN_split ls (i + 1)
  have h2 := takenN_snoc ls i hi
  have h3 := getD_le h i hi
  rw [takenN_app]
  omega
theorem place_fits {ls : List (List UInt8)} (h : ∀ l ∈ ls, l.length ≤ 111) (hT : takenN ls ≤ 343) (h2 : 2 ≤ ls.length) : ∃ j, 1 ≤ j ∧ j ≤ ls.length - 1 ∧ grt ls j ≤ 230 := by
  have key : ∀ i, 1 ≤ i → i ≤ ls.length - 1 → (∃ j, 1 ≤ j ∧ j ≤ i ∧ grt ls j ≤ 230) ∨ 230 < takenN (ls.drop i) := by
    intro i h1 hi
    induction i with
    | zero => omega
    | succ i ih =>
      have hs := takenN_snoc ls i (by omega)
      have h3 := getD_le h i (by omega)
      have hsp := takenN_split ls i
      have hg : grt ls (i + 1) = max (takenN (ls.take (i + 1))) (takenN (ls.drop (i + 1))) := rfl
      by_cases hd : takenN (ls.drop (i + 1)) ≤ 230
      · rcases Nat.eq_zero_or_pos i with rfl | hp
        · refine .inl ⟨1, by omega, by omega, ?_⟩
          have h0 : takenN (ls.take 0) = 0 := rfl
          rw [hg]
          exact Nat.max_le.2 ⟨by omega, hd⟩
        · rcases ih hp (by omega) with ⟨j, j1, j2, j3⟩ | hb
          · exact .inl ⟨j, j1, by omega, j3⟩
          · refine .inl ⟨i + 1, by omega, by omega, ?_⟩
            rw [hg]
            exact Nat.max_le.2 ⟨by omega, hd⟩
      · exact .inr (by omega)
  rcases key (ls.length - 1) (by omega) (by omega) with hj | hb
  · exact hj
  · exfalso
    have h1 := takenN_split ls (ls.length - 1)
    have h3 := takenN_snoc ls (ls.length - 1) (by omega)
    have h4 := getD_le h (ls.length - 1) (by omega)
    rw [show ls.length - 1 + 1 = ls.length by omega, List.take_of_length_le (Nat.le_refl _)] at h3
    omega
theorem both_fit {ls : List (List UInt8)} (h : ∀ l ∈ ls, l.length ≤ 111) (h2 : 2 ≤ ls.length) {i n least : Nat} (hi : i < ls.length) (hr : 2 + takenN (ls.take i ++ ls.drop (i + 1)) ≤ 232) (hm : MidAt ls (ls.length - 1) n least) : 2 + takenN (ls.take n) ≤ 232 ∧ 2 + takenN (ls.drop n) ≤ 232 := by
  have hw := taken_without h i hi
  obtain ⟨j, j1, j2, j3⟩ := place_fits h (by omega) h2
  obtain ⟨-, -, -, a4, -⟩ := hm.2 (by omega)
  have := a4 j j1 j2
  have hg : grt ls n = max (takenN (ls.take n)) (takenN (ls.drop n)) := rfl
  omega
theorem cells_le {k : Int} {L : List Cv} (h : RightC k L) : ∀ l ∈ bytesOf (k == 2) L, l.length ≤ 111 := fun l hl => by
  obtain ⟨c, hc, rfl⟩ := List.mem_map.1 hl
  obtain ⟨j, hj, rfl⟩ := List.mem_iff_getElem.1 hc
  have := (cell_len (h.2.2 j hj).1).2
  simpa [List.getD, hj] using this
/-- The list without one cell may be, if it is not empty. -/
theorem right_without {k : Int} {L : List Cv} (h : RightC k L) (i : Nat) (hi : i < L.length) (h2 : 2 ≤ L.length) : RightC k (L.take i ++ L.drop (i + 1)) := by
  have hl1 : (L.take i).length = i := by rw [List.length_take]; omega
  have e : ∀ j, (L.take i ++ L.drop (i + 1)).getD j default = if j < i then L.getD j default else L.getD (j + 1) default := fun j => by
    by_cases hj : j < i
    · rw [if_pos hj]; simp [List.getD, List.getElem?_append, hl1, hj, show j < L.length by omega]
    · rw [if_neg hj]
      simp only [List.getD, List.getElem?_append, hl1, if_neg hj, List.getElem?_drop]
      rw [show i + 1 + (j - i) = j + 1 by omega]
  refine ⟨h.1, fun _ e => ?_, fun j hj => ?_⟩
  · have := congrArg List.length e
    rw [List.length_append, List.length_drop, hl1, List.length_nil] at this; omega
  · rw [List.length_append, List.length_drop, hl1] at hj
    refine ⟨?_, fun h0 => ?_⟩
    · rw [e]
      split
      · exact (h.2.2 j (by omega)).1
      · exact (h.2.2 (j + 1) (by omega)).1
    · rw [e, e]
      by_cases hj : j < i
      · rw [if_pos hj, if_pos (by omega)]; exact (h.2.2 j (by omega)).2 h0
      · rw [if_neg hj]
        by_cases hj1 : j - 1 < i
        · rw [if_pos hj1]
          exact less_trans _ _ _ ((h.2.2 j (by omega)).2 h0) (by have := (h.2.2 (j + 1) (by omega)).2 (by omega); simpa using this)
        · rw [if_neg hj1, show j - 1 + 1 = j + 1 - 1 by omega]; exact (h.2.2 (j + 1) (by omega)).2 (by omega)
/-- An append of cells to cells that the call made, as a run: for an operation of a drawn statement. -/
theorem run_append_cells (w : World) (base ty : Nat) (v : Value) (L : List Cv) (hown : OwnC w base v L) (b off c : Nat) (M : List Cv) (hp : ∀ j, j < M.length → CellAt w b (off + j * 5) (M.getD j default)) (hbound : L.length + M.length ≤ 1000000) (hbase : base ≤ w.heap.size) :
    ∃ v' w', (Builtin.append_ #[23, 23] ty #[v, .slice (some ⟨b, off, none⟩) M.length c]).run Try.prog w = .ok v' w' ∧ OwnC w' base v' (L ++ M) ∧ w.grownBy w' v.ownBlock := by
  obtain ⟨i0, hi, hz0, hz1, hz2⟩ := info_parts infoCell
  have hnews : ∀ j u, (cellsL M)[j]? = some u → w.cell? ((⟨b, off, none⟩ : Addr).add j) = some u := by
    intro j u hu
    have hj : j < M.length * 5 := by
      have := (List.getElem?_eq_some_iff.1 hu).1; rwa [cellsL_len] at this
    have hc := hp (j / 5) (by omega)
    have e1 : j = j / 5 * 5 + j % 5 := by omega
    have hm : j % 5 < 5 := Nat.mod_lt _ (by omega)
    rw [e1, cellsL_at M _ _ (by omega) hm] at hu
    rw [addr_add, show off + j = off + j / 5 * 5 + j % 5 by omega]
    revert hu hm
    generalize j % 5 = t
    intro hu hm
    match t, hu with
    | 0, hu => cases hu; exact hc.key
    | 1, hu => cases hu; exact hc.text
    | 2, hu => cases hu; exact hc.long
    | 3, hu => cases hu; exact hc.page
    | 4, hu => cases hu; exact hc.size
    | t + 5, hu => omega
  have hone : ∀ u ∈ cellsL M, u.oneCell' = true := by
    intro u hu
    simp only [cellsL, List.mem_flatMap] at hu
    obtain ⟨c, _, hu⟩ := hu
    simp [cellL] at hu
    rcases hu with rfl | rfl | rfl | rfl | rfl <;> rfl
  obtain ⟨v', w', hr, h1, h2, -, -⟩ := run_append_own_at (P := Try.prog) w base 23 ty 50 i0 _ 5 56 Try.underlying23 hi hz0 hz1 hz2 rfl (by decide) v L.length (cellsL L) hown ⟨b, off, none⟩ M.length c (cellsL M) (cellsL_len M) hnews hone (by unfold maxLen; omega) (by omega) hbase
  exact ⟨v', w', hr, by unfold OwnC; rw [List.length_append, show cellsL (L ++ M) = cellsL L ++ cellsL M by simp [cellsL]]; exact h1, h2⟩
/-! From SlotsHalves. -/
theorem slice_hi2 (N b off c n : Nat) (h : n ≤ N) (hN : N ≤ c) : ∃ b' off', (n < N → b' = b ∧ off' = off + n * 5) ∧ ∀ w : World, (Instr.sliceAt 23 (.slice (some ⟨b, off, none⟩) N c) (some (.int .i64 n)) none none).run Try.prog w = .ok (.slice (some ⟨b', off', none⟩) (N - n) (c - n)) w := by
  rcases Nat.lt_or_ge n N with h1 | h1
  · exact ⟨b, off + n * 5, fun _ => ⟨rfl, rfl⟩, fun w => slice_hi w b off N c n h1 hN⟩
  · obtain rfl : n = N := by omega
    by_cases hc : c = n
    · exact ⟨b, off, fun h => absurd h (by omega), fun w => by simp [go_sem, hc]⟩
    · exact ⟨b, off + n * 5, fun h => absurd h (by omega), fun w => by
        have h1 : (0 : Int) ≤ n := by omega
        have h2 : (n : Int) ≤ c := by omega
        simp [go_sem, hc]⟩
theorem wpOp_add1 {ops : Array Oper} {Q : Exit → Act → World → Prop} {i : Nat} {o : Oper} {a : Act} {w : World} {K : Act → World → Prop} {x y : Operand} {n : Nat} (ho : ops[i]? = some o) (hg : Region.wanted o (yielded ops a.tmps) = true) (hop : o.op = .binOp .add 3 x y 3) (hx : a.eval x = .int .i64 n) (hy : a.eval y = .int .i64 1) (hn : n ≤ 1000) (hK : K (a.put o.dst (.int .i64 ((n + 1 : Nat) : Int))) w) : wpOp Try.prog ops Q i K a w := by
  have h : IntKind.i64.wrap ((n : Int) + 1) = ((n + 1 : Nat) : Int) := by rw [wrapEq]; unfold wrap64; omega
  exact wpOp_val ho hg (by simp only [execOp, hop, hx, hy]; simp [go_sem, h]) hK
def WoV (sl : Value) (b off m cap b' off' n' c' : Nat) (v3 v8 : Value) : Nat → Value → World → Prop
  | 0, v, _ => v = sl
  | 1, v, _ => v = .int .i64 m
  | 2, v, _ => v = .slice (some ⟨b, off, none⟩) m cap
  | 3, v, _ => v = v3
  | 4, v, _ => v = sl
  | 5, v, _ => v = .int .i64 m
  | 6, v, _ => v = .int .i64 ((m + 1 : Nat) : Int)
  | 7, v, _ => v = .slice (some ⟨b', off', none⟩) n' c'
  | 8, v, _ => v = v8
  | 9, v, _ => v = v8
  | _, _, _ => True
theorem WoV.any {sl : Value} {b off m cap b' off' n' c' : Nat} {v3 v8 : Value} {w w' : World} (j : Nat) (u : Value) (h : WoV sl b off m cap b' off' n' c' v3 v8 j u w) : WoV sl b off m cap b' off' n' c' v3 v8 j u w' := by
  unfold WoV at h ⊢
  split at h
  all_goals exact h
def WoI (wd w3 w8 : World) (listed : Array Bool) (w : World) : Prop := w = (if listed.getD 8 false then w8 else if listed.getD 3 false then w3 else wd)
theorem listed_ne (listed : Array Bool) (i j : Nat) (h : j ≠ i) : (listed.setIfInBounds i true).getD j false = listed.getD j false := by
  simp [Array.getD_eq_getD_getElem?, Ne.symm h]
theorem listed_eq (listed : Array Bool) (i : Nat) (h : i < listed.size) : (listed.setIfInBounds i true).getD i false = true := by simp [h]
theorem WoI.still {wd w3 w8 : World} {listed : Array Bool} {w : World} (h : WoI wd w3 w8 listed w) {i : Nat} (h3 : 3 ≠ i) (h8 : 8 ≠ i) : WoI wd w3 w8 (listed.setIfInBounds i true) w := by
  unfold WoI at h ⊢
  rw [listed_ne _ _ _ h3, listed_ne _ _ _ h8]; exact h
theorem WoI.at0 {wd w3 w8 : World} {listed : Array Bool} {w : World} (h : WoI wd w3 w8 listed w) (k8 : listed.getD 8 false = false) (k3 : listed.getD 3 false = false) : w = wd := by
  unfold WoI at h; rw [k8, k3] at h; exact h
theorem WoI.at3 {wd w3 w8 : World} {listed : Array Bool} {w : World} (h : WoI wd w3 w8 listed w) (k8 : listed.getD 8 false = false) (k3 : listed.getD 3 false = true) : w = w3 := by
  unfold WoI at h; rw [k8, k3] at h; exact h
theorem WoI.at8 {wd w3 w8 : World} {listed : Array Bool} {w : World} (h : WoI wd w3 w8 listed w) (k8 : listed.getD 8 false = true) : w = w8 := by
  unfold WoI at h; rw [k8] at h; exact h
theorem WoI.to3 {wd w3 w8 : World} {listed : Array Bool} (k8 : listed.getD 8 false = false) (hs : 3 < listed.size) : WoI wd w3 w8 (listed.setIfInBounds 3 true) w3 := by
  unfold WoI
  rw [listed_ne _ _ _ (by decide), k8, listed_eq _ _ hs]; rfl
theorem WoI.to8 {wd w3 w8 : World} {listed : Array Bool} (hs : 8 < listed.size) : WoI wd w3 w8 (listed.setIfInBounds 8 true) w8 := by
  unfold WoI
  rw [listed_eq _ _ hs]; rfl
theorem same_self5 (L : List Cv) : sameL L L := ⟨rfl, fun _ _ => Cv.same_iff.2 rfl⟩
def Halves (k : Int) (L : List Cv) (a : Option Addr) (cap : Nat) (one : Int) (W : World) : Prop :=
  Calls Try.prog 6 #[.int .i64 k, .slice a L.length cap, .int .i64 one] W fun e W' => e = .returned (.bool true) ∧ Below W.heap.size W W'
set_option maxRecDepth 100000 in
set_option maxHeartbeats 1000000 in
theorem halves_no (k : Int) (L : List Cv) (hw : (Lit.int .i64 k).wf = true) (hr : ¬ RightC k L) (a : Option Addr) (cap : Nat) (one : Int) (hle : L.length ≤ cap) (W : World) (hm : CellsAt W.heap.size W a L) (hs : Sized L) (hf : Calls Try.prog 10 #[.slice a L.length cap] W fun e w' => FewPost W L e w') : Halves k L a cap one W := by
  have HF := Lib.hid hf
  have HM := Lib.hid (And.intro hm (And.intro hs hr))
  clear hf hm hs hr
  unfold Halves
  go_enter Try.func6, Try.ntmps6
  go_wp2_with fail
  refine HF.out.mono ?_
  rintro e w ⟨bf, rfl, rfl, hfew⟩
  cases bf
  · clear hfew HF
    go_wp2_with fail
    refine (known_any _).mono ?_
    rintro e w' ⟨rfl, hb⟩
    go_wp2
    go_ret
    exact ⟨rfl, hb⟩
  have h60 := (hfew rfl).1
  clear hfew HF
  go_wp2_with fail
  refine (halve_any k hw _ a L cap hle (by omega) HM.out.1).mono ?_
  rintro e w1 ⟨hb1, ⟨⟨hn, -⟩, -⟩ | ⟨-, rfl⟩⟩
  case inl => exact absurd hn HM.out.2.2
  have H1 := Lib.hid hb1
  clear hb1
  go_wp2_with fail
  refine (right_any k _ a L cap (by omega) ((HM.out.1.below H1.out).mono H1.out.size) HM.out.2.1).mono ?_
  rintro e w2 ⟨hb2, ⟨hn, -⟩ | ⟨-, rfl⟩⟩
  case inl => exact absurd hn HM.out.2.2
  have H2 := Lib.hid (go_on H1.out hb2)
  clear hb2
  go_wp2_with fail
  refine (known_any _).mono ?_
  rintro e w' ⟨rfl, hb⟩
  go_wp2
  go_ret
  exact ⟨rfl, go_on H2.out hb⟩
set_option maxRecDepth 100000 in
set_option maxHeartbeats 1000000 in
theorem halves_one (k : Int) (L : List Cv) (hw : (Lit.int .i64 k).wf = true) (hr : RightC k L) (h2 : ¬ 2 ≤ L.length) (a : Option Addr) (cap : Nat) (one : Int) (hle : L.length ≤ cap) (W : World) (hm : CellsAt W.heap.size W a L) (hs : Sized L) (hf : Calls Try.prog 10 #[.slice a L.length cap] W fun e w' => FewPost W L e w') : Halves k L a cap one W := by
  have HF := Lib.hid hf
  have HM := Lib.hid (And.intro hm (And.intro hs (And.intro hr h2)))
  have hd : (L.length : Int) < 2 := by omega
  clear hf hm hs hr h2
  unfold Halves
  go_enter Try.func6, Try.ntmps6
  go_wp2_with fail
  refine HF.out.mono ?_
  rintro e w ⟨bf, rfl, rfl, hfew⟩
  cases bf
  · clear hfew HF
    go_wp2_with fail
    refine (known_any _).mono ?_
    rintro e w' ⟨rfl, hb⟩
    go_wp2
    go_ret
    exact ⟨rfl, hb⟩
  have h60 := (hfew rfl).1
  clear hfew HF
  go_wp2_with fail
  refine (halve_any k hw _ a L cap hle (by omega) HM.out.1).mono ?_
  rintro e w1 ⟨hb1, ⟨⟨-, hn⟩, -⟩ | ⟨-, rfl⟩⟩
  case inl => exact absurd hn HM.out.2.2.2
  have H1 := Lib.hid hb1
  clear hb1
  go_wp2_with fail
  refine (right_any k _ a L cap (by omega) ((HM.out.1.below H1.out).mono H1.out.size) HM.out.2.1).mono ?_
  rintro e w2 ⟨hb2, ⟨-, rfl⟩ | ⟨hn, -⟩⟩
  case inr => exact absurd HM.out.2.2.1 hn
  have H2 := Lib.hid (go_on H1.out hb2)
  clear hb2
  go_wp2_with fail
  refine (known_any _).mono ?_
  rintro e w' ⟨rfl, hb⟩
  go_wp2
  go_ret
  exact ⟨rfl, go_on H2.out hb⟩
/-- What stands where both parts are told and are the document's. -/
structure HalfSt (k : Int) (L : List Cv) (W : World) (n : Nat) (a1 a2 : Option Addr) (w : World) : Prop where
  below : Below W.heap.size W w
  left : CellsAt w.heap.size w a1 (L.take n)
  right : CellsAt w.heap.size w a2 (L.drop n)
theorem HalfSt.go {k : Int} {L : List Cv} {W : World} {n : Nat} {a1 a2 : Option Addr} {w w' : World} (h : HalfSt k L W n a1 a2 w) (hb : Below w.heap.size w w') : HalfSt k L W n a1 a2 w' :=
  ⟨go_on h.below hb, (h.left.below hb).mono hb.size, (h.right.below hb).mono hb.size⟩
set_option maxRecDepth 100000 in
set_option maxHeartbeats 1000000 in
theorem halves_out (k : Int) (L : List Cv) (hw : (Lit.int .i64 k).wf = true) (hr : RightC k L) (h2 : 2 ≤ L.length) (a : Option Addr) (cap : Nat) (one : Int) (hone : one < 0 ∨ (L.length : Int) ≤ one) (hle : L.length ≤ cap) (W : World) (hm : CellsAt W.heap.size W a L) (hs : Sized L) (hf : Calls Try.prog 10 #[.slice a L.length cap] W fun e w' => FewPost W L e w') : Halves k L a cap one W := by
  obtain ⟨b, off, rfl, hbs, hcs⟩ := hm (by rintro rfl; simp at h2)
  have HF := Lib.hid hf
  have HM := Lib.hid (And.intro hm (And.intro hs (And.intro hr (And.intro hbs hcs))))
  have hd : ¬ (L.length : Int) < 2 := by omega
  clear hf hm hs hr hbs hcs
  unfold Halves
  go_enter Try.func6, Try.ntmps6
  go_wp2_with fail
  refine HF.out.mono ?_
  rintro e w ⟨bf, rfl, rfl, hfew⟩
  cases bf
  · clear hfew HF hone
    go_wp2_with fail
    refine (known_any _).mono ?_
    rintro e w' ⟨rfl, hb⟩
    go_wp2
    go_ret
    exact ⟨rfl, hb⟩
  have h60 := (hfew rfl).1
  have HONE := Lib.hid hone
  clear hfew HF hone
  go_wp2_with fail
  refine (halve_any k hw _ _ L cap hle (by omega) HM.out.1).mono ?_
  rintro e w1 ⟨hb1, ⟨-, n, least, v1, v2, hmid, rfl, hO1, hO2⟩ | ⟨hn, -⟩⟩
  case inr => exact absurd ⟨HM.out.2.2.1, h2⟩ hn
  obtain ⟨hn1, hn2, -⟩ := hmid.2 (by omega)
  obtain ⟨a1, c1, rfl, hc1, hm1, -, hA1, -⟩ := hO1.form
  obtain ⟨a2, c2, rfl, hc2, hm2, -, hA2, -⟩ := hO2.form
  have hl1 : (L.take n).length = n := by rw [List.length_take]; omega
  have hl2 : (L.drop n).length = L.length - n := List.length_drop
  rw [hl1] at hc1 ⊢
  rw [hl2] at hc2 ⊢
  have HMID := Lib.hid hmid
  have S1 := Lib.hid (show HalfSt k L W n a1 a2 w1 from ⟨hb1, hA1, hA2⟩)
  clear hb1 hO1 hO2 hA1 hA2 hmid
  go_wp2_with fail
  refine (right_any k _ _ L cap (by omega) ((HM.out.1.below S1.out.below).mono S1.out.below.size) HM.out.2.1).mono ?_
  rintro e w2 ⟨hb2, ⟨-, rfl⟩ | ⟨hn, -⟩⟩
  case inr => exact absurd HM.out.2.2.1 hn
  have S2 := Lib.hid (S1.out.go hb2)
  clear hb2
  go_wp2_with fail
  refine (half5_any k L HM.out.2.2.1 h2 (by omega) _ cap hle _ ((HM.out.1.below S2.out.below).mono S2.out.below.size)).mono ?_
  rintro e w3 ⟨hb3, n', rfl, hmid'⟩
  obtain rfl := mid_one HMID.out hmid' (by omega)
  have S3 := Lib.hid (S2.out.go hb3)
  have hsl := slice_lo w3 b off L.length cap n (by omega)
  have HSA := Lib.hid (sameR_any w3 a1 (L.take n) c1 (some ⟨b, off, none⟩) (L.take n) cap S3.out.left ((cells_take (HM.out.1.below S3.out.below) n).mono S3.out.below.size) (by omega) (by omega))
  rw [hl1] at HSA
  clear hb3 hmid'
  go_wp2_with fail
  refine HSA.out.mono ?_
  rintro e w4 ⟨hb4, ⟨-, rfl⟩ | ⟨hn, -⟩⟩
  case inr => exact absurd (same_self5 _) hn
  have S4 := Lib.hid (S3.out.go hb4)
  have hsh := slice_hi w4 b off L.length cap n (by omega) hle
  have HSB := Lib.hid (sameR_any w4 a2 (L.drop n) c2 (some ⟨b, off + n * 5, none⟩) (L.drop n) (cap - n) S4.out.right (cells_drop (Nat.lt_of_lt_of_le HM.out.2.2.2.1 S4.out.below.size) (fun j hj => (HM.out.2.2.2.2 j hj).below S4.out.below HM.out.2.2.2.1) n) (by omega) (by omega))
  rw [hl2] at HSB
  clear hb4 hsl
  go_wp2_with fail
  refine HSB.out.mono ?_
  rintro e w5 ⟨hb5, ⟨-, rfl⟩ | ⟨hn, -⟩⟩
  case inr => exact absurd (same_self5 _) hn
  have S5 := Lib.hid (S4.out.go hb5)
  clear hb5 hsh
  rcases HONE.out with ho | ho
  · go_wp2_with fail
    refine (known_any _).mono ?_
    rintro e w' ⟨rfl, hb⟩
    go_wp2
    go_ret
    exact ⟨rfl, go_on S5.out.below hb⟩
  · have ho2 : ¬ one < 0 := by omega
    have ho3 : decide ((L.length : Int) ≤ one) = true := decide_eq_true ho
    go_wp2_with fail
    refine (known_any _).mono ?_
    rintro e w' ⟨rfl, hb⟩
    go_wp2
    go_ret
    exact ⟨rfl, go_on S5.out.below hb⟩
set_option maxRecDepth 100000 in
set_option maxHeartbeats 1000000 in
theorem halves_in (k : Int) (L : List Cv) (hw : (Lit.int .i64 k).wf = true) (hr : RightC k L) (h2 : 2 ≤ L.length) (a : Option Addr) (cap : Nat) (one : Int) (m : Nat) (hone : one = m ∧ m < L.length) (hle : L.length ≤ cap) (W : World) (hm : CellsAt W.heap.size W a L) (hs : Sized L) (hf : Calls Try.prog 10 #[.slice a L.length cap] W fun e w' => FewPost W L e w') : Halves k L a cap one W := by
  obtain ⟨b, off, rfl, hbs, hcs⟩ := hm (by rintro rfl; simp at h2)
  have HF := Lib.hid hf
  have HM := Lib.hid (And.intro hm (And.intro hs (And.intro hr (And.intro hbs hcs))))
  have hd : ¬ (L.length : Int) < 2 := by omega
  clear hf hm hs hr hbs hcs
  unfold Halves
  go_enter Try.func6, Try.ntmps6
  go_wp2_with fail
  refine HF.out.mono ?_
  rintro e w ⟨bf, rfl, rfl, hfew⟩
  cases bf
  · clear hfew HF hone
    go_wp2_with fail
    refine (known_any _).mono ?_
    rintro e w' ⟨rfl, hb⟩
    go_wp2
    go_ret
    exact ⟨rfl, hb⟩
  have h60 := (hfew rfl).1
  have HONE := Lib.hid hone
  clear hfew HF hone
  go_wp2_with fail
  refine (halve_any k hw _ _ L cap hle (by omega) HM.out.1).mono ?_
  rintro e w1 ⟨hb1, ⟨-, n, least, v1, v2, hmid, rfl, hO1, hO2⟩ | ⟨hn, -⟩⟩
  case inr => exact absurd ⟨HM.out.2.2.1, h2⟩ hn
  obtain ⟨hn1, hn2, -⟩ := hmid.2 (by omega)
  obtain ⟨a1, c1, rfl, hc1, hm1, -, hA1, -⟩ := hO1.form
  obtain ⟨a2, c2, rfl, hc2, hm2, -, hA2, -⟩ := hO2.form
  have hl1 : (L.take n).length = n := by rw [List.length_take]; omega
  have hl2 : (L.drop n).length = L.length - n := List.length_drop
  rw [hl1] at hc1 ⊢
  rw [hl2] at hc2 ⊢
  have HMID := Lib.hid hmid
  have S1 := Lib.hid (show HalfSt k L W n a1 a2 w1 from ⟨hb1, hA1, hA2⟩)
  clear hb1 hO1 hO2 hA1 hA2 hmid
  go_wp2_with fail
  refine (right_any k _ _ L cap (by omega) ((HM.out.1.below S1.out.below).mono S1.out.below.size) HM.out.2.1).mono ?_
  rintro e w2 ⟨hb2, ⟨-, rfl⟩ | ⟨hn, -⟩⟩
  case inr => exact absurd HM.out.2.2.1 hn
  have S2 := Lib.hid (S1.out.go hb2)
  clear hb2
  go_wp2_with fail
  refine (half5_any k L HM.out.2.2.1 h2 (by omega) _ cap hle _ ((HM.out.1.below S2.out.below).mono S2.out.below.size)).mono ?_
  rintro e w3 ⟨hb3, n', rfl, hmid'⟩
  obtain rfl := mid_one HMID.out hmid' (by omega)
  have S3 := Lib.hid (S2.out.go hb3)
  have hsl := slice_lo w3 b off L.length cap n (by omega)
  have HSA := Lib.hid (sameR_any w3 a1 (L.take n) c1 (some ⟨b, off, none⟩) (L.take n) cap S3.out.left ((cells_take (HM.out.1.below S3.out.below) n).mono S3.out.below.size) (by omega) (by omega))
  rw [hl1] at HSA
  clear hb3 hmid'
  go_wp2_with fail
  refine HSA.out.mono ?_
  rintro e w4 ⟨hb4, ⟨-, rfl⟩ | ⟨hn, -⟩⟩
  case inr => exact absurd (same_self5 _) hn
  have S4 := Lib.hid (S3.out.go hb4)
  have hsh := slice_hi w4 b off L.length cap n (by omega) hle
  have HSB := Lib.hid (sameR_any w4 a2 (L.drop n) c2 (some ⟨b, off + n * 5, none⟩) (L.drop n) (cap - n) S4.out.right (cells_drop (Nat.lt_of_lt_of_le HM.out.2.2.2.1 S4.out.below.size) (fun j hj => (HM.out.2.2.2.2 j hj).below S4.out.below HM.out.2.2.2.1) n) (by omega) (by omega))
  rw [hl2] at HSB
  clear hb4 hsl
  go_wp2_with fail
  refine HSB.out.mono ?_
  rintro e w5 ⟨hb5, ⟨-, rfl⟩ | ⟨hn, -⟩⟩
  case inr => exact absurd (same_self5 _) hn
  have S5 := Lib.hid (S4.out.go hb5)
  clear hb5 hsh
  obtain ⟨ho, hml⟩ := HONE.out
  subst ho
  have hg1 : ¬ (m : Int) < 0 := by omega
  have hg2 : decide ((L.length : Int) ≤ (m : Int)) = false := decide_eq_false (by omega)
  have hBW := S5.out.below
  have hcw : ∀ j, j < L.length → CellAt w5 b (off + j * 5) (L.getD j default) := fun j hj => (HM.out.2.2.2.2 j hj).below hBW HM.out.2.2.2.1
  have hbw : b < w5.heap.size := Nat.lt_of_lt_of_le HM.out.2.2.2.1 hBW.size
  have hWD : Below w5.heap.size w5 w5.drew := (Below.refl _ _).drew
  have hlt : (L.take m).length = m := by rw [List.length_take]; omega
  have hld : (L.drop (m + 1)).length = L.length - (m + 1) := List.length_drop
  obtain ⟨v3, w3s, hr3, ho3, hgr3⟩ := run_append_cells w5.drew w5.heap.size 23 (.slice none 0 0) [] (OwnC.nil _ _) b off cap (L.take m) (fun j hj => by rw [take_at L m j hj]; exact (hcw j (by rw [hlt] at hj; omega)).below hWD hbw) (by rw [hlt]; simp; omega) (Nat.le_refl _)
  have hB3 : Below w5.heap.size w5 w3s := hWD.grown hgr3 hWD.size (fun q e => by cases e)
  obtain ⟨b', off', hbo, hsx⟩ := slice_hi2 L.length b off cap (m + 1) hml hle
  obtain ⟨v8, w8s, hr8, ho8, hgr8⟩ := run_append_cells w3s w5.heap.size 23 v3 ([] ++ L.take m) ho3 b' off' (cap - (m + 1)) (L.drop (m + 1)) (fun j hj => by
    rw [hld] at hj
    obtain ⟨rfl, rfl⟩ := hbo (by omega)
    rw [drop_at, show off + (m + 1) * 5 + j * 5 = off + (m + 1 + j) * 5 by omega]
    exact (hcw (m + 1 + j) (by omega)).below hB3 hbw) (by rw [hld, List.nil_append, hlt]; omega) hB3.size
  have hB8 : Below w5.heap.size w5 w8s := hB3.grown hgr8 hB3.size (fun q e => ho3.block q e)
  rw [List.nil_append] at ho8
  rw [hlt] at hr3
  rw [hld] at hr8
  have HRG := Lib.hid (And.intro hr3 (And.intro hr8 (And.intro ho8 (And.intro hB8 hsx))))
  have SX := Lib.hid (S5.out.go hB8)
  clear hr3 hr8 ho8 hB8 hsx hB3 hgr3 hgr8 ho3 hbo hcw hBW hWD HONE hlt hld
  go_wp2_with fail
  refine wp_region_m (WoI w5.drew w3s w8s) (WoV (.slice (some ⟨b, off, none⟩) L.length cap) b off m cap b' off' (L.length - (m + 1)) (cap - (m + 1)) v3 v8) (by kernel_rfl) (by kernel_rfl) (by kernel_rfl) (by kernel_rfl) (by unfold WoI; simp) ?stepW ?finW
  case stepW =>
      intro i0 o ho listed a' w' hI hn' hpre
      have hi0 : i0 < 10 := (Array.getElem?_eq_some_iff.1 ho).1
      have hB := hI.inv
      have hsz : listed.size = 10 := hI.size
      match i0, hi0 with
      | 0, _ =>
        cases ho
        exact wpOp_move rfl rfl (.inl rfl) (hI.kept (t := 1) (by kernel_rfl)) ⟨_, rfl, hB.still (by decide) (by decide), fun _ => rfl, fun _ _ _ h => h⟩
      | 1, _ =>
        cases ho
        exact wpOp_move rfl rfl (.inl rfl) (hI.kept (t := 2) (by kernel_rfl)) ⟨_, rfl, hB.still (by decide) (by decide), fun _ => rfl, fun _ _ _ h => h⟩
      | 2, _ =>
        cases ho
        exact wpOp_slice rfl rfl rfl (hI.slot 0 79 rfl (hpre ⟨0, .data⟩ (by simp) rfl) rfl) rfl (congrArg some (hI.slot 1 80 rfl (hpre ⟨1, .data⟩ (by simp) rfl) rfl)) rfl (slice_lo w' b off L.length cap m (by omega)) ⟨_, rfl, hB.still (by decide) (by decide), fun _ => rfl, fun _ _ _ h => h⟩
      | 3, _ =>
        cases ho
        have h8 : listed.getD 8 false = false := by
          cases h : listed.getD 8 false
          · rfl
          · have := hI.closed 8 _ rfl h ⟨3, .data⟩ (by simp) rfl
            rw [hn'] at this; cases this
        obtain rfl : w' = w5.drew := hB.at0 h8 hn'
        exact wpOp_append rfl rfl rfl rfl (hI.slot 2 81 rfl (hpre ⟨2, .data⟩ (by simp) rfl) rfl) HRG.out.1 ⟨_, rfl, WoI.to3 h8 (by omega), fun _ => rfl, fun j u _ h => WoV.any j u h⟩
      | 4, _ =>
        cases ho
        exact wpOp_move rfl rfl (.inl rfl) (hI.kept (t := 1) (by kernel_rfl)) ⟨_, rfl, hB.still (by decide) (by decide), fun _ => rfl, fun _ _ _ h => h⟩
      | 5, _ =>
        cases ho
        exact wpOp_move rfl rfl (.inl rfl) (hI.kept (t := 2) (by kernel_rfl)) ⟨_, rfl, hB.still (by decide) (by decide), fun _ => rfl, fun _ _ _ h => h⟩
      | 6, _ =>
        cases ho
        have e0 : a'.eval (.tmp 84) = .int .i64 m := hI.slot 5 84 rfl (hpre ⟨5, .data⟩ (by simp) rfl) rfl
        exact wpOp_add1 rfl rfl rfl e0 rfl (by omega) ⟨_, rfl, hB.still (by decide) (by decide), fun _ => rfl, fun _ _ _ h => h⟩
      | 7, _ =>
        cases ho
        exact wpOp_slice rfl rfl rfl (hI.slot 4 83 rfl (hpre ⟨4, .data⟩ (by simp) rfl) rfl) (congrArg some (hI.slot 6 85 rfl (hpre ⟨6, .data⟩ (by simp) rfl) rfl)) rfl rfl (HRG.out.2.2.2.2 w') ⟨_, rfl, hB.still (by decide) (by decide), fun _ => rfl, fun _ _ _ h => h⟩
      | 8, _ =>
        cases ho
        have h3 := hpre ⟨3, .data⟩ (by simp) rfl
        obtain rfl : w' = w3s := hB.at3 hn' h3
        exact wpOp_append rfl rfl rfl (hI.slot 3 82 rfl h3 rfl) (hI.slot 7 86 rfl (hpre ⟨7, .data⟩ (by simp) rfl) rfl) HRG.out.2.1 ⟨_, rfl, WoI.to8 (by omega), fun _ => rfl, fun j u _ h => WoV.any j u h⟩
      | 9, _ =>
        cases ho
        exact wpOp_move rfl rfl (.inr rfl) (hI.slot 8 87 rfl (hpre ⟨8, .data⟩ (by simp) rfl) rfl) ⟨_, rfl, hB.still (by decide) (by decide), fun _ => rfl, fun _ _ _ h => h⟩
  case finW =>
    intro listed a' w' hI hall
    obtain rfl : w' = w8s := hI.inv.at8 (hall 8 (by decide))
    have s9 : a'.tmps.getD 11 undef = v8 := hI.slot 9 11 rfl (hall 9 (by decide)) rfl
    obtain ⟨vs', us, hvl', hul, hvs, -, e⟩ := hI.frame2 11 1 79 9 (by decide) (Nat.le_of_ble_eq_true (by kernel_rfl)) (by kernel_rfl)
    have v0 := hvs 0 (by decide)
    match vs', us, hvl', hul with
    | [p0], [x0, x1, x2, x3, x4, x5, x6, x7, x8], _, _ =>
    simp only [List.getElem?_cons_zero, Option.some.injEq, Nat.add_zero] at v0
    rw [s9] at v0
    clear hI hall hvs s9
    subst v0
    simp only [List.take_succ_cons, List.take_zero, List.drop_succ_cons, List.drop_zero, List.cons_append, List.nil_append, Nat.reduceAdd, Nat.reduceSub] at e
    subst e
    obtain ⟨a8, c8, rfl, hc8, hm8, -, hA8, -⟩ := HRG.out.2.2.1.form
    have hrw := right_without HM.out.2.2.1 m hml h2
    have hbo : bytesOf (k == 2) (L.take m ++ L.drop (m + 1)) = (bytesOf (k == 2) L).take m ++ (bytesOf (k == 2) L).drop (m + 1) := by simp [bytesOf, List.map_take, List.map_drop]
    have HBF := Lib.hid (show 2 + takenN (bytesOf (k == 2) (L.take m ++ L.drop (m + 1))) ≤ 232 → 2 + takenN (bytesOf (k == 2) (L.take n)) ≤ 232 ∧ 2 + takenN (bytesOf (k == 2) (L.drop n)) ≤ 232 from fun h => by
      have := both_fit (cells_le HM.out.2.2.1) (by rw [bytesOf_len]; exact h2) (i := m) (by rw [bytesOf_len]; exact hml) (by rw [← hbo]; exact h) (by rw [bytesOf_len]; exact HMID.out)
      rw [bytesOf_take, bytesOf_drop]; exact this)
    have hRl : (L.take m ++ L.drop (m + 1)).length ≤ 60 := by rw [List.length_append, List.length_take, List.length_drop]; omega
    have htk := takenN_le (bytesOf (k == 2) (L.take m ++ L.drop (m + 1))) (bytesOf_le _ _)
    rw [bytesOf_len] at htk
    have HALL := Lib.hid (all5_any k (L.take m ++ L.drop (m + 1)) hrw (by omega) a8 c8 w' hA8)
    clear HRG hA8 hrw hbo
    obtain ⟨R, hR⟩ : ∃ R, L.take m ++ L.drop (m + 1) = R := ⟨_, rfl⟩
    rw [hR] at HBF hRl htk HALL hc8 ⊢
    clear hR
    go_wp2_with fail
    refine HALL.out.mono ?_
    rintro e w9 ⟨v9, rfl, hO9, hb9⟩
    obtain ⟨a9, c9, rfl, -⟩ := hO9.form
    rw [rawB_len]
    obtain ⟨q, hq⟩ : ∃ q, 2 + takenN (bytesOf (k == 2) R) = q := ⟨_, rfl⟩
    rw [hq] at HBF ⊢
    have hqb : q ≤ 100000 := by omega
    have S9 := Lib.hid (SX.out.go hb9)
    clear hb9 hO9 HALL htk hq
    by_cases hf : 232 < q
    · have hfd : (232 : Int) < (q : Int) := by omega
      go_wp2_with fail
      refine (known_any _).mono ?_
      rintro e w' ⟨rfl, hb⟩
      go_wp2
      go_ret
      exact ⟨rfl, go_on S9.out.below hb⟩
    · have hfd : ¬ (232 : Int) < (q : Int) := by omega
      obtain ⟨hfl, hfr⟩ := HBF.out (by omega)
      have HFL := Lib.hid (And.intro hfl hfr)
      have HRA := Lib.hid (rawC_any k hw w9 a1 (L.take n) c1 (by omega) S9.out.left)
      rw [hl1] at HRA
      clear hfl hfr
      go_wp2_with fail
      refine HRA.out.mono ?_
      rintro e w10 ⟨hb10, ⟨hn, -⟩ | ⟨-, hn, -⟩ | ⟨-, -, v10, rfl, -⟩⟩
      case inl => exact absurd (right_take HM.out.2.2.1 n hn1 (by omega)) hn
      case inr.inl => exact absurd hn (by have := HFL.out.1; omega)
      have S10 := Lib.hid (S9.out.go hb10)
      have HRB := Lib.hid (rawC_any k hw w10 a2 (L.drop n) c2 (by omega) S10.out.right)
      rw [hl2] at HRB
      clear hb10
      go_wp2_with fail
      refine HRB.out.mono ?_
      rintro e w11 ⟨hb11, ⟨hn, -⟩ | ⟨-, hn, -⟩ | ⟨-, -, v11, rfl, -⟩⟩
      case inl => exact absurd (right_drop HM.out.2.2.1 n (by omega)) hn
      case inr.inl => exact absurd hn (by have := HFL.out.2; omega)
      have S11 := Lib.hid (S10.out.go hb11)
      clear hb11
      go_wp2_with fail
      refine (known_any _).mono ?_
      rintro e w' ⟨rfl, hb⟩
      go_wp2
      go_ret
      exact ⟨rfl, go_on S11.out.below hb⟩
theorem slotsHalves_any (k : Int) (hw : (Lit.int .i64 k).wf = true) (a : Option Addr) (L : List Cv) (cap : Nat) (one : Int) (hle : L.length ≤ cap) (hcm : cap ≤ maxLen) (W : World) (hm : CellsAt W.heap.size W a L) (hs : Sized L) : Halves k L a cap one W := by
  have hcm2 : cap ≤ 9223372036854775807 := by unfold maxLen at hcm; omega
  have hf := few_any a L cap (by omega) W hm hs
  by_cases hr : RightC k L
  case neg => exact halves_no k L hw hr a cap one hle W hm hs hf
  by_cases h2 : 2 ≤ L.length
  case neg => exact halves_one k L hw hr h2 a cap one hle W hm hs hf
  by_cases ho : one < 0 ∨ (L.length : Int) ≤ one
  · exact halves_out k L hw hr h2 a cap one ho hle W hm hs hf
  · obtain ⟨m, rfl⟩ : ∃ m : Nat, one = m := ⟨one.toNat, by omega⟩
    exact halves_in k L hw hr h2 a cap _ m ⟨rfl, by omega⟩ hle W hm hs hf
end Go.Proofs.Ytaclbloconlhnaa
