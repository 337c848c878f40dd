/- Layer 13: ContainsAny of both signs: the loop over a short text's runes, and the whole. -/
import Derived.Lib.OthersKept
import Derived.Test.YtgcfgheamaoceaaGreatDoorTopD
namespace Go.Proofs.YtgcfgheamaoceaaGreatDoor
open Go.RowKit Go.Lib

/-- None of the first i bytes is a sign. -/
def noSgn (l : List UInt8) (i : Nat) : Prop := ∀ (j : Nat) b, j < i → l[j]? = some b → sgn b = false
theorem noSgn_all {l : List UInt8} (h : noSgn l l.length) : hasS l = false := by
  unfold hasS
  rw [List.any_eq_false]
  intro b hb
  obtain ⟨j, hj, he⟩ := List.getElem_of_mem hb
  have := h j b hj (by rw [List.getElem?_eq_getElem hj, he])
  simp [this]
theorem sgn_has {l : List UInt8} {i : Nat} {b : UInt8} (h : l[i]? = some b) (hb : sgn b = true) : hasS l = true := by
  unfold hasS
  rw [List.any_eq_true]
  exact ⟨b, List.mem_of_getElem? h, hb⟩
theorem sgn_high {b : UInt8} (h : 128 ≤ b.toNat) : sgn b = false := by
  unfold sgn
  simp only [Bool.or_eq_false_iff, beq_eq_false_iff_ne, ne_eq]
  exact ⟨fun e => by subst e; simp at h, fun e => by subst e; simp at h⟩
theorem get_bang (s : ByteArray) (k : Nat) (h : k < s.size) : s.data.toList[k]? = some (s.get! k) := by
  rw [Lib.data_getElem? s k h]
  congr 1
  simp [ByteArray.get!, getElem!_pos, h]
  rfl
theorem both_at (x : UInt8) (h : x.toNat < 128) : Lib.indexByte both.data.toList x = if x = 43 then 0 else if x = 35 then 1 else -1 := by
  show Lib.indexByte [43, 35] x = _
  unfold Lib.indexByte
  by_cases h1 : x = 43
  · subst h1; rfl
  · have e1 : (43 == x) = false := by simpa using fun e => h1 (Eq.symm e)
    rw [e1, if_neg h1]
    unfold Lib.indexByte
    by_cases h2 : x = 35
    · subst h2; rfl
    · have e2 : (35 == x) = false := by simpa using fun e => h2 (Eq.symm e)
      rw [e2, if_neg h2]; rfl
theorem indexAny_sgn (l : List UInt8) : decide (0 ≤ Lib.indexAny l [43, 35]) = hasS l := by
  induction l with
  | nil => rfl
  | cons b l ih =>
    have hge := Lib.indexAny_ge [43, 35] l
    unfold Lib.indexAny
    have hc : ([43, 35] : List UInt8).contains b = sgn b := by
      rw [Bool.eq_iff_iff]; simp [sgn]
    rw [hc]
    unfold hasS at ih ⊢
    rw [List.any_cons, ← ih]
    cases sgn b with
    | true => rfl
    | false =>
      simp only [Bool.false_or, Bool.false_eq_true, if_false]
      by_cases hm : Lib.indexAny l [43, 35] = -1
      · rw [hm]; rfl
      · have : (Lib.indexAny l [43, 35] == -1) = false := by simpa using hm
        rw [this]
        simp only [Bool.false_eq_true, if_false]
        rw [Bool.eq_iff_iff]; simp only [decide_eq_true_eq]; omega
/-- What the loop tells: whether there is a sign. -/
def SgnPost (w : World) (l : List UInt8) (e : Ending) (w' : World) : Prop := (∃ z : Int, e = .returned (.int .i64 z) ∧ decide (0 ≤ z) = hasS l) ∧ Below w.heap.size w w'
set_option maxHeartbeats 8000000 in
set_option maxRecDepth 100000 in
theorem iany_short (s : ByteArray) (h8 : s.size ≤ 8) (w : World) : Calls Tryz.prog 114 #[.string s, .string both] w fun e w' => SgnPost w s.data.toList e w' := by
  have hbs : both.size = 2 := rfl
  have hemp : both.toList.isEmpty = false := by rw [ByteArray.toList_eq]; rfl
  have h8z : decide ((8 : Int) < (s.size : Int)) = false := decide_eq_false (by omega)
  have HS := Lib.hid (fun W => strings_shouldUseASCIISet (s.size : Int) W)
  go_enter Tryz.func114, Tryz.ntmps114
  go_wp2_with (go_at_call 137; refine (HS.out _).mono ?_; rintro e w' ⟨rfl, hw⟩; rw [hw, h8z])
  clear hw HS h8z
  obtain ⟨k, hk⟩ : ∃ k, w.heap.size = k := ⟨_, rfl⟩
  obtain ⟨w0, hw0⟩ : ∃ w0, w.iter s 0 = w0 := ⟨_, rfl⟩
  have hit := World.iter_heap w s 0
  have hbl : Below w.heap.size w (w.iter s 0) := (Below.refl _ w).alloc (Nat.le_refl _) _
  have HSP : Hid ((fun e w' => SgnPost w s.data.toList e w') = fun e w' => (∃ z : Int, e = .returned (.int .i64 z) ∧ decide (0 ≤ z) = hasS s.data.toList) ∧ Below k w w') := Lib.hid (by rw [← hk]; rfl)
  rw [hk, hw0] at hit hbl
  rw [hk, hw0]
  have HK := Lib.hid hk
  have HW0 := Lib.hid (And.intro hit hbl)
  clear hk hw0 hit hbl
  go_loopg [9, 10] s.size (fun g _ _ wx => ∃ i : Nat, i ≤ s.size ∧ s.size - i ≤ g ∧ (wx.heap[k]? = some (.stringIter s i) ∧ Below k w wx) ∧ noSgn s.data.toList i)
  case atStart => exact ⟨0, by omega, by omega, HW0.out, fun _ _ h => absurd h (Nat.not_lt_zero _)⟩
  case round =>
    obtain ⟨i, hi, hig, ⟨hit, hbl⟩, hno⟩ := hrel
    have HN := Lib.hid (And.intro hno hbl)
    have hks : k < wr.heap.size := (Array.getElem?_eq_some_iff.1 hit).1
    clear hno hbl
    by_cases hlt : i < s.size
    · obtain ⟨x, hx⟩ : ∃ x : UInt8, s[i]'hlt = x := ⟨_, rfl⟩
      have hxl : s.data.toList[i]? = some x := by rw [← hx]; exact Lib.data_getElem? s i hlt
      rcases Nat.lt_or_ge x.toNat 128 with h128 | h128
      · have hnx := fun ty => run_next_ascii_at (P := Tryz.prog) wr k s i ty hit hlt (by rw [hx]; exact h128)
        rw [hx] at hnx
        have hit2 := iterAt_heap wr k s i (i + 1) hit
        have hbl2 := Lib.hid (below_iterAt HN.out.2 (Nat.le_refl k) s (i + 1))
        generalize wr.iterAt k s (i + 1) = wy at *
        have HR : Hid (∀ W, Calls Tryz.prog 136 #[.string both, .int .i32 (x.toNat : Int)] W fun e w' => e = .returned (.int .i64 (if x = 43 then 0 else if x = 35 then 1 else -1)) ∧ W = w') := Lib.hid (fun W => (strings_IndexRune_ascii both (x.toNat : Int) W (by omega) (by omega)).mono fun e w' h => ⟨by rw [h.1]; rw [show ((x.toNat : Int)).toNat.toUInt8 = x by simp, both_at x h128], h.2.symm⟩)
        have HI2 := Lib.hid hit2
        clear hit hit2 hx
        cases hsg : sgn x with
        | true =>
          have hor : x = 43 ∨ x = 35 := by simpa [sgn] using hsg
          have hhas := Lib.hid (sgn_has hxl hsg)
          have hz : ∃ z : Int, (if x = 43 then (0 : Int) else if x = 35 then 1 else -1) = z ∧ 0 ≤ z := by
            rcases hor with rfl | rfl
            · exact ⟨0, by simp, by omega⟩
            · exact ⟨1, by simp, by omega⟩
          obtain ⟨z, hz, hz0⟩ := hz
          rw [hz] at HR
          clear hsg hor hz hxl h128
          go_wp2_with (go_at_call 136; refine (HR.out _).mono ?_; rintro e w' ⟨rfl, rfl⟩)
          go_ret
          refine ⟨⟨_, rfl, ?_⟩, by rw [HK.out]; exact hbl2.out⟩
          rw [hhas.out]; simp
        | false =>
          have hor : x ≠ 43 ∧ x ≠ 35 := by simpa [sgn] using hsg
          rw [if_neg hor.1, if_neg hor.2] at HR
          have HNN := Lib.hid (show noSgn s.data.toList (i + 1) from fun j b hj hb => by
            by_cases e : j = i
            · subst e; rw [hxl] at hb; cases hb; exact hsg
            · exact HN.out.1 j b (by omega) hb)
          clear hsg hor hxl h128
          go_wp2_with (go_at_call 136; refine (HR.out _).mono ?_; rintro e w' ⟨rfl, rfl⟩)
          cases gk with
          | zero => omega
          | succ g =>
            go_roundg g
            case measure => omega
            case rel => exact ⟨i + 1, by omega, by omega, ⟨HI2.out, hbl2.out⟩, HNN.out⟩
      · have hx' : 128 ≤ (s[i]'hlt).toNat := by rw [hx]; exact h128
        obtain ⟨d1, d2⟩ := decode_high s i hlt hx'
        have hsk := decode_skip s i hlt hx'
        have hnx := fun ty => run_next_any_at (P := Tryz.prog) wr k s i ty hit hlt
        have hle := decode_le s i
        obtain ⟨r, hr⟩ : ∃ r, (Utf8.decode s i).1 = r := ⟨_, rfl⟩
        obtain ⟨n, hn⟩ : ∃ n, (Utf8.decode s i).2 = n := ⟨_, rfl⟩
        rw [hr] at d1 hnx hle
        rw [hn] at d2 hsk hnx
        have hit2 := iterAt_heap wr k s i (i + n) hit
        have hbl2 := below_iterAt HN.out.2 (Nat.le_refl k) s (i + n)
        have hks2 := iterAt_size wr k s (i + n)
        generalize wr.iterAt k s (i + n) = wy at *
        have HR : Hid (∀ W, Calls Tryz.prog 136 #[.string both, .int .i32 (r : Int)] W fun e w' => NoPost W e w') := Lib.hid (fun W => irune_high (r : Int) (by omega) W)
        have HNN := Lib.hid (show noSgn s.data.toList (i + n) ∧ i + n ≤ s.size from by
          have hsz : i + n ≤ s.size := by
            rcases Nat.lt_or_ge 1 n with h | h
            · have := (hsk (n - 1) (by omega) (by omega)).1; omega
            · omega
          refine ⟨fun j b hj hb => ?_, hsz⟩
          rcases Nat.lt_or_ge j i with h | h
          · exact HN.out.1 j b h hb
          · by_cases e : j = i
            · subst e; rw [hxl] at hb; cases hb; exact sgn_high h128
            · have h3 := hsk (j - i) (by omega) (by omega)
              rw [show i + (j - i) = j by omega] at h3
              rw [get_bang s j h3.1] at hb
              cases hb
              exact sgn_high h3.2)
        have HI2 := Lib.hid (And.intro hit2 (And.intro hbl2 (show k < wy.heap.size by omega)))
        clear hit hit2 hx hx' hsk hbl2 hks2 hxl h128 hr hn
        go_wp2_with (go_at_call 136; refine (HR.out _).mono ?_; rintro e w5 ⟨rfl, hb5⟩; have HB5 := Lib.hid hb5; clear hb5)
        cases gk with
        | zero => omega
        | succ g =>
          have hns := HNN.out.2
          go_roundg g
          case measure => omega
          case rel => exact ⟨i + n, hns, by omega, ⟨(HB5.out.block k HI2.out.2.2).trans HI2.out.1, HI2.out.2.1.trans (HB5.out.mono (Nat.le_of_lt HI2.out.2.2))⟩, HNN.out.1⟩
    · obtain rfl : i = s.size := by omega
      have hnx := fun ty => run_next_end_at (P := Tryz.prog) wr k s s.size ty hit hlt
      clear hit
      go_wp2
      go_ret
      refine ⟨⟨_, rfl, ?_⟩, by rw [HK.out]; exact HN.out.2⟩
      rw [noSgn_all (by rw [← Lib.size_eq]; exact HN.out.1)]; rfl
end Go.Proofs.YtgcfgheamaoceaaGreatDoor
