/- Layer 12: the document's runes of a text; are two lists the same; are runes plain. -/
import Derived.Deep.QuietTactic
import Derived.Test.YtgcfgheamaoceaaGreatDoorUtfR
import Derived.Test.YtgcfgheamaoceaaGreatDoorUtfK
namespace Go.Proofs.YtgcfgheamaoceaaGreatDoor
open Go.RowKit

theorem dec_take {l : List UInt8} {m r n : Nat} : dec (l.take m) = some (r, n) ↔ dec l = some (r, n) ∧ n ≤ m := by
  rw [dec_iff, dec_iff]
  constructor
  · rintro ⟨h0, hm, hp, rfl⟩
    refine ⟨⟨h0, hm, hp.trans (List.take_prefix _ _), rfl⟩, ?_⟩
    have := hp.length_le
    rw [rawR_length, List.length_take] at this
    omega
  · rintro ⟨⟨h0, hm, hp, rfl⟩, hn⟩
    refine ⟨h0, hm, ?_, rfl⟩
    rw [List.prefix_take_iff, rawR_length]
    exact ⟨hp, hn⟩
theorem Rd.yes {s : ByteArray} {rs : List Nat} (h : Rd s rs) {k : Nat} (hk : k < rs.length) : dec (s.data.toList.drop (textR (rs.take k)).length) = some (rs[k], lenB rs[k] + 1) ∧ (textR (rs.take k)).length + (lenB rs[k] + 1) ≤ 65535 := by
  have h1 := h.dec_at hk
  rw [List.drop_take] at h1
  obtain ⟨h2, h3⟩ := dec_take.1 h1
  have := textR_take_le rs k
  have := h.le
  exact ⟨h2, by omega⟩
theorem Rd.no {s : ByteArray} {rs : List Nat} (h : Rd s rs) {r n : Nat} (hd : dec (s.data.toList.drop (textR rs).length) = some (r, n)) : 65535 < (textR rs).length + n := by
  have h1 := h.dec_end
  rw [List.drop_take] at h1
  rcases Nat.lt_or_ge 65535 ((textR rs).length + n) with h2 | h2
  · exact h2
  · have := h.le
    rw [dec_take.2 ⟨hd, by omega⟩] at h1
    cases h1
theorem RFirstPost_of {w : World} {l : List UInt8} {r n : Nat} (h : dec l = some (r, n)) : (fun e w' => RFirstPost w l e w') = fun e w' => e = .returned (.tuple #[.int .i32 r, .int .i64 n]) ∧ Below w.heap.size w w' := by
  funext e w'; simp [RFirstPost, refR, refN, h]
theorem RFirstPost_no {w : World} {l : List UInt8} (h : dec l = none) : (fun e w' => RFirstPost w l e w') = fun e w' => e = .returned (.tuple #[.int .i32 0, .int .i64 0]) ∧ Below w.heap.size w w' := by
  funext e w'; simp [RFirstPost, refR, refN, h]
theorem rune_below {a w w' : World} {B n : Nat} {v : Value} {xs : List Value} {o : Obj} (hb : Below B a w) (hB : B ≤ w.heap.size) (hr : w.ownsRow B 21 1 v n xs) (hg : (w.alloc o).grownBy w' v.ownBlock) : Below B a w' :=
  (hb.alloc hB o).grown hg (by simp; omega) (fun k hk => by
    rcases hr.2 with ⟨rfl, _⟩ | ⟨g, cap, cur, rfl, h, _⟩
    · cases hk
    · cases hk; exact h)
/-- What the document's Runes leaves. -/
def RRunesPost (w : World) (s : List UInt8) (rs : List Nat) (e : Ending) (w' : World) : Prop :=
  (¬ (textR rs).length < s.length ∧ ∃ v, e = .returned (.tuple #[v, .int .i64 (-1)]) ∧ OwnR w' w.heap.size v (rs.map fun (n : Nat) => (n : Int)) ∧ Below w.heap.size w w') ∨
  ((textR rs).length < s.length ∧ e = .returned (.tuple #[.slice none 0 0, .int .i64 ((textR rs).length : Nat)]) ∧ Below w.heap.size w w')
def intsOf (rs : List Nat) : List Value := runeVals (rs.map fun (n : Nat) => (n : Int))
theorem intsOf_snoc (rs : List Nat) (r : Nat) : intsOf (rs ++ [r]) = intsOf rs ++ [.int .i32 r] := by simp [intsOf, runeVals]
set_option maxRecDepth 100000 in
set_option maxHeartbeats 4000000 in
theorem refRunes_any (s : ByteArray) (rs : List Nat) (hrd : Rd s rs) (hs : s.size ≤ 281474976710656) (w : World) : Calls Tryz.prog 84 #[.string s] w fun e w' => RRunesPost w s.data.toList rs e w' := by
  obtain ⟨i0, hi, hz0, hz1, hz2⟩ := info_parts infoI32
  have hsm : s.size ≤ 9223372036854775807 := by omega
  have hle := hrd.le
  have hsh := hrd.short
  have HRD := Lib.hid hrd
  have HLE := Lib.hid hle
  clear hrd hle
  go_enter Tryz.func84, Tryz.ntmps84
  go_wp2
  obtain ⟨B, hB⟩ : ∃ B, w.heap.size = B := ⟨_, rfl⟩
  have HBe := Lib.hid hB
  clear hB
  go_loopw [4, 5, 6, 7, 8, 9, 10, 11, 12, 13, 14, 15, 16, 17, 18, 19, 20, 21, 22, 23, 24, 25, 26, 27, 28, 29, 30, 31, 32, 33, 34] (fun u x _ _ _ _ _ _ _ _ _ _ _ _ _ _ _ _ _ _ _ _ _ _ _ _ _ _ _ _ _ wr => ∃ k : Nat, x = .int .i64 ((textR (rs.take k)).length : Nat) ∧ k ≤ rs.length ∧ wr.ownsRow B 21 1 u k (intsOf (rs.take k)) ∧ Below B w wr)
    (fun _ x _ _ _ _ _ _ _ _ _ _ _ _ _ _ _ _ _ _ _ _ _ _ _ _ _ _ _ _ _ _ => s.size - (intOf x).toNat)
  case atStart => exact ⟨0, rfl, Nat.zero_le _, World.ownsRow_nil _ _ _ _, by rw [← HBe.out]; exact Below.refl _ _⟩
  case round =>
    obtain ⟨k, rfl, hk, hO, hb⟩ := hrel
    have hp := textR_take_le rs k
    obtain ⟨p, hpe⟩ : ∃ p, (textR (rs.take k)).length = p := ⟨_, rfl⟩
    rw [hpe] at hp
    by_cases hkl : k < rs.length
    · obtain ⟨hd, hpn⟩ := HRD.out.yes hkl
      have hts := textR_take_succ rs hkl
      have htk := List.take_succ_eq_append_getElem hkl
      have htl := textR_take_le rs (k + 1)
      generalize rs[k] = r at *
      rw [hpe] at hd hpn hts
      rw [hpe]
      have hps : p ≤ s.size := by have := HLE.out; omega
      have hhi := str_hi s p hps
      have hF := refFirst_any (s.extract p s.size) wr (by rw [ByteArray.size_extract]; omega)
      rw [RFirstPost_of (by rw [ext_tail]; exact hd)] at hF
      have HF := Lib.hid hF
      have hlt : p < s.size := by have := HLE.out; omega
      have hlt2 : p + (lenB r + 1) ≤ s.size := by have := HLE.out; omega
      obtain ⟨va, vc, rfl⟩ := row_slice hO
      have HX := Lib.hid (And.intro hO (And.intro hb (And.intro hts htk)))
      have HBs := Lib.hid (show B ≤ wr.heap.size by have := hb.size; have := HBe.out; omega)
      have hml : k + 1 ≤ maxLen := by unfold maxLen; omega
      clear hF hd hO hb hts htk hpe hp htl
      generalize lenB r = lr at *
      have g1 : ((lr : Int) + 1 == 0) = false := by simp; omega
      have g2 : decide (65535 < (p : Int) + ((lr : Int) + 1)) = false := by simp; omega
      go_wp2_with (first
        | (go_at_call 100; refine HF.out.mono ?_; rintro e w4 ⟨rfl, hb4⟩; have HR4 := Lib.hid (And.intro (HX.out.1.kept (below_grown hb4) (own_or _)) hb4); have HR5 := Lib.hid ((HX.out.1.kept (below_grown hb4) (own_or _)).alloc (.cells #[.int .i32 r] 21)); have HB4 := Lib.hid (Nat.le_trans HBs.out hb4.size); clear hb4)
        | (at_builtin; refine wpList_append_own _ rfl _ _ 120 rfl B 21 i0 (.int .i32 0) 1 4 Tryz.underlying120 hi hz0 hz1 hz2 rfl (by decide) _ _ _ rfl HR5.out ⟨w4.heap.size, 0, none⟩ 1 1 [.int .i32 r] rfl rfl (cell_one_new _ _ _) (by simp [Value.oneCell']) hml (by omega) (by have h := HB4.out; simp; omega) ?_; intro v' w5 hown' hgrow _))
      refine ⟨⟨k + 1, by rw [HX.out.2.2.1]; go_num, by omega, ?_, ?_⟩, by simp only [intOf]; omega⟩
      · rw [HX.out.2.2.2, intsOf_snoc]; exact hown'
      · exact rune_below (HX.out.2.1.trans (HR4.out.2.mono HBs.out)) HB4.out HR4.out.1 hgrow
    · obtain rfl : k = rs.length := by omega
      rw [List.take_length] at hpe hO ⊢
      rw [hpe]
      have hps : p ≤ s.size := by have := HLE.out; omega
      obtain ⟨va, vc, rfl⟩ := row_slice hO
      have HX := Lib.hid (And.intro hO hb)
      have HPE := Lib.hid hpe
      have HBs := Lib.hid (show B ≤ wr.heap.size by have := hb.size; have := HBe.out; omega)
      have HSZ := Lib.hid (Lib.size_eq s)
      have hp6 : p ≤ 65535 := by have := HLE.out; omega
      clear hO hb hpe hp
      by_cases hlt : p < s.size
      · have hhi := str_hi s p hps
        have hF := refFirst_any (s.extract p s.size) wr (by rw [ByteArray.size_extract]; omega)
        cases hd : dec (s.data.toList.drop p) with
        | none =>
          rw [RFirstPost_no (by rw [ext_tail]; exact hd)] at hF
          have HF := Lib.hid hF
          clear hF hd
          go_wp2_with (go_at_call 100; refine HF.out.mono ?_; rintro e w4 ⟨rfl, hb4⟩; have HB4 := Lib.hid hb4; clear hb4)
          go_ret2
          refine .inr ⟨by rw [HPE.out, ← HSZ.out]; exact hlt, by rw [HPE.out]; rfl, ?_⟩
          rw [HBe.out]; exact HX.out.2.trans (HB4.out.mono HBs.out)
        | some q =>
          obtain ⟨r, m⟩ := q
          have hm := HRD.out.no (by rw [HPE.out]; exact hd)
          rw [HPE.out] at hm
          have hm1 := (dec_yes hd).2.2.2
          have hm2 := lenB_le r
          rw [RFirstPost_of (by rw [ext_tail]; exact hd)] at hF
          have HF := Lib.hid hF
          have hm4 : m ≤ 4 := by omega
          have hm0 : 1 ≤ m := by omega
          clear hF hd hm1 hm2
          have g1 : ((m : Int) == 0) = false := by simp; omega
          have g2 : decide (65535 < (p : Int) + (m : Int)) = true := by simp; omega
          go_wp2_with (go_at_call 100; refine HF.out.mono ?_; rintro e w4 ⟨rfl, hb4⟩; have HB4 := Lib.hid hb4; clear hb4)
          go_ret2
          refine .inr ⟨by rw [HPE.out, ← HSZ.out]; exact hlt, by rw [HPE.out]; rfl, ?_⟩
          rw [HBe.out]; exact HX.out.2.trans (HB4.out.mono HBs.out)
      · go_wp2
        go_ret2
        refine .inl ⟨by rw [HPE.out, ← HSZ.out]; exact hlt, _, rfl, ?_, by rw [HBe.out]; exact HX.out.2⟩
        rw [HBe.out]
        have h := HX.out.1
        unfold OwnR
        rw [List.length_map]
        exact h
end Go.Proofs.YtgcfgheamaoceaaGreatDoor
