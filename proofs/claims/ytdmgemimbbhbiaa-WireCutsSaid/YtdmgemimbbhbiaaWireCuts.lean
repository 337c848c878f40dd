/- Layer 3: the law on bytes that are cut short. -/
import Derived.Test.YtdmgemimbbhbiaaWireCutsP
namespace Go.Proofs.Ytdmgemimbbhbiaa
open Go.RowKit

/-- What holds at the head of the first loop. -/
structure Cut1 (w : World) (L : List ByteArray) (k : Nat) (v : Value) (wr : World) : Prop where
  le : k ≤ L.length
  le20 : k ≤ 20
  each : ∀ j, j < k → (L.getD j ByteArray.empty).size ≤ 3000
  sum : tot (L.take k) ≤ 6000
  wri : IsWr w.heap.size wr w.heap.size v (textsB (L.take k))
  bel : Below w.heap.size w wr

set_option maxRecDepth 100000 in
set_option maxHeartbeats 8000000 in
theorem wireCuts_any (a : Option Addr) (L : List ByteArray) (cap : Nat) (left : Int) (hL : L.length ≤ 9223372036854775807) (hsz : ∀ s ∈ L, s.size ≤ maxLen) (w : World) (hm : StrsAt w.heap.size w a L) :
    Calls Try.prog 13 #[.slice a L.length cap, .int .i64 left] w fun e w' => e = .returned (.bool true) ∧ Below w.heap.size w w' := by
  have HK := Lib.hid wknown_any
  have HM := Lib.hid hm
  have HZ := Lib.hid hsz
  clear hm hsz
  go_enter Try.func13, Try.ntmps13
  go_wp2_with (go_at_call 36; refine (newWriter_any _).mono ?_; rintro e w1 ⟨rfl, hW1, hb1⟩)
  go_loopw [4, 6, 7, 15, 16, 17, 18, 19, 20, 21, 22, 23, 24, 25, 26, 27, 28, 29, 30, 31, 32, 33, 34, 35, 36, 37, 38, 39, 40, 41, 42, 43, 44, 45, 46, 47, 48, 49] (fun _ n y _ _ _ _ _ _ _ _ _ _ _ _ _ _ _ _ _ _ _ _ _ _ _ _ _ _ _ _ _ _ _ _ _ _ _ wr => ∃ (k : Nat) (v : Value), y = .int .i64 k ∧ n = .int .i64 (tot (L.take k) : Nat) ∧ Cut1 w L k v wr)
    (fun _ _ y _ _ _ _ _ _ _ _ _ _ _ _ _ _ _ _ _ _ _ _ _ _ _ _ _ _ _ _ _ _ _ _ _ _ _ _ => L.length - (intOf y).toNat)
  case atStart => exact ⟨0, _, rfl, rfl, Nat.zero_le _, by omega, fun j hj => by omega, by simp [tot], hW1, hb1⟩
  case round =>
    obtain ⟨k, v, rfl, rfl, hC⟩ := hrel
    by_cases hlt : k < L.length
    · obtain ⟨b, off, rfl, hb, hcs⟩ := HM.out (by rintro rfl; simp at hlt)
      obtain ⟨s, hs⟩ : ∃ s, L.getD k ByteArray.empty = s := ⟨_, rfl⟩
      have hcl := hcs k hlt
      rw [hs] at hcl
      replace hcl := (hC.bel.cell (p := ⟨b, off + k, none⟩) hb).trans hcl
      have hsm : s.size ≤ 9223372036854775807 := by
        rw [← hs]
        have : L.getD k ByteArray.empty ∈ L := by simp [List.getD, hlt]
        exact HZ.out _ this
      have hkL : (k : Int) < (L.length : Int) := by omega
      have hsum := hC.sum
      have htn := tot_snoc hlt
      rw [hs] at htn
      obtain ⟨n, hn⟩ : ∃ n, tot (L.take k) = n := ⟨_, rfl⟩
      rw [hn] at hsum htn ⊢
      by_cases h20 : 20 ≤ k
      · have hd : decide ((20 : Int) ≤ (k : Int)) = true := by simp; omega
        clear hcs
        go_wp2_with (go_at_call 35; refine (HK.out wr).mono ?_; rintro e w' ⟨rfl, hb2⟩)
        go_ret
        exact ⟨rfl, hC.bel.trans (hb2.mono hC.bel.size)⟩
      · have hd : decide ((20 : Int) ≤ (k : Int)) = false := by simp; omega
        by_cases h3 : 3000 < s.size
        · have hd3 : decide ((3000 : Int) < (s.size : Int)) = true := by simp; omega
          clear hcs
          go_wp2_with (go_at_call 35; refine (HK.out wr).mono ?_; rintro e w' ⟨rfl, hb2⟩)
          go_ret
          exact ⟨rfl, hC.bel.trans (hb2.mono hC.bel.size)⟩
        · have hd3 : decide ((3000 : Int) < (s.size : Int)) = false := by simp; omega
          by_cases hn3 : 3000 < n
          · have hd4 : decide ((3000 : Int) < (n : Int)) = true := by simp; omega
            clear hcs
            go_wp2_with (go_at_call 35; refine (HK.out wr).mono ?_; rintro e w' ⟨rfl, hb2⟩)
            go_ret
            exact ⟨rfl, hC.bel.trans (hb2.mono hC.bel.size)⟩
          · have hd4 : decide ((3000 : Int) < (n : Int)) = false := by simp; omega
            have hlen : (textsB (L.take k)).length = 2 * k + n := by
              rw [textsB_len, hn, List.length_take, show min k L.length = k by omega]
            have e1 : wTextS (textsB (L.take k)) s = (0, textsB (L.take (k + 1))) := by
              rw [textsB_snoc hlt, hs]
              unfold wTextS textB
              rw [if_neg (by omega)]
            have E1 := Lib.hid e1
            have each : ∀ j, j < k + 1 → (L.getD j ByteArray.empty).size ≤ 3000 := fun j hj => by
              by_cases h : j < k
              · exact hC.each j h
              · obtain rfl : j = k := by omega
                rw [hs]; omega
            have EA := Lib.hid each
            have hcast : ((n + s.size : Nat) : Int) = (n : Int) + (s.size : Int) := by omega
            have HC := Lib.hid hcast
            clear hcs each e1 hcast
            go_wp2_with (go_at_call 40; refine (wtext_any hC.wri s hsm).mono ?_; rw [E1.out]; rintro e w3 ⟨rfl, v3, hW3, hg3⟩; have hb3 := hC.bel.trans (hg3.below hC.bel.size hC.wri.lo hC.wri.own.block))
            exact ⟨⟨k + 1, v3, by rw [show ((k + 1 : Nat) : Int) = (k : Int) + 1 by omega], by rw [htn, HC.out], ⟨hlt, by omega, EA.out, by omega, hW3, hb3⟩⟩, by simp only [intOf]; omega⟩
    · obtain rfl : k = L.length := by have := hC.le; omega
      have hkL : ¬ ((L.length : Int) < (L.length : Int)) := by omega
      have htk : L.take L.length = L := List.take_length
      obtain ⟨v, hC⟩ : ∃ v, Cut1 w L L.length v wr := ⟨v, hC⟩
      have hW := hC.wri
      rw [htk] at hW
      have hlen := textsB_len L
      have hsum := hC.sum
      rw [htk] at hsum
      have h20 := hC.le20
      have hB := Lib.hid hC.bel
      have each := Lib.hid hC.each
      rw [htk]
      generalize hall : textsB L = all at hW hlen
      obtain ⟨n, hn⟩ : ∃ n, all.length = n := ⟨_, rfl⟩
      have hnl : n ≤ 6040 := by omega
      have HA := Lib.hid hall
      have HN := Lib.hid hn
      clear hC hall hlen hsum htk
      by_cases hl0 : left < 0
      · have hd : decide (left < 0) = true := by simpa using hl0
        go_wp2_with (first
          | (go_at_call 42; refine (wbytes_any hW).mono ?_; rintro e w4 ⟨x, rfl, hO4, hb4⟩; obtain ⟨ax, cx, rfl, hm4, hle4, -, hno4, -⟩ := hO4.form)
          | (go_at_call 35; refine (HK.out w4).mono ?_; rintro e w5 ⟨rfl, hb5⟩))
        go_ret
        have B4 := hB.out.trans (hb4.mono hB.out.size)
        exact ⟨rfl, B4.trans (hb5.mono B4.size)⟩
      · obtain ⟨m, rfl⟩ : ∃ m : Nat, left = m := ⟨left.toNat, by omega⟩
        have hd : decide ((m : Int) < 0) = false := by simp
        by_cases hl1 : n < m
        · have hd2 : decide ((n : Int) < (m : Int)) = true := by simp; omega
          go_wp2_with (first
            | (go_at_call 42; refine (wbytes_any hW).mono ?_; rintro e w4 ⟨x, rfl, hO4, hb4⟩; obtain ⟨ax, cx, hx, hm4, hle4, -, hno4, -⟩ := hO4.form; rw [HN.out] at hx; subst hx)
            | (go_at_call 35; refine (HK.out w4).mono ?_; rintro e w5 ⟨rfl, hb5⟩))
          go_ret
          have B4 := hB.out.trans (hb4.mono hB.out.size)
          exact ⟨rfl, B4.trans (hb5.mono B4.size)⟩
        · have hd2 : decide ((n : Int) < (m : Int)) = false := by simp; omega
          go_wp2_with (first
            | (go_at_call 42; refine (wbytes_any hW).mono ?_; rintro e w4 ⟨x, rfl, hO4, hb4⟩; obtain ⟨ax, cx, hx, hm4, hle4, -, hno4, -⟩ := hO4.form; rw [HN.out] at hx hle4; have HNO := Lib.hid hno4; clear hno4; subst hx))
          have htl : (all.take m).length = m := by rw [List.length_take, HN.out]; omega
          have hm4' : BytesAt w4.heap.size w4 ax (all.take m) := by
            have h := hm4
            rw [← List.take_append_drop m all] at h
            exact h.left
          have hR := newReader_any w4 ax (all.take m) cx _ hm4' HNO.out (by rw [htl]; omega) (by rw [htl]; omega)
          rw [htl] at hR
          have HRD := Lib.hid hR
          have B4 := Lib.hid (hB.out.trans (hb4.mono hB.out.size))
          clear hR hm4 hm4' hO4 hb4 hle4 HNO hW
          go_wp2_with (go_at_call 44; refine HRD.out.mono ?_; rintro e w5 ⟨R, rfl, hR5, hb5⟩)
          have hm5 := HM.out
          have B5 := Lib.hid (B4.out.trans (hb5.mono B4.out.size))
          have S4 := Lib.hid B4.out.size
          clear hb5 HRD
          go_loopw [4, 10, 11, 12, 13, 65, 66, 67, 68, 69, 70, 71, 72, 73, 74, 75, 76, 77, 78, 79, 80, 81, 82, 83, 84, 85, 86, 87, 88, 89, 90, 91, 92, 93, 94, 95, 96, 97, 98, 99, 100, 101, 102, 103, 104, 105, 106, 107, 108, 109, 110, 111, 112, 113, 114, 115, 116, 117, 118, 119, 120] (fun _ n y _ _ _ _ _ _ _ _ _ _ _ _ _ _ _ _ _ _ _ _ _ _ _ _ _ _ _ _ _ _ _ _ _ _ _ _ _ _ _ _ _ _ _ _ _ _ _ _ _ _ _ _ _ _ _ _ _ _ wr => ∃ (k : Nat), y = .int .i64 k ∧ n = .int .i64 ((textsB (L.take k)).length : Nat) ∧ k ≤ L.length ∧ (textsB (L.take k)).length ≤ m ∧ IsRd w4.heap.size wr R ((all.take m).drop (textsB (L.take k)).length) ∧ Below w4.heap.size w5 wr)
            (fun _ _ y _ _ _ _ _ _ _ _ _ _ _ _ _ _ _ _ _ _ _ _ _ _ _ _ _ _ _ _ _ _ _ _ _ _ _ _ _ _ _ _ _ _ _ _ _ _ _ _ _ _ _ _ _ _ _ _ _ _ _ => L.length - (intOf y).toNat)
          case atStart => exact ⟨0, rfl, rfl, Nat.zero_le _, Nat.zero_le _, hR5, Below.refl _ _⟩
          case round =>
            obtain ⟨k, rfl, rfl, hk, hkm, hRk, hbk⟩ := hrel
            obtain ⟨q, hq⟩ : ∃ q, (textsB (L.take k)).length = q := ⟨_, rfl⟩
            rw [hq] at hkm hRk ⊢
            by_cases hlt : k < L.length
            · obtain ⟨b, off, rfl, hb, hcs⟩ := HM.out (by rintro rfl; simp at hlt)
              obtain ⟨s, hs⟩ : ∃ s, L.getD k ByteArray.empty = s := ⟨_, rfl⟩
              have hcl := hcs k hlt
              rw [hs] at hcl
              have hbw := B5.out.trans (hbk.mono S4.out)
              replace hcl := (hbw.cell (p := ⟨b, off + k, none⟩) hb).trans hcl
              have hs3 : s.size ≤ 3000 := by rw [← hs]; exact each.out k hlt
              have hkL : (k : Int) < (L.length : Int) := by omega
              have hr : (all.take m).drop q = (textB s ++ textsB (L.drop (k + 1))).take (m - q) := by
                rw [List.drop_take]
                congr 1
                rw [← HA.out, textsB_split L k, textsB_cons hlt, hs, ← hq, List.drop_left]
              have hq2 : (textsB (L.take (k + 1))).length = q + (2 + s.size) := by rw [textsB_snoc hlt, hs, List.length_append, textB_len, hq]
              have hrt := rText_cut s (by omega) (textsB (L.drop (k + 1))) (m - q)
              rw [← hr] at hrt
              have hrl : ((all.take m).drop q).length = m - q := by rw [List.length_drop, htl]
              by_cases hshort : m - q < 2 + s.size
              · rw [if_pos hshort] at hrt
                have hd5 : decide ((m : Int) < (q : Int) + 2 + (s.size : Int)) = true := by simp; omega
                have RT := Lib.hid hrt
                have RL := Lib.hid (show ((((all.take m).drop q).length : Nat) : Int) = (m : Int) - (q : Int) by rw [hrl]; omega)
                have BW := Lib.hid hbw
                clear hrt hr hq2 hrl hcs hbw
                go_wp2_with (first
                  | (go_at_call 47; refine (rtext_any hRk).mono ?_; rw [RT.out]; dsimp only; rintro e w6 ⟨rfl, hR6, hg6⟩; have b6 := rd_below hRk hg6; have hcl6 := (b6.cell (p := ⟨b, off + k, none⟩) (Nat.lt_of_lt_of_le hb S4.out)).trans hcl; clear hg6)
                  | (go_at_call 49; refine (rleft_of hR6).mono ?_; rw [RL.out]; rintro e w7 ⟨rfl, hb7⟩)
                  | (go_at_call 35; refine (HK.out w7).mono ?_; rintro e w8 ⟨rfl, hb8⟩))
                go_ret
                have B6 := BW.out.trans (b6.mono S4.out)
                have B7 := B6.trans (hb7.mono B6.size)
                exact ⟨rfl, B7.trans (hb8.mono B7.size)⟩
              · rw [if_neg hshort] at hrt
                have hd5 : decide ((m : Int) < (q : Int) + 2 + (s.size : Int)) = false := by simp; omega
                have hnext : (textsB (L.drop (k + 1))).take (m - q - (2 + s.size)) = (all.take m).drop (textsB (L.take (k + 1))).length := by
                  have e0 : (all.take m).drop (q + (2 + s.size)) = ((all.take m).drop q).drop (2 + s.size) := by rw [List.drop_drop]
                  rw [hq2, e0, hr, List.drop_take]
                  congr 1
                  have := List.drop_left (l₁ := textB s) (l₂ := textsB (L.drop (k + 1)))
                  rw [textB_len] at this
                  exact this.symm
                rw [hnext] at hrt
                have RT := Lib.hid hrt
                have Q2 := Lib.hid hq2
                have hq3 : (textsB (L.take (k + 1))).length ≤ m := by omega
                have Q3 := Lib.hid hq3
                clear hrt hr hq2 hrl hcs hbw hnext hq3
                go_wp2_with (first
                  | (go_at_call 47; refine (rtext_any hRk).mono ?_; rw [RT.out]; dsimp only; rw [bytes_back]; rintro e w6 ⟨rfl, hR6, hg6⟩; have b6 := rd_below hRk hg6; have hcl6 := (b6.cell (p := ⟨b, off + k, none⟩) (Nat.lt_of_lt_of_le hb S4.out)).trans hcl; clear hg6))
                exact ⟨⟨k + 1, by rw [show ((k + 1 : Nat) : Int) = (k : Int) + 1 by omega], by rw [Q2.out, show ((q + (2 + s.size) : Nat) : Int) = (q : Int) + 2 + (s.size : Int) by omega], hlt, Q3.out, hR6, hbk.trans b6⟩, by simp only [intOf]; omega⟩
            · obtain rfl : k = L.length := by omega
              have hkL : ¬ ((L.length : Int) < (L.length : Int)) := by omega
              rw [List.take_length] at hq
              rw [HA.out, HN.out] at hq
              subst hq
              obtain rfl : n = m := by omega
              have hnil : ((all.take n).drop n).length = 0 := by rw [List.length_drop, htl]; omega
              have RL := Lib.hid (show ((((all.take n).drop n).length : Nat) : Int) = 0 by rw [hnil]; rfl)
              have BW := Lib.hid (B5.out.trans (hbk.mono S4.out))
              go_wp2_with (first
                | (go_at_call 49; refine (rleft_of hRk).mono ?_; rw [RL.out]; rintro e w7 ⟨rfl, hb7⟩)
                | (go_at_call 35; refine (HK.out w7).mono ?_; rintro e w8 ⟨rfl, hb8⟩))
              go_ret
              have B7 := BW.out.trans (hb7.mono BW.out.size)
              exact ⟨rfl, B7.trans (hb8.mono B7.size)⟩
end Go.Proofs.Ytdmgemimbbhbiaa
