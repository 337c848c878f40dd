/- Layer 3: the law on copies: what is told is a copy. -/
import Derived.Test.YtdmgemimbbhbiaaWireP
namespace Go.Proofs.Ytdmgemimbbhbiaa
open Go.RowKit

theorem OwnB.set {w : World} {base g n cap : Nat} {l : List UInt8} (h : OwnB w base (.slice (some ⟨g, 0, none⟩) n cap) l) (i : Nat) (b : UInt8) :
    OwnB (w.setCell ⟨g, i, none⟩ (.int .u8 (b.toNat : Int))) base (.slice (some ⟨g, 0, none⟩) n cap) (l.set i b) := by
  obtain ⟨hlen, ⟨e, _⟩ | ⟨g', cap', cur, e, hb, hh, hn, hc, hs, ht⟩⟩ := h
  · cases e
  · cases e
    refine ⟨by simp [byteVals], .inr ⟨g, cap, _, by rw [List.length_set], hb, heap_setCell_same w g i cur _ _ hh, by simpa using hn, hc, by simpa using hs, ?_⟩⟩
    rw [Array.toList_setIfInBounds, List.length_set, List.take_set, ht]
    simp [byteVals, List.map_set]
theorem OwnB.below {w w' : World} {base : Nat} {v : Value} {l : List UInt8} (h : OwnB w base v l) (hb : Below w.heap.size w w') : OwnB w' base v l :=
  World.ownsRow.kept h (below_grown hb) (by cases v.ownBlock <;> simp)
theorem OwnB.mono {w : World} {b b' : Nat} {v : Value} {l : List UInt8} (h : OwnB w b v l) (hn : b' ≤ b) : OwnB w b' v l := by
  refine ⟨h.1, ?_⟩
  rcases h.2 with e | ⟨g, cp, cur, e, hg, r⟩
  · exact .inl e
  · exact .inr ⟨g, cp, cur, e, Nat.le_trans hn hg, r⟩
/-- Bytes that lie behind a writer's blocks stay when it writes. -/
theorem OwnB.kept2 {w w' : World} {base B : Nat} {u v v' : Value} {l : List UInt8} (h : OwnB w base u l) (hg : Goes2 w w' B v v') (hB : B < base) (hv : ∀ k, v.ownBlock = some k → k < base) : OwnB w' base u l := by
  refine ⟨h.1, ?_⟩
  rcases h.2 with e | ⟨g, cp, cur, e, hb, hh, r⟩
  · exact .inl e
  · exact .inr ⟨g, cp, cur, e, hb, (hg.block g (Array.getElem?_eq_some_iff.1 hh).1 (by omega) (fun e2 => by have := hv g e2.symm; omega)).trans hh, r⟩
theorem bumped (b : UInt8) : (((UInt8.ofNat (b.toNat + 1)).toNat : Nat) : Int) = ((b.toNat : Int) + 1) % 256 := by
  rw [UInt8.toNat_ofNat']; omega

set_option maxRecDepth 100000 in
set_option maxHeartbeats 8000000 in
theorem wireOwn_any (a b : ByteArray) (w : World) : Calls Try.prog 14 #[.string a, .string b] w fun e w' => e = .returned (.bool true) ∧ Below w.heap.size w w' := by
  have HK := Lib.hid wknown_any
  by_cases ha : 300 < a.size
  · have hd : decide ((300 : Int) < (a.size : Int)) = true := by simp; omega
    go_enter Try.func14, Try.ntmps14
    go_wp2_with (go_at_call 35; refine (HK.out w).mono ?_; rintro e w' ⟨rfl, hb⟩)
    go_ret
    exact ⟨rfl, hb⟩
  · have hd : decide ((300 : Int) < (a.size : Int)) = false := by simp; omega
    by_cases hb' : 300 < b.size
    · have hd2 : decide ((300 : Int) < (b.size : Int)) = true := by simp; omega
      go_enter Try.func14, Try.ntmps14
      go_wp2_with (go_at_call 35; refine (HK.out w).mono ?_; rintro e w' ⟨rfl, hb⟩)
      go_ret
      exact ⟨rfl, hb⟩
    · have hd2 : decide ((300 : Int) < (b.size : Int)) = false := by simp; omega
      have ea : wTextS [] a = (0, laidB a.size 2 2 ++ a.data.toList) := by unfold wTextS; rw [if_neg (by simp; omega)]; rfl
      obtain ⟨l1, hl1⟩ : ∃ l, laidB a.size 2 2 ++ a.data.toList = l := ⟨_, rfl⟩
      obtain ⟨l2, hl2⟩ : ∃ l, laidB b.size 2 2 ++ b.data.toList = l := ⟨_, rfl⟩
      have n1 : l1.length = 2 + a.size := by rw [← hl1, List.length_append, laidB_len, data_len]
      have n2 : l2.length = 2 + b.size := by rw [← hl2, List.length_append, laidB_len, data_len]
      have eb : wTextS l1 b = (0, l1 ++ l2) := by unfold wTextS; rw [if_neg (by omega), hl2]
      rw [hl1] at ea
      have t1 : rText (l1 ++ l2) = (a.data.toList, 0, l2) := by rw [← hl1]; exact rText_text a (by omega) l2
      have t2 : rText l2 = (b.data.toList, 0, []) := by rw [← hl2]; have := rText_text b (by omega) []; rwa [List.append_nil] at this
      have HA := Lib.hid (show a.size ≤ 9223372036854775807 by omega)
      have HB := Lib.hid (show b.size ≤ 9223372036854775807 by omega)
      have EA := Lib.hid ea
      have EB := Lib.hid eb
      have T1 := Lib.hid t1
      have T2 := Lib.hid t2
      have N1 := Lib.hid (show 0 < l1.length ∧ l1.length ≤ 302 by omega)
      have N2 := Lib.hid (show 0 < l2.length ∧ l2.length ≤ 302 by omega)
      clear ea eb t1 t2 hl1 hl2 n1 n2 ha hb'
      go_enter Try.func14, Try.ntmps14
      go_wp2_with (first
        | (go_at_call 36; refine (newWriter_any _).mono ?_; rintro e w1 ⟨rfl, hW1, hb1⟩)
        | (go_at_call 40; refine (wtext_any hW1 a HA.out).mono ?_; rw [EA.out]; rintro e w2 ⟨rfl, v2, hW2, hg2⟩; have hb2 := hb1.trans (hg2.below hb1.size hW1.lo hW1.own.block); clear hW1 hg2 hb1)
        | (go_at_call 42; refine (wbytes_any hW2).mono ?_; rintro e w3 ⟨x, rfl, hO3, hb3⟩; obtain ⟨ao, cap, rfl, hm3, -, -, -, -⟩ := hO3.form; have hc3 := conv_at w3 ao _ cap _ hm3; clear hm3))
      obtain ⟨g, rfl⟩ : ∃ g, ao = some ⟨g, 0, none⟩ := by
        rcases hO3.bytes with ⟨e, hl⟩ | ⟨g, c, e, -⟩
        · have := N1.out.1; rw [hl] at this; simp at this
        · injection e with e1 e2 e3; exact ⟨g, e1⟩
      obtain ⟨m, hm⟩ : ∃ m, l1.length = m := ⟨_, rfl⟩
      have hmle : m ≤ 302 := hm ▸ N1.out.2
      rw [hm] at hO3
      simp only [hm]
      clear hc3
      go_loopw [8, 35, 36, 37, 38, 39, 40, 41, 42, 43, 44, 45, 46] (fun y _ _ _ _ _ _ _ _ _ _ _ _ wr => ∃ (k : Nat) (l' : List UInt8), y = .int .i64 k ∧ k ≤ m ∧ OwnB wr w2.heap.size (.slice (some ⟨g, 0, none⟩) m cap) l' ∧ l'.length = m ∧ Below w2.heap.size w2 wr)
        (fun y _ _ _ _ _ _ _ _ _ _ _ _ _ => m - (intOf y).toNat)
      case atStart => exact ⟨0, l1, rfl, Nat.zero_le _, hO3, hm, hb3⟩
      case round =>
        obtain ⟨k, l', rfl, hk, hO, hlm, hbr⟩ := hrel
        by_cases hlt : k < m
        · obtain ⟨c, hc⟩ : ∃ c, l'[k]?.getD 0 = c := ⟨_, rfl⟩
          have hgw : w2.heap.size ≤ g := hO.block g rfl
          have hcell : wr.cell? ⟨g, k, none⟩ = some (.int .u8 (c.toNat : Int)) ∧ wr.frozen? ⟨g, k, none⟩ = false := by
            rcases hO.bytes with ⟨e, -⟩ | ⟨g', c', e, -, -, -, -, -, hcc⟩
            · cases e
            · cases e
              rw [← hc]; exact hcc k (by omega)
          obtain ⟨hcl, hfr⟩ := hcell
          have hset := hO.set k (UInt8.ofNat (c.toNat + 1))
          rw [bumped] at hset
          have hbs : Below w2.heap.size w2 (wr.setCell ⟨g, k, none⟩ (.int .u8 (((c.toNat : Int) + 1) % 256))) := hbr.setCell hgw _
          have hkm : (k : Int) < m := by omega
          have hc8 := UInt8.toNat_lt c
          have HSET := Lib.hid hset
          have HBS := Lib.hid hbs
          clear hset hbs hc hO
          go_wp2
          exact ⟨⟨k + 1, _, by rw [show ((k + 1 : Nat) : Int) = (k : Int) + 1 by omega], hlt, HSET.out, by rw [List.length_set]; exact hlm, HBS.out⟩, by simp only [intOf]; omega⟩
        · obtain rfl : k = m := by omega
          have hkm : ¬ ((k : Int) < k) := by omega
          have hW4 := hW2.below hbr
          have B4 := Lib.hid (hb2.trans (hbr.mono hb2.size))
          have hBlt := hW4.lt
          clear hW2 hO hO3 hb3 hb2 hbr hmle
          go_wp2_with (first
            | (go_at_call 42; refine (wbytes_any hW4).mono ?_; rintro e w5 ⟨y, rfl, hO5, hb5⟩; have hW5 := hW4.below hb5; have hv5 := hW4.own.block; have hlt5 := fun j hj => (World.ownsRow.lt hW4.own j hj).2; clear hW4; have B5 := Lib.hid (B4.out.trans (hb5.mono B4.out.size)); obtain ⟨ay, cy, hy, hm5, -, -, -, -⟩ := hO5.form; rw [hm] at hy; subst hy; have hc5 := conv_at w5 ay _ cy _ hm5; rw [hm] at hc5; clear hm5)
            | (go_at_call 40; refine (wtext_any hW5 b HB.out).mono ?_; rw [EB.out]; rintro e w6 ⟨rfl, v6, hW6, hg6⟩; have hO6 := hO5.kept2 hg6 hBlt hlt5; have B6 := Lib.hid (B5.out.trans (hg6.below B5.out.size hW5.lo hW5.own.block)); clear hW5 hg6 hO5; obtain ⟨ay6, cy6, hy6, hm6, -, -, -, -⟩ := hO6.form; rw [hm] at hy6; cases hy6; have hc6 := conv_at w6 ay _ cy _ hm6; rw [hm] at hc6; clear hm6 hO6))
          have hll : (l1 ++ l2).length ≤ 1000000 := by
            have q1 := N1.out.2
            have q2 := N2.out.2
            rw [List.length_append]; omega
          have hlp : 0 < (l1 ++ l2).length := by
            have q1 := N1.out.1
            rw [List.length_append]; omega
          have HL := Lib.hid hll
          have HP := Lib.hid hlp
          clear hlp hll
          obtain ⟨l3, hl3⟩ : ∃ l, l1 ++ l2 = l := ⟨_, rfl⟩
          rw [hl3] at hW6 HL HP T1
          clear hl3 EA EB
          go_wp2_with (first
            | (go_at_call 42; refine (wbytes_any hW6).mono ?_; rintro e w7 ⟨y7, rfl, hO7, hb7⟩; obtain ⟨ay7, cy7, hy7, hm7, hle7, -, hno7, -⟩ := hO7.form; have HN7 := Lib.hid hno7; clear hno7 hO7; subst hy7; have B7 := Lib.hid (B6.out.trans (hb7.mono B6.out.size)); clear hW6 hb7)
            | (go_at_call 44; refine (newReader_any _ _ l3 cy7 _ hm7 HN7.out hle7 HL.out).mono ?_; rintro e w8 ⟨R, rfl, hR8, hb8⟩; have B8 := Lib.hid (B7.out.trans (hb8.mono B7.out.size)); have S7 := Lib.hid B7.out.size; clear hm7 hle7 hb8)
            | (go_at_call 50; refine (rrest_any hR8).mono ?_; rintro e w9 ⟨z, rfl, hO9, hb9⟩; obtain ⟨az, cz, hz, -, -, -, -, -⟩ := hO9.form; subst hz))
          obtain ⟨g9, rfl⟩ : ∃ g, az = some ⟨g, 0, none⟩ := by
            rcases hO9.bytes with ⟨e, hl⟩ | ⟨g, c, e, -⟩
            · have := HP.out; rw [hl] at this; simp at this
            · injection e with e1 e2 e3; exact ⟨g, e1⟩
          obtain ⟨m, hm9⟩ : ∃ m, l3.length = m := ⟨_, rfl⟩
          have hmle : m ≤ 1000000 := hm9 ▸ HL.out
          rw [hm9] at hO9
          simp only [hm9]
          go_loopw [12, 70, 71, 72, 73, 74, 75, 76, 77, 78, 79, 80, 81] (fun y _ _ _ _ _ _ _ _ _ _ _ _ wr => ∃ (k : Nat) (l' : List UInt8), y = .int .i64 k ∧ k ≤ m ∧ OwnB wr w8.heap.size (.slice (some ⟨g9, 0, none⟩) m cz) l' ∧ l'.length = m ∧ Below w8.heap.size w8 wr)
            (fun y _ _ _ _ _ _ _ _ _ _ _ _ _ => m - (intOf y).toNat)
          case atStart => exact ⟨0, l3, rfl, Nat.zero_le _, hO9, hm9, hb9⟩
          case round =>
            obtain ⟨k, l', rfl, hk, hO, hlm, hbr⟩ := hrel
            by_cases hlt : k < m
            · obtain ⟨c, hc⟩ : ∃ c, l'[k]?.getD 0 = c := ⟨_, rfl⟩
              have hgw : w8.heap.size ≤ g9 := hO.block g9 rfl
              have hcell : wr.cell? ⟨g9, k, none⟩ = some (.int .u8 (c.toNat : Int)) ∧ wr.frozen? ⟨g9, k, none⟩ = false := by
                rcases hO.bytes with ⟨e, -⟩ | ⟨g', c', e, -, -, -, -, -, hcc⟩
                · cases e
                · cases e
                  rw [← hc]; exact hcc k (by omega)
              obtain ⟨hcl, hfr⟩ := hcell
              have hset := hO.set k (UInt8.ofNat (c.toNat + 1))
              rw [bumped] at hset
              have hbs : Below w8.heap.size w8 (wr.setCell ⟨g9, k, none⟩ (.int .u8 (((c.toNat : Int) + 1) % 256))) := hbr.setCell hgw _
              have hkm : (k : Int) < m := by omega
              have hc8 := UInt8.toNat_lt c
              have HSET := Lib.hid hset
              have HBS := Lib.hid hbs
              clear hset hbs hc hO
              go_wp2
              exact ⟨⟨k + 1, _, by rw [show ((k + 1 : Nat) : Int) = (k : Int) + 1 by omega], hlt, HSET.out, by rw [List.length_set]; exact hlm, HBS.out⟩, by simp only [intOf]; omega⟩
            · obtain rfl : k = m := by omega
              have hkm : ¬ ((k : Int) < k) := by omega
              have hR9 := hR8.below hbr
              have B9 := Lib.hid (B8.out.trans (hbr.mono B8.out.size))
              clear hR8 hO hO9 hb9 hbr hmle
              go_wp2_with (first
                | (go_at_call 47; refine (rtext_any hR9).mono ?_; rw [T1.out]; dsimp only; rw [bytes_back]; rintro e w10 ⟨rfl, hR10, hg10⟩; have b10 := rd_below hR9 hg10; clear hR9 hg10)
                | (go_at_call 47; refine (rtext_any hR10).mono ?_; rw [T2.out]; dsimp only; rw [bytes_back]; rintro e w11 ⟨rfl, hR11, hg11⟩; have b11 := b10.trans (rd_below hR10 hg11); clear hR10 hg11 b10)
                | (go_at_call 35; refine (HK.out _).mono ?_; rintro e w12 ⟨rfl, hb12⟩))
              go_ret
              exact ⟨rfl, B9.out.trans ((b11.trans (hb12.mono (Nat.le_trans hR11.lo (Nat.le_of_lt hR11.lt)))).mono S7.out)⟩
end Go.Proofs.Ytdmgemimbbhbiaa
