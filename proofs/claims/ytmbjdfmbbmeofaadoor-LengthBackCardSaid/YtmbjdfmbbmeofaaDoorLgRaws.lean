/- Layer 15: LengthRaws. -/
import Derived.Test.YtmbjdfmbbmeofaaDoorLgH
import Derived.Test.YtmbjdfmbbmeofaaDoorLgI
import Derived.Test.YtmbjdfmbbmeofaaDoorStops
namespace Go.Proofs.YtmbjdfmbbmeofaaDoor
open Go.RowKit

theorem ownB_below {w w' : World} {base : Nat} {v : Value} {l : List UInt8} (h : OwnB w base v l) (hb : Below w.heap.size w w') : OwnB w' base v l := ownB_far h (below_grown hb) (fun r e => by cases e)
/-- append of bytes that lie anywhere, as a run. -/
theorem lg_app (w : World) (base ty n₀ : Nat) (v : Value) (l : List UInt8) (hown : OwnB w base v l) (ao : Option Addr) (m : List UInt8) (c : Nat) (hm : BytesAt n₀ w ao m) (hbound : l.length + m.length ≤ 1099511627776) (hbase : base ≤ w.heap.size) :
    ∃ v' w', (Builtin.append_ #[22, 22] ty #[v, .slice ao m.length c]).run Tryd.prog w = .ok v' w' ∧ OwnB w' base v' (l ++ m) ∧ w.grownBy w' v.ownBlock := by
  obtain ⟨i0, hi, hz0, hz1, hz2⟩ := info_parts infoU8
  cases ao with
  | none =>
    have hm0 : m = [] := by
      cases m with
      | nil => rfl
      | cons x t => obtain ⟨b, off, e, -⟩ := hm (by simp); cases e
    subst hm0
    obtain ⟨a, cap, e, -, hle, -⟩ := hown.form
    subst e
    refine ⟨_, w, ?_, by rw [List.append_nil]; exact hown, ⟨rfl, rfl, rfl, Nat.le_refl _, fun _ _ _ => rfl⟩⟩
    simp [Builtin.append_, go_sem, hi, sizeOf, typeInfo, Builtin.lenOf, Builtin.firstCells]
    rw [if_pos hle]
    cases a <;> rfl
  | some ad =>
    obtain ⟨v', w', hr, k1, k2, -, -⟩ := run_append_own_at (P := Tryd.prog) (w := w) base 22 ty 5 i0 (.int .u8 0) 1 1 Tryd.underlying22 hi hz0 hz1 hz2 rfl (by decide) v l.length (byteVals l) hown ad m.length c (byteVals m) (by simp [byteVals]) (fun j u hu => by
        have hj : j < m.length := by
          have := (List.getElem?_eq_some_iff.1 hu).1; simpa [byteVals] using this
        obtain ⟨b, off, e, hb, hc⟩ := hm (by rintro rfl; simp at hj)
        cases e
        rw [addr_add, hc j hj]
        rw [byteVals, List.getElem?_map, List.getElem?_eq_getElem hj] at hu
        simp [hj] at hu ⊢
        exact hu) (fun u hu => by
        simp only [byteVals, List.mem_map] at hu
        obtain ⟨y, _, rfl⟩ := hu
        simp [Value.oneCell']) (by unfold maxLen; omega) (by omega) hbase
    exact ⟨v', w', hr, by simpa [OwnB, byteVals] using k1, k2⟩
set_option maxRecDepth 100000 in
set_option maxHeartbeats 1000000 in
theorem lengthRaws_known (n : Int) (a : Option Addr) (l : List UInt8) (c : Nat) (w : World) (ht : LgTab w) (h1 : 100 < l.length) :
    Calls Tryd.prog 3 #[.int .i64 n, .slice a l.length c] w fun e w' => LgTrue w e w' := by
  have HK := Lib.hid (lg_known w ht)
  have h2 : (100 : Int) < l.length := by omega
  clear ht h1
  go_enter Tryd.func3, Tryd.ntmps3
  go_wp2_with (go_at_call 7; refine HK.out.mono ?_; rintro e w' ⟨rfl, hb⟩; have HB := Lib.hid hb; clear hb)
  go_ret
  exact ⟨rfl, HB.out⟩
set_option maxRecDepth 100000 in
set_option maxHeartbeats 1000000 in
theorem lengthRaws_bad (n : Int) (a : Option Addr) (l : List UInt8) (c : Nat) (w : World) (ht : LgTab w) (h1 : ¬ 100 < l.length) (hn : ¬ lgMay n) :
    Calls Tryd.prog 3 #[.int .i64 n, .slice a l.length c] w fun e w' => LgTrue w e w' := by
  have HT := Lib.hid ht
  have hlt := ht.lt
  have h2 : ¬ (100 : Int) < l.length := by omega
  have HR := Lib.hid (lgRaw_any n w ht)
  have hno : ¬ lgOk [n] := fun h => hn (h n (by simp))
  have HNO := Lib.hid hno
  have hz : lgSz n = 0 := lgSz_no (by unfold lgMay at hn; omega)
  have HN := Lib.hid hn
  have HZ := Lib.hid hz
  clear ht h1 hn hno hz
  go_enter Tryd.func3, Tryd.ntmps3
  go_wp2_with fail
  refine HR.out.mono ?_
  rintro e w2 (⟨hok, -⟩ | ⟨-, rfl, b2⟩)
  · exact absurd hok HNO.out
  have B2 := Lib.hid b2
  have hS := size_any n w2 (HT.out.below b2 hlt)
  rw [HZ.out] at hS
  have HS := Lib.hid hS
  clear b2 hS
  go_wp2_with fail
  refine (lgRawRef_no n w2 HN.out).mono ?_
  rintro e w' ⟨rfl, rfl⟩
  go_wp2_with fail
  refine HS.out.mono ?_
  rintro e w' ⟨rfl, rfl⟩
  go_wp2_with fail
  refine (lg_known w2 (HT.out.below B2.out hlt)).mono ?_
  rintro e w3 ⟨rfl, b3⟩
  have B3 := Lib.hid (show Below w.heap.size w w3 from B2.out.trans (b3.mono B2.out.size))
  clear b3
  go_wp2
  go_ret
  exact ⟨rfl, B3.out⟩
set_option maxRecDepth 100000 in
set_option maxHeartbeats 1000000 in
theorem lengthRaws_good (n : Nat) (hn : n ≤ 268435455) (a : Option Addr) (l : List UInt8) (c : Nat) (w : World) (hm : BytesAt w.heap.size w a l) (ht : LgTab w) (h1 : ¬ 100 < l.length) :
    Calls Tryd.prog 3 #[.int .i64 n, .slice a l.length c] w fun e w' => LgTrue w e w' := by
  have HT := Lib.hid ht
  have hlt := ht.lt
  have h2 : ¬ (100 : Int) < l.length := by omega
  have HR := Lib.hid (lgRaw_any n w ht)
  have hok : lgOk [(n : Int)] := fun z hz => by
    obtain rfl : z = (n : Int) := by simpa using hz
    exact ⟨by omega, by omega⟩
  have hall : lgAll [(n : Int)] = lgRaw n := by simp [lgAll]
  have HOK := Lib.hid (And.intro hok hall)
  have hsp := lgSize_pos n
  have HRD := Lib.hid (lgRead_raw hn l)
  have HRL := Lib.hid (lgRaw_len n)
  have HM := Lib.hid hm
  have hS : ∀ W, Below w.heap.size w W → Calls Tryd.prog 10 #[.int .i64 n] W fun e w' => e = .returned (.int .i64 (lgSize n)) ∧ W = w' := fun W hb => by
    have h := size_any (n : Int) W (ht.below hb hlt)
    rwa [lgSz_nat hn] at h
  have HS := Lib.hid hS
  obtain ⟨raw, hraw⟩ : ∃ raw, lgRaw n = raw := ⟨_, rfl⟩
  have HF := Lib.hid (fun W => lgRawRef_yes n hn W)
  unfold RawPost15 at HF
  rw [hraw] at HRD HRL HOK HF
  clear ht h1 hok hall hm hS hraw
  generalize lgSize n = sz at *
  go_enter Tryd.func3, Tryd.ntmps3
  go_wp2_with fail
  refine HR.out.mono ?_
  rintro e w2 (⟨-, v, rfl, hO, b2⟩ | ⟨hno, -⟩)
  rotate_left
  · exact absurd HOK.out.1 hno
  rw [HOK.out.2] at hO
  have B2 := Lib.hid b2
  have HO := Lib.hid hO
  obtain ⟨a1, c1, e1, m1, -⟩ := hO.form
  have e1' := e1
  rw [HRL.out] at e1
  have M1 := Lib.hid m1
  have E1 := Lib.hid e1'
  clear b2 hO m1 e1'
  subst e1
  go_wp2_with fail
  refine (HF.out w2).mono ?_
  rintro e w3 ⟨v3, rfl, hO3, b3⟩
  have B3 := Lib.hid (show Below w.heap.size w w3 from B2.out.trans (b3.mono B2.out.size))
  have m1b := (M1.out.below b3).mono b3.size
  obtain ⟨a3, c3, e3, m3, -⟩ := hO3.form
  have M3 := Lib.hid m3
  have hrl : raw.length ≤ 4 := by have := HRL.out; omega
  have hll : l.length ≤ 100 := by omega
  obtain ⟨v4, w4, hr4, hO4, hg4⟩ := lg_app w3 w3.heap.size 22 _ (.slice none 0 0) [] (OwnB.nil _ _) a1 raw c1 m1b (by simp; omega) (Nat.le_refl _)
  have b4 : Below w3.heap.size w3 w4 := (Below.refl _ _).grown hg4 (Nat.le_refl _) (fun q e => by cases e)
  rw [List.nil_append] at hO4
  obtain ⟨v5, w5, hr5, hO5, hg5⟩ := lg_app w4 w3.heap.size 22 _ v4 raw hO4 a l c (HM.out.below (B3.out.trans (b4.mono B3.out.size))) (by omega) b4.size
  have b5 : Below w3.heap.size w3 w5 := b4.grown hg5 b4.size hO4.block
  obtain ⟨a5, c5, e5, m5, -⟩ := hO5.form
  have hRd := lgRead_any a5 (raw ++ l) c5 _ w5 m5 (HT.out.below (B3.out.trans (b5.mono B3.out.size)) hlt)
  unfold LgPost lgTell at hRd
  rw [HRD.out, ← e5] at hRd
  have HRd := Lib.hid hRd
  have k1 := lg_conv w5 a1 raw c1 _ (m1b.below b5)
  have k3 := lg_conv w5 a3 raw c3 _ (m3.below (b5.mono (Nat.le_refl _)))
  rw [HRL.out] at e3 hr4 k1 k3
  have B5 := Lib.hid (show Below w.heap.size w w5 from B3.out.trans (b5.mono B3.out.size))
  have HK := Lib.hid (lg_known w5 (HT.out.below B5.out hlt))
  have HS5 := Lib.hid (HS.out w5 B5.out)
  subst e3
  clear hO3 b3 m1b m3 hO4 hg4 b4 hO5 hg5 b5 e5 m5 hRd M1 E1 HS HF HM hrl
  go_wp2_with (first
    | (at_builtin; refine wpList_append_val rfl rfl rfl rfl hr4 ?_)
    | (at_builtin; refine wpList_append_val rfl rfl rfl rfl hr5 ?_)
    | (go_at_call 11; refine HRd.out.mono ?_; rintro e w' ⟨rfl, rfl⟩)
    | (go_at_call 10; refine HS5.out.mono ?_; rintro e w' ⟨rfl, rfl⟩)
    | (go_at_call 7; refine HK.out.mono ?_; rintro e w6 ⟨rfl, b6⟩; have B6 := Lib.hid (show Below w.heap.size w w6 from B5.out.trans (b6.mono B5.out.size)); clear b6))
  go_ret
  exact ⟨rfl, B6.out⟩
theorem lengthRaws_any (n : Int) (a : Option Addr) (l : List UInt8) (c : Nat) (w : World) (hm : BytesAt w.heap.size w a l) (ht : LgTab w) :
    Calls Tryd.prog 3 #[.int .i64 n, .slice a l.length c] w fun e w' => LgTrue w e w' := by
  by_cases h1 : 100 < l.length
  · exact lengthRaws_known n a l c w ht h1
  by_cases hn : lgMay n
  · obtain ⟨h2, h3⟩ := hn
    obtain ⟨m, rfl⟩ : ∃ m : Nat, n = m := ⟨n.toNat, by omega⟩
    exact lengthRaws_good m (by omega) a l c w hm ht h1
  · exact lengthRaws_bad n a l c w ht h1 hn
end Go.Proofs.YtmbjdfmbbmeofaaDoor
