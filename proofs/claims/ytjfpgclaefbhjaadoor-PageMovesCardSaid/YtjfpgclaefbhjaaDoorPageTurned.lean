/- Layer 4: the law on turned bits. -/
import Derived.Test.YtjfpgclaefbhjaaDoorPageTP
import Derived.Test.YtjfpgclaefbhjaaDoorPageK
namespace Go.Proofs.YtjfpgclaefbhjaaDoor
open Go.RowKit

theorem right_pg {k t x : Int} {l : List UInt8} (h : rightB k t x l.length = true) : ∃ p : Pg, p.ok ∧ k = p.k ∧ t = p.t ∧ x = p.x ∧ l = p.b := by
  simp only [rightB, kindB, numB, Bool.and_eq_true, decide_eq_true_eq] at h
  obtain ⟨⟨⟨⟨h1, h2⟩, h3⟩, h4⟩, h5⟩ := h
  refine ⟨⟨k.toNat, t.toNat, x.toNat, l⟩, ⟨?_, ?_, ?_, ?_, ?_⟩, ?_, ?_, ?_, rfl⟩ <;> dsimp only <;> omega
theorem num_nat {n : Int} (h : numB n = true) : ∃ m : Nat, m ≤ 4095 ∧ n = m := by
  simp only [numB, decide_eq_true_eq] at h
  exact ⟨n.toNat, by omega, by omega⟩
set_option maxHeartbeats 4000000 in
set_option maxRecDepth 100000 in
theorem pageTurned_any (n k t x : Int) (a : Option Addr) (l : List UInt8) (c : Nat) (z0 z1 z2 : Int) (hno : a = none → c = 0) (hlc : l.length ≤ c) (w : World) (ha : BytesAt w.heap.size w a l) (hG : Given w) :
    Calls Tryd.prog 5 #[.int .i64 n, pgv k t x a l.length c, .agg #[.int .i64 z0, .int .i64 z1, .int .i64 z2]] w fun e w' => e = .returned (.bool true) ∧ Below w.heap.size w w' := by
  obtain ⟨W1, hW1⟩ : ∃ W1, (w.alloc (.cells #[.int .i64 k, .int .i64 t, .int .i64 x, .slice a l.length c] 25)).alloc (.cells #[.int .i64 z0, .int .i64 z1, .int .i64 z2] 42) = W1 := ⟨_, rfl⟩
  have hB1 : Below w.heap.size w W1 := hW1 ▸ ((Below.refl _ _).alloc (Nat.le_refl _) _).alloc (by simp) _
  have hs1 : w.heap.size + 1 < W1.heap.size := by rw [← hW1]; simp
  have hz : ∀ i, i < 3 → W1.cell? ⟨w.heap.size + 1, i, none⟩ = some (.int .i64 (zz z0 z1 z2 i)) := fun i hi => by
    have hr := heap_alloc_two w (.cells #[.int .i64 k, .int .i64 t, .int .i64 x, .slice a l.length c] 25) (.cells #[.int .i64 z0, .int .i64 z1, .int .i64 z2] 42)
    rw [hW1] at hr
    rw [cell_of_row W1 (w.heap.size + 1) i _ _ _ hr]
    match i, hi with
    | 0, _ => rfl
    | 1, _ => rfl
    | 2, _ => rfl
  have hrow : W1.heap[w.heap.size]? = some (.cells #[.int .i64 k, .int .i64 t, .int .i64 x, .slice a l.length c] 25 (0, 0)) := by
    rw [← hW1]; exact (Below.heap_alloc _ _ _ (by simp)).trans (heap_alloc_new w _)
  have r0 := cell_of_row W1 w.heap.size 0 _ _ _ hrow
  have r1 := cell_of_row W1 w.heap.size 1 _ _ _ hrow
  have r2 := cell_of_row W1 w.heap.size 2 _ _ _ hrow
  have r3 := cell_of_row W1 w.heap.size 3 _ _ _ hrow
  simp only [List.getElem?_toArray, List.getElem?_cons_zero, List.getElem?_cons_succ] at r0 r1 r2 r3
  have HROW := Lib.hid hrow
  clear hrow
  have HZ := Lib.hid hz
  have hG1 := hG.below hB1
  have hK := fun W (h : Below W1.heap.size W1 W) => pknown_any W (hG1.below h)
  have HK := Lib.hid hK
  clear hz hK
  by_cases h1 : 300 < l.length
  · have hd : decide ((300 : Int) < (l.length : Int)) = true := by simp; omega
    clear ha hG hG1
    go_enter Tryd.func5, Tryd.ntmps5
    go_wp2_with fail
    refine (HK.out W1 (Below.refl _ _)).mono ?_
    rintro e w' ⟨rfl, hb'⟩
    have HB := Lib.hid (go_on hB1 hb')
    clear hb'
    go_wp2
    go_ret
    exact ⟨rfl, HB.out⟩
  have hd : decide ((300 : Int) < (l.length : Int)) = false := by simp; omega
  by_cases hok : numB n = true ∧ rightB k t x l.length = true
  case neg =>
    have hno2 : numB n = false ∨ rightB k t x l.length = false := by
      by_cases h : numB n = true
      · exact .inr (by simpa using fun h2 => hok ⟨h, h2⟩)
      · exact .inl (by simpa using h)
    have HR := Lib.hid (raw_no n k t x a l.length c W1 (by omega) hno2)
    clear ha hG hG1 hok hno2
    go_enter Tryd.func5, Tryd.ntmps5
    go_wp2_with fail
    refine HR.out.mono ?_
    rintro e w2 ⟨rfl, hb2⟩
    have HB2 := Lib.hid hb2
    clear hb2
    go_wp2_with fail
    refine (HK.out w2 HB2.out).mono ?_
    rintro e w' ⟨rfl, hb'⟩
    have HB := Lib.hid (go_on hB1 (go_on HB2.out hb'))
    clear hb'
    go_wp2
    go_ret
    exact ⟨rfl, HB.out⟩
  obtain ⟨hnm, hrt⟩ := hok
  obtain ⟨p, hpo, rfl, rfl, rfl, rfl⟩ := right_pg hrt
  obtain ⟨m, hm, rfl⟩ := num_nat hnm
  have HRW := Lib.hid (raw_yes m hm p hpo a c W1 w.heap.size hB1.size (ha.below hB1) hno hlc hG1.tab hG1.tabs)
  obtain ⟨r, hr⟩ : ∃ r, p.raw m = r := ⟨_, rfl⟩
  have hlk := (raw_look hpo hm).1
  have hlen := Pg.raw_len (n := m) hpo
  have hrs := (look_raw hlk).2.2.2.2.1
  rw [hr] at HRW hlk hlen hrs
  have HL := Lib.hid (And.intro hlk (And.intro hlen hrs))
  have HG1 := Lib.hid hG1
  have HB1 := Lib.hid hB1
  clear hr hlk hlen hrs hpo hnm hrt ha hG hG1 hm
  go_enter Tryd.func5, Tryd.ntmps5
  go_wp2_with fail
  refine HRW.out.mono ?_
  rintro e w2 ⟨v2, rfl, hO2, hb2⟩
  obtain ⟨ac, cc, rfl, hcc1, hcc2, hC2⟩ := CTo.of_own hO2
  have hcv := conv_at w2 ac r cc _ hC2.bytes
  rw [HL.out.2.1] at hcc1 hcv ⊢
  clear hO2 HRW r0 r1 r2 r3 hW1
  have HX := Lib.hid (And.intro hC2 hb2)
  clear hC2 hb2
  go_wp2_with fail
  go_loopw [10] (fun i wr => ∃ k : Nat, k ≤ 3 ∧ i = .int .i64 k ∧ CTo W1.heap.size wr ac (flips r z0 z1 z2 k) ∧ Below W1.heap.size W1 wr) (fun i _ => 3 - (intOf i).toNat)
  case atStart => exact ⟨0, by omega, rfl, HX.out.1, HX.out.2⟩
  case round =>
    obtain ⟨k, hk, rfl, hC, hB⟩ := hrel
    by_cases hlt : k < 3
    · have hzc := (hB.cell (p := ⟨w.heap.size + 1, k, none⟩) hs1).trans (HZ.out k hlt)
      have hfl := flips_length r z0 z1 z2 k
      rw [HL.out.2.1] at hfl
      have HS : Hid (flips r z0 z1 z2 (k + 1) = flipB (flips r z0 z1 z2 k) (zz z0 z1 z2 k)) := rfl
      obtain ⟨cl, hcl⟩ : ∃ cl, flips r z0 z1 z2 k = cl := ⟨_, rfl⟩
      obtain ⟨z, hz⟩ : ∃ z, zz z0 z1 z2 k = z := ⟨_, rfl⟩
      rw [hcl, hz] at HS
      rw [hcl] at hC hfl
      rw [hz] at hzc
      have HFL := Lib.hid hfl
      clear hcl hz hfl hcv
      have i1 : (0 : Int) ≤ (k : Int) := Int.natCast_nonneg _
      have i2 : (k : Int) < 3 := by omega
      by_cases hz0 : z < 0
      · have hno : flipB cl z = cl := if_neg (by omega)
        have HNO := Lib.hid hno
        clear hno
        go_wp2_with fail
        go_roundw
        case rel => exact ⟨k + 1, by omega, by go_num, by rw [HS.out, HNO.out]; exact hC, hB⟩
        case measure => simp [intOf]; omega
      · by_cases hz1 : 2048 ≤ z
        · have hno : flipB cl z = cl := if_neg (by rw [HFL.out]; omega)
          have HNO := Lib.hid hno
          clear hno
          go_wp2_with fail
          go_roundw
          case rel => exact ⟨k + 1, by omega, by go_num, by rw [HS.out, HNO.out]; exact hC, hB⟩
          case measure => simp [intOf]; omega
        · obtain ⟨q, rfl⟩ := Int.eq_ofNat_of_zero_le (show 0 ≤ z by omega)
          obtain ⟨g, rfl, hg1, hg2, hg3⟩ := hC (by rintro rfl; have := HFL.out; simp at this)
          have hm : q < 8 * cl.length := by rw [HFL.out]; omega
          have hm8 : q / 8 < cl.length := by omega
          have hcell := (hg3 (q / 8) hm8).1
          have hfr := (hg3 (q / 8) hm8).2
          obtain ⟨X, hX⟩ : ∃ X, cl[q / 8]?.getD 0 = X := ⟨_, rfl⟩
          obtain ⟨y, hy⟩ : ∃ y, 2 ^ (q % 8) = y := ⟨_, rfl⟩
          have hy8 : y < 256 := by rw [← hy]; exact Nat.pow_lt_pow_right (a := 2) (m := q % 8) (n := 8) (by decide) (by omega)
          have hxy := xor8 (UInt8.toNat_lt X) hy8
          have hset := hC.set (v := X.toNat ^^^ y) hm (by rw [hX, hy, UInt8.toNat_xor, UInt8.toNat_ofNat_of_lt' (by have : UInt8.size = 256 := rfl; omega)])
          have hpy : (2 : Int) ^ (q % 8) % 256 = (y : Int) := by
            rw [show (2 : Int) ^ (q % 8) = ((2 ^ (q % 8) : Nat) : Int) by rw [Int.natCast_pow]; rfl, hy]; omega
          rw [hX] at hcell
          have i3 : (q : Int) / 8 < 256 := by omega
          have i4 : (0 : Int) ≤ (q : Int) / 8 := by omega
          clear hX hy hg3
          go_wp2_with fail
          go_region
          go_wp2_with fail
          go_roundw
          case rel => exact ⟨k + 1, by omega, by go_num, by rw [HS.out]; exact hset, (hB.setCell (p := ⟨g, q / 8, none⟩) hg1 _).drew⟩
          case measure => simp [intOf]; omega
    · obtain rfl : k = 3 := by omega
      have hfl := flips_length r z0 z1 z2 3
      rw [HL.out.2.1] at hfl
      have hts := turned_sum HL.out.2.1 HL.out.2.2 z0 z1 z2
      obtain ⟨c3, hc3⟩ : ∃ c3, flips r z0 z1 z2 3 = c3 := ⟨_, rfl⟩
      rw [hc3] at hC hfl hts
      clear hc3
      have hLk := look_any c3 ac cc wr.heap.size (by rw [hfl]; exact hcc1) wr hC.bytes (Nat.le_refl _) (fun e => by
        obtain ⟨g, e2, -⟩ := hC (by rintro rfl; simp at hfl)
        rw [e] at e2; cases e2) (HG1.out.below hB).tab (HG1.out.below hB).tabs
      rw [hfl] at hLk
      have HLK := Lib.hid hLk
      have HC := Lib.hid (And.intro hC (And.intro hB (And.intro hfl hts)))
      clear hLk hC hB hts hfl hcv
      go_wp2_with fail
      have hne : (c3 = r → lookE c3 = 0) ∧ (c3 ≠ r → lookE c3 = 140) := by
        refine ⟨fun e => e ▸ HL.out.1, fun e => ?_⟩
        have h1 : sumOk c3 = false := by
          cases h : sumOk c3 with
          | false => rfl
          | true => exact absurd (HC.out.2.2.2 h) e
        unfold lookE
        rw [if_neg (by rw [HC.out.2.2.1]; simp), h1]; simp
      refine HLK.out.mono ?_
      rintro e w4 ⟨hb4, hpost⟩
      have hal : ∀ o, Below wr.heap.size wr (w4.alloc o) := fun o => hb4.alloc hb4.size _
      have hcv4 := fun o => conv_at (w4.alloc o) ac c3 cc _ (HC.out.1.bytes.below (hal o))
      rw [HC.out.2.2.1] at hcv4
      have HB4 := Lib.hid (fun o => (HC.out.2.1.trans ((hal o).mono HC.out.2.1.size)))
      by_cases hcr : c3 = r
      · have h0 := hne.1 hcr
        have hq : (c3 == r) = true := by simpa using hcr
        rcases hpost with ⟨-, ar, cr, rfl, -⟩ | ⟨h, -⟩
        case inr => exact absurd h0 h
        obtain ⟨ab, hab⟩ : ∃ ab, bodyAt ar (atS c3) = ab := ⟨_, rfl⟩
        obtain ⟨m', hme⟩ : ∃ n, atN c3 = n := ⟨_, rfl⟩
        obtain ⟨k', hk'⟩ : ∃ n, atK c3 = n := ⟨_, rfl⟩
        obtain ⟨t', ht'⟩ : ∃ n, wrap64 (atT c3) = n := ⟨_, rfl⟩
        obtain ⟨x', hx'⟩ : ∃ n, atX c3 = n := ⟨_, rfl⟩
        obtain ⟨sz, hsz⟩ : ∃ n, atS c3 = n := ⟨_, rfl⟩
        rw [hab, hme, hk', ht', hx', hsz]
        clear hab hme hk' ht' hx' hsz hcr h0 hne hal hb4 HLK
        go_wp2_with fail
        refine (HK.out _ (HB4.out _)).mono ?_
        rintro e w5 ⟨rfl, hb5⟩
        have HB5 := Lib.hid (go_on (go_on HB1.out (HB4.out _)) hb5)
        clear hb5 hcv4
        go_wp2
        go_ret
        exact ⟨rfl, HB5.out⟩
      · have h0 := hne.2 hcr
        have hq : (c3 == r) = false := by simpa using hcr
        rcases hpost with ⟨h, -⟩ | ⟨-, rfl⟩
        · rw [h0] at h; cases h
        rw [h0]
        clear hcr h0 hne hal hb4 HLK
        go_wp2_with fail
        refine (HK.out _ (HB4.out _)).mono ?_
        rintro e w5 ⟨rfl, hb5⟩
        have HB5 := Lib.hid (go_on (go_on HB1.out (HB4.out _)) hb5)
        clear hb5 hcv4
        go_wp2
        go_ret
        exact ⟨rfl, HB5.out⟩
end Go.Proofs.YtjfpgclaefbhjaaDoor
