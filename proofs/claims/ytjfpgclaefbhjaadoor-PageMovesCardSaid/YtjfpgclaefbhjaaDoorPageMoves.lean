/- Layer 4: the law on a page's bytes at two numbers; what is told is a copy. -/
import Derived.Test.YtjfpgclaefbhjaaDoorPageTurned
namespace Go.Proofs.YtjfpgclaefbhjaaDoor
open Go.RowKit

theorem sameB_refl (k t x : Int) (l : List UInt8) : sameB k t x l k t x l = true := by simp [sameB]
theorem parse_raw {n : Nat} {p : Pg} (h : p.ok) (hn : n ≤ 4095) (m : Nat) (hm : m ≤ 4095) : parseE (m : Int) (p.raw n) = if n = m then 0 else 141 := by
  obtain ⟨h1, -, h3⟩ := raw_look h hn
  unfold parseE
  rw [if_pos (by simp [numB]; omega), if_pos h1, h3]
  by_cases e : n = m
  · rw [if_pos e, if_pos (by omega)]
  · rw [if_neg e, if_neg (by omega)]
theorem raw_num {n m : Nat} {p : Pg} (h : p.ok) (hn : n ≤ 4095) (hm : m ≤ 4095) (e : p.raw n = p.raw m) : n = m := by
  have h1 := (raw_look h hn).2.2
  have h2 := (raw_look h hm).2.2
  rw [e] at h1
  exact h1.symm.trans h2
def RawEither (w : World) (e : Ending) (w' : World) : Prop := ∃ (aa : Option Addr) (nn cc : Nat) (ev : Int), e = .returned (.tuple #[.slice aa nn cc, .int .i64 ev]) ∧ Below w.heap.size w w'
theorem raw_either (n k t x : Int) (a : Option Addr) (l : List UInt8) (c : Nat) (w : World) (n₁ : Nat) (hn₁ : n₁ ≤ w.heap.size) (hm : BytesAt n₁ w a l) (hno : a = none → c = 0) (hle : l.length ≤ c) (hl : l.length ≤ 9223372036854775807) (hG : Given w) :
    Calls Tryd.prog 9 #[.int .i64 n, pgv k t x a l.length c] w fun e w' => RawEither w e w' := by
  by_cases h1 : numB n = true
  · by_cases h2 : rightB k t x l.length = true
    · obtain ⟨p, hpo, rfl, rfl, rfl, rfl⟩ := right_pg h2
      obtain ⟨m, hm', rfl⟩ := num_nat h1
      refine (raw_yes m hm' p hpo a c w n₁ hn₁ hm hno hle hG.tab hG.tabs).mono ?_
      rintro e w' ⟨v, rfl, hO, hb⟩
      obtain ⟨aa, cc, rfl, -⟩ := hO.form
      exact ⟨aa, _, cc, 0, rfl, hb⟩
    · refine (raw_no n k t x a l.length c w hl (.inr (by simpa using h2))).mono ?_
      rintro e w' ⟨rfl, hb⟩
      exact ⟨none, 0, 0, 2, rfl, hb⟩
  · refine (raw_no n k t x a l.length c w hl (.inl (by simpa using h1))).mono ?_
    rintro e w' ⟨rfl, hb⟩
    exact ⟨none, 0, 0, 2, rfl, hb⟩
set_option maxHeartbeats 4000000 in
set_option maxRecDepth 100000 in
theorem pageMoves_any (k t x : Int) (a : Option Addr) (l : List UInt8) (c : Nat) (n m : Int) (hno : a = none → c = 0) (hlc : l.length ≤ c) (hl : l.length ≤ 9223372036854775807) (w : World) (ha : BytesAt w.heap.size w a l) (hG : Given w) :
    Calls Tryd.prog 7 #[pgv k t x a l.length c, .int .i64 n, .int .i64 m] w fun e w' => e = .returned (.bool true) ∧ Below w.heap.size w w' := by
  obtain ⟨W1, hW1⟩ : ∃ W1, w.alloc (.cells #[.int .i64 k, .int .i64 t, .int .i64 x, .slice a l.length c] 25) = W1 := ⟨_, rfl⟩
  have hB1 : Below w.heap.size w W1 := hW1 ▸ (Below.refl _ _).alloc (Nat.le_refl _) _
  have hrow : W1.heap[w.heap.size]? = some (.cells #[.int .i64 k, .int .i64 t, .int .i64 x, .slice a l.length c] 25 (0, 0)) := by
    rw [← hW1]; exact heap_alloc_new w _
  have hs1 := (Array.getElem?_eq_some_iff.1 hrow).1
  have r0 := cell_of_row W1 w.heap.size 0 _ _ _ hrow
  have r1 := cell_of_row W1 w.heap.size 1 _ _ _ hrow
  have r2 := cell_of_row W1 w.heap.size 2 _ _ _ hrow
  have r3 := cell_of_row W1 w.heap.size 3 _ _ _ hrow
  simp only [List.getElem?_toArray, List.getElem?_cons_zero, List.getElem?_cons_succ] at r0 r1 r2 r3
  have HROW := Lib.hid hrow
  have hG1 := hG.below hB1
  have HK := Lib.hid (fun W (h : Below W1.heap.size W1 W) => pknown_any W (hG1.below h))
  have HB1 := Lib.hid hB1
  clear hrow
  by_cases h1 : 300 < l.length
  · have hd : decide ((300 : Int) < (l.length : Int)) = true := by simp; omega
    clear ha hG hG1 hB1
    go_enter Tryd.func7, Tryd.ntmps7
    go_wp2_with fail
    refine (HK.out W1 (Below.refl _ _)).mono ?_
    rintro e w' ⟨rfl, hb'⟩
    have HB := Lib.hid (go_on HB1.out hb')
    clear hb'
    go_wp2
    go_ret
    exact ⟨rfl, HB.out⟩
  have hd : decide ((300 : Int) < (l.length : Int)) = false := by simp; omega
  by_cases hrt : rightB k t x l.length = true
  case neg =>
    have hr2 : rightB k t x l.length = false := by simpa using hrt
    have HR := Lib.hid (fun W => raw_no n k t x a l.length c W hl (.inr hr2))
    have HR2 := Lib.hid (fun W => raw_no m k t x a l.length c W hl (.inr hr2))
    clear ha hG hG1 hrt hr2 hB1
    go_enter Tryd.func7, Tryd.ntmps7
    go_wp2_with fail
    refine (HR.out W1).mono ?_
    rintro e w2 ⟨rfl, hb2⟩
    have hrow2 := go_row HROW.out hb2
    have q0 := cell_of_row w2 w.heap.size 0 _ _ _ hrow2
    have q1 := cell_of_row w2 w.heap.size 1 _ _ _ hrow2
    have q2 := cell_of_row w2 w.heap.size 2 _ _ _ hrow2
    have q3 := cell_of_row w2 w.heap.size 3 _ _ _ hrow2
    simp only [List.getElem?_toArray, List.getElem?_cons_zero, List.getElem?_cons_succ] at q0 q1 q2 q3
    have HB2 := Lib.hid hb2
    clear hb2 hrow2 r0 r1 r2 r3 hW1
    go_wp2_with fail
    refine (HR2.out w2).mono ?_
    rintro e w3 ⟨rfl, hb3⟩
    have HB3 := Lib.hid (go_on HB2.out hb3)
    clear hb3 q0 q1 q2 q3
    go_wp2_with fail
    refine (HK.out w3 HB3.out).mono ?_
    rintro e w' ⟨rfl, hb'⟩
    have HB := Lib.hid (go_on HB1.out (go_on HB3.out hb'))
    clear hb'
    go_wp2
    go_ret
    exact ⟨rfl, HB.out⟩
  by_cases hn : numB n = true
  case neg =>
    have HR := Lib.hid (fun W => raw_no n k t x a l.length c W hl (.inl (by simpa using hn)))
    have HR2 := Lib.hid (fun W (h : Below W1.heap.size W1 W) => raw_either m k t x a l c W w.heap.size (Nat.le_trans hB1.size h.size) (ha.below (go_on hB1 h)) hno hlc hl (hG1.below h))
    clear ha hG hG1 hrt hB1 hn
    go_enter Tryd.func7, Tryd.ntmps7
    go_wp2_with fail
    refine (HR.out W1).mono ?_
    rintro e w2 ⟨rfl, hb2⟩
    have hrow2 := go_row HROW.out hb2
    have q0 := cell_of_row w2 w.heap.size 0 _ _ _ hrow2
    have q1 := cell_of_row w2 w.heap.size 1 _ _ _ hrow2
    have q2 := cell_of_row w2 w.heap.size 2 _ _ _ hrow2
    have q3 := cell_of_row w2 w.heap.size 3 _ _ _ hrow2
    simp only [List.getElem?_toArray, List.getElem?_cons_zero, List.getElem?_cons_succ] at q0 q1 q2 q3
    have HB2 := Lib.hid hb2
    clear hb2 hrow2 r0 r1 r2 r3 hW1
    go_wp2_with fail
    refine (HR2.out w2 HB2.out).mono ?_
    rintro e w3 ⟨aa, nn, cc, ev, rfl, hb3⟩
    have HB3 := Lib.hid (go_on HB2.out hb3)
    clear hb3 q0 q1 q2 q3
    go_wp2_with fail
    refine (HK.out w3 HB3.out).mono ?_
    rintro e w' ⟨rfl, hb'⟩
    have HB := Lib.hid (go_on HB1.out (go_on HB3.out hb'))
    clear hb'
    go_wp2
    go_ret
    exact ⟨rfl, HB.out⟩
  obtain ⟨p, hpo, rfl, rfl, rfl, rfl⟩ := right_pg hrt
  obtain ⟨i, hi, rfl⟩ := num_nat hn
  have HRW := Lib.hid (raw_yes i hi p hpo a c W1 w.heap.size hB1.size (ha.below hB1) hno hlc hG1.tab hG1.tabs)
  have HA := Lib.hid (And.intro ha (And.intro hno (And.intro hlc hG1)))
  clear ha hno hG hG1 hn hrt hB1
  by_cases hm : numB m = true
  case neg =>
    have HR2 := Lib.hid (fun W => raw_no m p.k p.t p.x a p.b.length c W hl (.inl (by simpa using hm)))
    clear hm
    go_enter Tryd.func7, Tryd.ntmps7
    go_wp2_with fail
    refine HRW.out.mono ?_
    rintro e w2 ⟨v2, rfl, hO2, hb2⟩
    obtain ⟨aa, ca, rfl, -⟩ := hO2.form
    have hrow2 := go_row HROW.out hb2
    have q0 := cell_of_row w2 w.heap.size 0 _ _ _ hrow2
    have q1 := cell_of_row w2 w.heap.size 1 _ _ _ hrow2
    have q2 := cell_of_row w2 w.heap.size 2 _ _ _ hrow2
    have q3 := cell_of_row w2 w.heap.size 3 _ _ _ hrow2
    simp only [List.getElem?_toArray, List.getElem?_cons_zero, List.getElem?_cons_succ] at q0 q1 q2 q3
    have HB2 := Lib.hid hb2
    clear hb2 hrow2 r0 r1 r2 r3 hW1 hO2
    go_wp2_with fail
    refine (HR2.out w2).mono ?_
    rintro e w3 ⟨rfl, hb3⟩
    have HB3 := Lib.hid (go_on HB2.out hb3)
    clear hb3 q0 q1 q2 q3
    go_wp2_with fail
    refine (HK.out w3 HB3.out).mono ?_
    rintro e w' ⟨rfl, hb'⟩
    have HB := Lib.hid (go_on HB1.out (go_on HB3.out hb'))
    clear hb'
    go_wp2
    go_ret
    exact ⟨rfl, HB.out⟩
  obtain ⟨j, hj, rfl⟩ := num_nat hm
  obtain ⟨ri, hri⟩ : ∃ r, p.raw i = r := ⟨_, rfl⟩
  obtain ⟨rj, hrj⟩ : ∃ r, p.raw j = r := ⟨_, rfl⟩
  have hlki := raw_look hpo hi
  have hlen := Pg.raw_len (n := i) hpo
  have hlenj := Pg.raw_len (n := j) hpo
  have hpe := parse_raw hpo hi j hj
  have hpe2 := parse_raw hpo hi i hi
  have hinj : ri = rj → i = j := fun e => raw_num hpo hi hj (by rw [hri, hrj, e])
  have hinj2 : i = j → ri = rj := fun e => by rw [← hri, ← hrj, e]
  rw [if_pos rfl] at hpe2
  rw [hri] at HRW hlki hlen hpe hpe2
  rw [hrj] at hlenj
  have HP := Lib.hid (And.intro hpo (And.intro hlki (And.intro hlen (And.intro hlenj (And.intro hpe (And.intro hpe2 (And.intro hinj (And.intro hinj2 (And.intro hj hrj)))))))))
  clear hlki hlen hlenj hpe hpe2 hinj hinj2 hri hm
  go_enter Tryd.func7, Tryd.ntmps7
  go_wp2_with fail
  refine HRW.out.mono ?_
  rintro e w2 ⟨v2, rfl, hO2, hb2⟩
  obtain ⟨aa, ca, rfl, hya, hla, -, hna, -⟩ := hO2.form
  rw [HP.out.2.2.1] at hla ⊢
  have hrow2 := go_row HROW.out hb2
  have q0 := cell_of_row w2 w.heap.size 0 _ _ _ hrow2
  have q1 := cell_of_row w2 w.heap.size 1 _ _ _ hrow2
  have q2 := cell_of_row w2 w.heap.size 2 _ _ _ hrow2
  have q3 := cell_of_row w2 w.heap.size 3 _ _ _ hrow2
  simp only [List.getElem?_toArray, List.getElem?_cons_zero, List.getElem?_cons_succ] at q0 q1 q2 q3
  have HO2 := Lib.hid (And.intro hya (And.intro hna (And.intro hb2 hla)))
  clear hya hna hb2 hrow2 r0 r1 r2 r3 hW1 hO2 hla HRW
  go_wp2_with fail
  have hrw2 := raw_yes j hj p hpo a c w2 w.heap.size (Nat.le_trans HB1.out.size HO2.out.2.2.1.size) (HA.out.1.below (go_on HB1.out HO2.out.2.2.1)) HA.out.2.1 HA.out.2.2.1 (HA.out.2.2.2.below HO2.out.2.2.1).tab (HA.out.2.2.2.below HO2.out.2.2.1).tabs
  rw [hrj] at hrw2
  refine hrw2.mono ?_
  rintro e w3 ⟨v3, rfl, hO3, hb3⟩
  obtain ⟨ab, cb, rfl, hyb, hlb, -, hnb, -⟩ := hO3.form
  rw [HP.out.2.2.2.1] at hlb ⊢
  have hb13 := go_on HO2.out.2.2.1 hb3
  have hya3 := HO2.out.1.below hb3
  have hpa := fun W (h : Below w3.heap.size w3 W) (n : Int) => parse_any n ri aa ca w2.heap.size (by rw [HP.out.2.2.1]; exact HO2.out.2.2.2) W (hya3.below (h.mono hb3.size)) (Nat.le_trans hb3.size h.size) HO2.out.2.1 (HA.out.2.2.2.below (go_on hb13 h)).tab (HA.out.2.2.2.below (go_on hb13 h)).tabs
  rw [HP.out.2.2.1] at hpa
  have HPA := Lib.hid hpa
  have HO3 := Lib.hid (And.intro hya3 (And.intro hyb (And.intro hb13 (And.intro hb3 hO3))))
  clear hpa hya3 hyb hnb hb13 hb3 hO3 hlb q0 q1 q2 q3 hrw2
  go_wp2_with fail
  refine (HPA.out w3 (Below.refl _ _) j).mono ?_
  rintro e w4 ⟨hb4, hpost⟩
  have hcva := fun W (h : Below w3.heap.size w3 W) => conv_at W aa ri ca w2.heap.size (HO3.out.1.below (h.mono HO3.out.2.2.2.1.size))
  have hcvb := fun W (h : Below w3.heap.size w3 W) => conv_at W ab rj cb w3.heap.size (HO3.out.2.1.below h)
  rw [HP.out.2.2.1] at hcva
  rw [HP.out.2.2.2.1] at hcvb
  by_cases hij : i = j
  · have hE0 := HP.out.2.2.2.2.1
    rw [if_pos hij] at hE0
    have hne : (ri == rj) = true := beq_iff_eq.2 (HP.out.2.2.2.2.2.2.2.1 hij)
    have hnij : ((i : Int) == (j : Int)) = true := beq_iff_eq.2 (by omega)
    rcases hpost with ⟨-, ar, cr, rfl, hO4⟩ | ⟨h, -⟩
    case inr => exact absurd hE0 h
    have hS4 : atS ri = p.b.length := by
      have h1 := (look_raw HP.out.2.1.1).2.2.2.2.2.2.2
      rw [← h1]
      exact congrArg (fun q : Pg => q.b.length) HP.out.2.1.2.1
    rw [hS4]
    obtain ⟨sz, hsz⟩ : ∃ n, p.b.length = n := ⟨_, rfl⟩
    have hsz232 : sz ≤ 232 := hsz ▸ hpo.2.2.2.2
    rw [hsz]
    obtain ⟨g, hg, rfl⟩ : ∃ g, w3.heap.size ≤ g ∧ ar = some ⟨g, 0, none⟩ := by
      rcases hO4.bytes with ⟨e, -⟩ | ⟨g, c', e, hg, -⟩
      · cases e
      · injection e with e1 e2 e3; exact ⟨g, hg, e1⟩
    obtain ⟨av, hav⟩ : ∃ av, bodyAt (some ⟨g, 0, none⟩) sz = av := ⟨_, rfl⟩
    have havp : 0 < sz → av = some ⟨g, 2, none⟩ := fun h => by rw [← hav]; unfold bodyAt; rw [if_neg (by omega)]; simp [addr_add]
    obtain ⟨k', hk'⟩ : ∃ n, atK ri = n := ⟨_, rfl⟩
    obtain ⟨t', ht'⟩ : ∃ n, wrap64 (atT ri) = n := ⟨_, rfl⟩
    obtain ⟨x', hx'⟩ : ∃ n, atX ri = n := ⟨_, rfl⟩
    rw [hav, hk', ht', hx']
    obtain ⟨V, hV⟩ : ∃ V, w4.heap.size = V := ⟨_, rfl⟩
    have hrV := heap_alloc_new w4 (.cells #[.int .i64 k', .int .i64 t', .int .i64 x', .slice av sz sz] 25)
    rw [hV] at hrV
    have hO5 := hO4.alloc (.cells #[.int .i64 k', .int .i64 t', .int .i64 x', .slice av sz sz] 25)
    have hb5 : Below w3.heap.size w3 (w4.alloc (.cells #[.int .i64 k', .int .i64 t', .int .i64 x', .slice av sz sz] 25)) := hb4.alloc hb4.size _
    have hca := hcva _ hb5
    have hcb := hcvb _ hb5
    have HAV := Lib.hid (And.intro havp hsz)
    have HX := Lib.hid (And.intro hrV (And.intro hO5 hb5))
    have HCV := Lib.hid hcva
    clear hav havp hk' ht' hx' hrV hO5 hb5 hO4 hb4 hcva hcvb hE0 hij hS4 hsz
    go_wp2_with fail
    go_loopw [13] (fun y wr => ∃ (q : Nat) (l' : List UInt8), y = .int .i64 q ∧ q ≤ sz ∧ OwnB wr w3.heap.size (.slice (some ⟨g, 0, none⟩) 234 cr) l' ∧ l'.length = 234 ∧ wr.heap[V]? = some (.cells #[.int .i64 k', .int .i64 t', .int .i64 x', .slice av sz sz] 25 (0, 0)) ∧ Below w3.heap.size w3 wr) (fun y _ => sz - (intOf y).toNat)
    case atStart => exact ⟨0, _, rfl, Nat.zero_le _, HX.out.2.1, by rw [List.length_drop, HP.out.2.2.1], HX.out.1, HX.out.2.2⟩
    case round =>
      obtain ⟨q, l', rfl, hq, hO, hl', hr, hB⟩ := hrel
      by_cases hlt : q < sz
      · have hav := HAV.out.1 (by omega)
        subst hav
        have hc3 := cell_of_row wr V 3 _ _ _ hr
        simp only [List.getElem?_toArray, List.getElem?_cons_zero, List.getElem?_cons_succ] at hc3
        obtain ⟨X, hX⟩ : ∃ X, l'[2 + q]?.getD 0 = X := ⟨_, rfl⟩
        have hcell : wr.cell? ⟨g, 2 + q, none⟩ = some (.int .u8 (X.toNat : Int)) ∧ wr.frozen? ⟨g, 2 + q, none⟩ = false := by
          rcases hO.bytes with ⟨e, -⟩ | ⟨g', c', e, -, -, -, -, -, hcc⟩
          · cases e
          · injection e with e1 e2 e3
            cases e1
            rw [← hX]; exact hcc (2 + q) (by omega)
        obtain ⟨hcl, hfr⟩ := hcell
        have hset := hO.set (2 + q) (UInt8.ofNat (X.toNat + 1))
        rw [bumped] at hset
        have hgr := set_grown wr ⟨g, 2 + q, none⟩ (.int .u8 (((X.toNat : Int) + 1) % 256))
        have hVg : V ≠ g := fun e => by
          obtain ⟨cs', hc⟩ := own_block hO g rfl
          rw [← e, hr] at hc
          injection hc with hc; injection hc with _ hc _
          exact absurd hc (by decide)
        have hr2 := (hgr.block V (Array.getElem?_eq_some_iff.1 hr).1 (by simp [hVg])).trans hr
        have hB2 := hB.setCell (p := ⟨g, 2 + q, none⟩) hg (.int .u8 (((X.toNat : Int) + 1) % 256))
        have hX8 := UInt8.toNat_lt X
        have hql : (q : Int) < (sz : Int) := by omega
        have HS := Lib.hid (And.intro hset (And.intro hr2 hB2))
        clear hset hr2 hB2 hgr hr hO hB hX hca hcb
        go_wp2
        exact ⟨⟨q + 1, _, by rw [show ((q + 1 : Nat) : Int) = (q : Int) + 1 by omega], hlt, HS.out.1, by rw [List.length_set]; exact hl', HS.out.2.1, HS.out.2.2⟩, by simp only [intOf]; omega⟩
      · obtain rfl : q = sz := by omega
        have hql : ¬ ((q : Int) < (q : Int)) := by omega
        have hc3 := cell_of_row wr V 3 _ _ _ hr
        simp only [List.getElem?_toArray, List.getElem?_cons_zero, List.getElem?_cons_succ] at hc3
        have HB := Lib.hid hB
        clear hr hO hB hca hcb
        go_wp2_with fail
        refine (HPA.out wr HB.out i).mono ?_
        rintro e w6 ⟨hb6, ⟨-, ar2, c6, rfl, hO6⟩ | ⟨h, -⟩⟩
        case inr => exact absurd HP.out.2.2.2.2.2.1 h
        have eK : atK ri = p.k := congrArg Pg.k HP.out.2.1.2.1
        have eT : wrap64 (atT ri : Int) = p.t := by rw [show atT ri = p.t from congrArg Pg.t HP.out.2.1.2.1]; exact wrap_small hpo.2.2.1
        have eX : atX ri = p.x := congrArg Pg.x HP.out.2.1.2.1
        have eB : atB ri = p.b := congrArg Pg.b HP.out.2.1.2.1
        have eS : atS ri = p.b.length := by rw [← eB]; exact (look_raw HP.out.2.1.1).2.2.2.2.2.2.2.symm
        rw [eK, eT, eX, eS]
        have hbo : BytesAt w6.heap.size w6 (bodyAt ar2 p.b.length) p.b := by
          obtain ⟨a', c', e, h, -⟩ := hO6.isBs
          injection e with e1 e2 e3
          subst e1
          have h2 := body_at (size := p.b.length) h (by rw [List.length_drop, HP.out.2.2.1]; have := hpo.2.2.2.2; omega)
          rwa [List.drop_drop, ← eS, show (ri.drop (22 + 2)).take (atS ri) = p.b from eB, eS] at h2
        have hrow6 := go_row HROW.out (go_on HO3.out.2.2.1 (go_on HB.out hb6))
        have q0 := cell_of_row w6 w.heap.size 0 _ _ _ hrow6
        have q1 := cell_of_row w6 w.heap.size 1 _ _ _ hrow6
        have q2 := cell_of_row w6 w.heap.size 2 _ _ _ hrow6
        have q3 := cell_of_row w6 w.heap.size 3 _ _ _ hrow6
        simp only [List.getElem?_toArray, List.getElem?_cons_zero, List.getElem?_cons_succ] at q0 q1 q2 q3
        have hlt6 := (Array.getElem?_eq_some_iff.1 hrow6).1
        obtain ⟨av2, hav2⟩ : ∃ v, bodyAt ar2 p.b.length = v := ⟨_, rfl⟩
        rw [hav2] at hbo ⊢
        have hal : ∀ o, Below w3.heap.size w3 (w6.alloc o) := fun o => go_new (go_on HB.out hb6) o
        have hsm := fun o => rsame_any (w6.alloc o) w6.heap.size (by simp) p.k p.t p.x av2 p.b p.b.length p.k p.t p.x a p.b c (hbo.below ((Below.refl _ _).alloc (Nat.le_refl _) o)) ((HA.out.1.below (go_on HB1.out (go_on HO3.out.2.2.1 (hal o)))).mono (Nat.le_of_lt hlt6))
        rw [sameB_refl] at hsm
        have HSM := Lib.hid hsm
        have HAL := Lib.hid hal
        clear hsm hal hbo hO6 hb6 hrow6 hav2 eK eT eX eB eS
        go_wp2_with fail
        refine (HSM.out _).mono ?_
        rintro e w7 ⟨rfl, hb7⟩
        have HB7 := Lib.hid (go_on HO3.out.2.2.1 (go_on (HAL.out _) hb7))
        clear hb7 q0 q1 q2 q3
        go_wp2_with fail
        refine (HK.out w7 HB7.out).mono ?_
        rintro e w8 ⟨rfl, hb8⟩
        have HB8 := Lib.hid (go_on HB1.out (go_on HB7.out hb8))
        clear hb8
        go_wp2
        go_ret
        exact ⟨rfl, HB8.out⟩
  · have hE1 := HP.out.2.2.2.2.1
    rw [if_neg hij] at hE1
    have hne : (ri == rj) = false := beq_eq_false_iff_ne.2 (fun e => hij (HP.out.2.2.2.2.2.2.1 e))
    have hnij : ((i : Int) == (j : Int)) = false := beq_eq_false_iff_ne.2 (by omega)
    rcases hpost with ⟨h, -⟩ | ⟨-, rfl⟩
    · rw [hE1] at h; cases h
    rw [hE1]
    have hb5 : Below w3.heap.size w3 (w4.alloc (.cells #[.int .i64 0, .int .i64 0, .int .i64 0, .slice none 0 0] 25)) := hb4.alloc hb4.size _
    have hca := hcva _ hb5
    have hcb := hcvb _ hb5
    have HB5 := Lib.hid hb5
    clear hb5 hb4 hcva hcvb hE1 hij
    go_wp2_with fail
    obtain ⟨wr, hwr⟩ : ∃ wr, w4.alloc (.cells #[.int .i64 0, .int .i64 0, .int .i64 0, .slice none 0 0] 25) = wr := ⟨_, rfl⟩
    have hc3 : wr.cell? ⟨w4.heap.size, 3, none⟩ = some (.slice none 0 0) := by
      rw [← hwr]
      exact cell_of_row _ w4.heap.size 3 _ _ _ (heap_alloc_new w4 _)
    have HB : Hid (Below w3.heap.size w3 wr) := by rw [← hwr]; exact HB5.out
    rw [hwr]
    clear hca hcb hwr HB5
    refine wp_loop_rounds 1 ?_
    rw [rounds_succ]
    go_wp2_with fail
    refine (HPA.out wr HB.out i).mono ?_
    rintro e w6 ⟨hb6, ⟨-, ar2, c6, rfl, hO6⟩ | ⟨h, -⟩⟩
    case inr => exact absurd HP.out.2.2.2.2.2.1 h
    have eK : atK ri = p.k := congrArg Pg.k HP.out.2.1.2.1
    have eT : wrap64 (atT ri : Int) = p.t := by rw [show atT ri = p.t from congrArg Pg.t HP.out.2.1.2.1]; exact wrap_small hpo.2.2.1
    have eX : atX ri = p.x := congrArg Pg.x HP.out.2.1.2.1
    have eB : atB ri = p.b := congrArg Pg.b HP.out.2.1.2.1
    have eS : atS ri = p.b.length := by rw [← eB]; exact (look_raw HP.out.2.1.1).2.2.2.2.2.2.2.symm
    rw [eK, eT, eX, eS]
    have hbo : BytesAt w6.heap.size w6 (bodyAt ar2 p.b.length) p.b := by
      obtain ⟨a', c', e, h, -⟩ := hO6.isBs
      injection e with e1 e2 e3
      subst e1
      have h2 := body_at (size := p.b.length) h (by rw [List.length_drop, HP.out.2.2.1]; have := hpo.2.2.2.2; omega)
      rwa [List.drop_drop, ← eS, show (ri.drop (22 + 2)).take (atS ri) = p.b from eB, eS] at h2
    have hrow6 := go_row HROW.out (go_on HO3.out.2.2.1 (go_on HB.out hb6))
    have q0 := cell_of_row w6 w.heap.size 0 _ _ _ hrow6
    have q1 := cell_of_row w6 w.heap.size 1 _ _ _ hrow6
    have q2 := cell_of_row w6 w.heap.size 2 _ _ _ hrow6
    have q3 := cell_of_row w6 w.heap.size 3 _ _ _ hrow6
    simp only [List.getElem?_toArray, List.getElem?_cons_zero, List.getElem?_cons_succ] at q0 q1 q2 q3
    have hlt6 := (Array.getElem?_eq_some_iff.1 hrow6).1
    obtain ⟨av2, hav2⟩ : ∃ v, bodyAt ar2 p.b.length = v := ⟨_, rfl⟩
    rw [hav2] at hbo ⊢
    have hal : ∀ o, Below w3.heap.size w3 (w6.alloc o) := fun o => go_new (go_on HB.out hb6) o
    have hsm := fun o => rsame_any (w6.alloc o) w6.heap.size (by simp) p.k p.t p.x av2 p.b p.b.length p.k p.t p.x a p.b c (hbo.below ((Below.refl _ _).alloc (Nat.le_refl _) o)) ((HA.out.1.below (go_on HB1.out (go_on HO3.out.2.2.1 (hal o)))).mono (Nat.le_of_lt hlt6))
    rw [sameB_refl] at hsm
    have HSM := Lib.hid hsm
    have HAL := Lib.hid hal
    clear hsm hal hbo hO6 hb6 hrow6 hav2 eK eT eX eB eS
    go_wp2_with fail
    refine (HSM.out _).mono ?_
    rintro e w7 ⟨rfl, hb7⟩
    have HB7 := Lib.hid (go_on HO3.out.2.2.1 (go_on (HAL.out _) hb7))
    clear hb7 q0 q1 q2 q3
    go_wp2_with fail
    refine (HK.out w7 HB7.out).mono ?_
    rintro e w8 ⟨rfl, hb8⟩
    have HB8 := Lib.hid (go_on HB1.out (go_on HB7.out hb8))
    clear hb8
    go_wp2
    go_ret
    exact ⟨rfl, HB8.out⟩
end Go.Proofs.YtjfpgclaefbhjaaDoor
