/- Layer 3: the law that what was written is read. -/
import Derived.StillTailTactics
import Derived.Deep.CutBlock
import Derived.Deep.DeepCutAuto
import Derived.Test.YtdmgemimbbhbiaaRegOps
import Derived.Test.YtdmgemimbbhbiaaWireFew
import Derived.Test.YtdmgemimbbhbiaaWireCutsP
namespace Go.Proofs.Ytdmgemimbbhbiaa
open Go.RowKit

/-- A part's bytes. -/
def ptB (p : PtV) : List UInt8 := if p.kind = 1 then laidB p.n p.bytes.toNat p.bytes.toNat else if p.kind = 2 then textB p.text else [if 0 < p.n then 1 else 0]
structure PtFine (p : PtV) : Prop where
  num : p.kind = 1 → 1 ≤ p.bytes ∧ p.bytes ≤ 8 ∧ p.n < 2 ^ (8 * p.bytes.toNat)
  text : p.kind = 2 → p.text.size ≤ 65535
def ptsB (ws : List PtV) : List UInt8 := ws.flatMap ptB
/-- What writing a part answers, and the bytes behind it. -/
def wPt (l : List UInt8) (p : PtV) : Nat × List UInt8 := if p.kind = 1 then wNum l p.n p.bytes else if p.kind = 2 then wTextS l p.text else wTruth l (decide (0 < p.n))
theorem wPt_done {l : List UInt8} {p : PtV} (h : (wPt l p).1 = 0) : PtFine p ∧ (wPt l p).2 = l ++ ptB p := by
  unfold wPt at h ⊢
  by_cases h1 : p.kind = 1
  · rw [if_pos h1] at h ⊢
    unfold wNum at h ⊢
    by_cases h2 : p.bytes < 1 ∨ 8 < p.bytes ∨ 2 ^ (8 * p.bytes.toNat) ≤ p.n
    · rw [if_pos h2] at h; cases h
    · rw [if_neg h2] at h ⊢
      by_cases h3 : 65536 < l.length + p.bytes.toNat
      · rw [if_pos h3] at h; cases h
      · rw [if_neg h3]
        refine ⟨⟨fun _ => by omega, fun h => by omega⟩, ?_⟩
        unfold ptB; rw [if_pos h1]
  · rw [if_neg h1] at h ⊢
    by_cases h2 : p.kind = 2
    · rw [if_pos h2] at h ⊢
      unfold wTextS at h ⊢
      by_cases h3 : 65536 < l.length + 2 + p.text.size
      · rw [if_pos h3] at h; cases h
      · rw [if_neg h3]
        refine ⟨⟨fun h => absurd h h1, fun _ => by omega⟩, ?_⟩
        unfold ptB; rw [if_neg h1, if_pos h2]; rfl
    · rw [if_neg h2] at h ⊢
      unfold wTruth at h ⊢
      by_cases h3 : 65536 < l.length + 1
      · rw [if_pos h3] at h; cases h
      · rw [if_neg h3]
        refine ⟨⟨fun h => absurd h h1, fun h => absurd h h2⟩, ?_⟩
        unfold ptB; rw [if_neg h1, if_neg h2]
        by_cases h4 : 0 < p.n <;> simp [h4]
theorem wPt_not {l : List UInt8} {p : PtV} (h : (wPt l p).1 ≠ 0) : (wPt l p).2 = l := by
  unfold wPt at h ⊢
  by_cases h1 : p.kind = 1
  · rw [if_pos h1] at h ⊢
    unfold wNum at h ⊢
    split
    · rfl
    · rename_i h2
      rw [if_neg h2] at h
      split
      · rfl
      · rename_i h3
        rw [if_neg h3] at h; exact absurd rfl h
  · rw [if_neg h1] at h ⊢
    by_cases h2 : p.kind = 2
    · rw [if_pos h2] at h ⊢
      unfold wTextS at h ⊢
      split
      · rfl
      · rename_i h3
        rw [if_neg h3] at h; exact absurd rfl h
    · rw [if_neg h2] at h ⊢
      unfold wTruth at h ⊢
      split
      · rfl
      · rename_i h3
        rw [if_neg h3] at h; exact absurd rfl h
theorem wPt_small (l : List UInt8) (p : PtV) : (wPt l p).1 = 0 ∨ (wPt l p).1 = 2 ∨ (wPt l p).1 = 3 := by
  unfold wPt wNum wTextS wTruth
  split
  · split
    · simp
    · split <;> simp
  · split
    · split <;> simp
    · split <;> simp
/-- What was written is read. -/
theorem rPt_num {p : PtV} (hf : PtFine p) (hk : p.kind = 1) (t : List UInt8) : rNum (ptB p ++ t) p.bytes = (p.n, 0, t) := by
  obtain ⟨h1, h2, h3⟩ := hf.num hk
  obtain ⟨m, hm⟩ : ∃ m : Nat, p.bytes = m := ⟨p.bytes.toNat, by omega⟩
  have e1 : ptB p = laidB p.n m m := by unfold ptB; rw [if_pos hk, hm, Int.toNat_natCast]
  rw [hm, Int.toNat_natCast] at h3
  rw [e1, hm]
  unfold rNum
  rw [if_neg (by omega), Int.toNat_natCast, if_neg (by rw [List.length_append, laidB_len]; omega), take_laid, drop_laid, numOf_whole (by rw [show 256 ^ m = 2 ^ (8 * m) by rw [Nat.pow_mul]]; exact h3)]
theorem rPt_text {p : PtV} (hf : PtFine p) (hk : p.kind = 2) (t : List UInt8) : rText (ptB p ++ t) = (p.text.data.toList, 0, t) := by
  have e1 : ptB p = textB p.text := by unfold ptB; rw [if_neg (by omega), if_pos hk]
  rw [e1]
  exact rText_text p.text (hf.text hk) t
theorem rPt_truth {p : PtV} (h1 : p.kind ≠ 1) (h2 : p.kind ≠ 2) (t : List UInt8) : rTruth (ptB p ++ t) = (decide (0 < p.n), 0, t) := by
  have e1 : ptB p = [if 0 < p.n then 1 else 0] := by unfold ptB; rw [if_neg h1, if_neg h2]
  rw [e1]
  unfold rTruth
  by_cases h : 0 < p.n
  · rw [if_pos h]; simp [numOf, h]
  · rw [if_neg h]; simp [numOf, h]

/-- What holds at the head of the first loop. -/
structure Back1 (w : World) (B : Nat) (v u : Value) (ws : List PtV) (k : Nat) (wr : World) : Prop where
  wri : IsWr w.heap.size wr B v (ptsB ws)
  row : OwnP wr w.heap.size u ws
  fine : ∀ p ∈ ws, PtFine p ∧ PtOk p
  few : ws.length ≤ k
  bel : Below w.heap.size w wr

set_option maxRecDepth 100000 in
set_option maxHeartbeats 8000000 in
theorem wireBack_any (a : Option Addr) (L : List PtV) (cap : Nat) (hLl : L.length ≤ 9223372036854775807) (w : World) (hm : PtsAt w.heap.size w a L) :
    Calls Try.prog 11 #[.slice a L.length cap] w fun e w' => e = .returned (.bool true) ∧ Below w.heap.size w w' := by
  have HK := Lib.hid wknown_any
  have HF := Lib.hid (few30_any a L cap hLl w hm)
  have HM := Lib.hid hm
  clear hm
  go_enter Try.func11, Try.ntmps11
  go_wp2_with (first
    | (go_at_call 34; refine HF.out.mono ?_; rintro e w' ⟨b, rfl, rfl, hfew⟩; have HFW := Lib.hid hfew; clear hfew; cases b)
    | (go_at_call 35; refine (HK.out _).mono ?_; rintro e w2 ⟨rfl, hb⟩)
    | (go_at_call 36; refine (newWriter_any _).mono ?_; rintro e w1 ⟨rfl, hW1, hb1⟩))
  · go_ret
    exact ⟨rfl, hb⟩
  · have h30 : L.length ≤ 30 := HFW.out trivial
    clear HFW HF
    go_loopw [4, 5] (fun u y wr => ∃ (k : Nat) (v : Value) (ws : List PtV), y = .int .i64 k ∧ k ≤ L.length ∧ Back1 w w.heap.size v u ws k wr)
      (fun _ y _ => L.length - (intOf y).toNat)
    case atStart => exact ⟨0, _, [], rfl, Nat.zero_le _, ⟨hW1, OwnP.nil _ _, (fun p hp => by cases hp), Nat.le_refl _, hb1⟩⟩
    case round =>
      clear hW1 hb1
      obtain ⟨k, v, ws, rfl, hk, hC⟩ := hrel
      by_cases hlt : k < L.length
      · obtain ⟨b, off, rfl, hbw, hcs⟩ := HM.out (by rintro rfl; simp at hlt)
        obtain ⟨hp, hok⟩ := hcs k hlt
        obtain ⟨p, hpe⟩ : ∃ p, L.getD k default = p := ⟨_, rfl⟩
        rw [hpe] at hp hok
        have hp2 := hp.below hC.bel hbw
        have hkL : (k : Int) < (L.length : Int) := by omega
        have HP := Lib.hid hp2
        obtain ⟨c0, c1, c2, c3⟩ := hp2
        obtain ⟨K, hK⟩ : ∃ K, p.kind = K := ⟨_, rfl⟩
        obtain ⟨Z, hZ⟩ : ∃ Z, p.bytes = Z := ⟨_, rfl⟩
        obtain ⟨N, hN⟩ : ∃ N, p.n = N := ⟨_, rfl⟩
        obtain ⟨s, hs⟩ : ∃ s, p.text = s := ⟨_, rfl⟩
        rw [hK] at c0
        rw [hN] at c1
        rw [hZ] at c2
        rw [hs] at c3
        have HLO := Lib.hid hok
        clear hcs hpe hok hp
        obtain ⟨r, hr⟩ : ∃ r, wPt (ptsB ws) p = r := ⟨_, rfl⟩
        go_upto_block 2 with fail
        go_cut [6] (fun x wx => x = .int .i64 r.1 ∧ ∃ v', IsWr w.heap.size wx w.heap.size v' r.2 ∧ Goes2 wr wx w.heap.size v v')
        case first =>
          by_cases hK1 : K = 1
          · subst hK1
            have e0 : wNum (ptsB ws) N Z = r := by rw [← hr, ← hN, ← hZ]; unfold wPt; rw [if_pos hK]
            have E0 := Lib.hid e0
            clear e0
            go_wp2_with fail
            go_still_tail 11, (by kernel_rfl)
            change wpList _ _ _ _ _ wr.drew
            have hWd := hC.wri.below ((Below.refl wr.heap.size wr).drew)
            go_wp2_with (go_at_call 38; refine (wnum_any hWd N Z).mono ?_; rw [E0.out]; rintro e w6 ⟨rfl, v6, hW6, hg6⟩)
            go_meet
            case rel => exact ⟨rfl, v6, hW6, ⟨hg6.os, hg6.tape, hg6.output, hg6.size, hg6.block, hg6.near⟩⟩
          · have hk1 : (K == 1) = false := by simpa using hK1
            by_cases hK2 : K = 2
            · subst hK2
              have e0 : wTextS (ptsB ws) s = r := by rw [← hr, ← hs]; unfold wPt; rw [if_neg (by omega), if_pos hK]
              have E0 := Lib.hid e0
              have hsl : s.size ≤ 9223372036854775807 := by rw [← hs]; exact HLO.out.text
              clear e0
              go_wp2_with (go_at_call 40; refine (wtext_any hC.wri s hsl).mono ?_; rw [E0.out]; rintro e w6 ⟨rfl, v6, hW6, hg6⟩)
              go_meet
              case rel => exact ⟨rfl, v6, hW6, hg6⟩
            · have hk2 : (K == 2) = false := by simpa using hK2
              have e0 : wTruth (ptsB ws) (decide (0 < N)) = r := by rw [← hr, ← hN]; unfold wPt; rw [if_neg (by omega), if_neg (by omega)]
              have E0 := Lib.hid e0
              have hnn : decide ((0 : Int) < (N : Int)) = decide (0 < N) := decide_eq_decide.2 (by omega)
              clear e0
              by_cases h0 : 0 < N
              · have hd0 : decide ((0 : Int) < (N : Int)) = true := decide_eq_true (by omega)
                have hd1 : decide (0 < N) = true := decide_eq_true h0
                rw [hd1] at E0
                go_wp2_with (go_at_call 41; refine (wtruth_any hC.wri true).mono ?_; rw [E0.out]; rintro e w6 ⟨rfl, v6, hW6, hg6⟩)
                go_meet
                case rel => exact ⟨rfl, v6, hW6, hg6⟩
              · have hd0 : decide ((0 : Int) < (N : Int)) = false := decide_eq_false (by omega)
                have hd1 : decide (0 < N) = false := decide_eq_false h0
                rw [hd1] at E0
                go_wp2_with (go_at_call 41; refine (wtruth_any hC.wri false).mono ?_; rw [E0.out]; rintro e w6 ⟨rfl, v6, hW6, hg6⟩)
                go_meet
                case rel => exact ⟨rfl, v6, hW6, hg6⟩
        case rest =>
          obtain ⟨rfl, v6, hW6, hg6⟩ := hcut
          have hb6 := hg6.below hC.bel.size hC.wri.lo hC.wri.own.block
          have hB6 := hC.bel.trans hb6
          have hrow := hC.row.kept2 hC.wri hg6
          have hp6 := HP.out.below hb6 hbw
          have hP6 := Lib.hid hp6
          obtain ⟨d0, d1, d2, d3⟩ := hp6
          rw [hK] at d0
          rw [hN] at d1
          rw [hZ] at d2
          rw [hs] at d3
          by_cases hr0 : r.1 = 0
          · have hd : ((r.1 : Int) == 0) = true := by rw [hr0]; rfl
            have hdone := wPt_done (l := ptsB ws) (p := p) (by rw [hr]; exact hr0)
            rw [hr] at hdone
            have hnew : PtAt (wc.alloc (.cells #[.int .i64 K, .int .u64 N, .int .i64 Z, .string s] 75)) wc.heap.size 0 p := by
              have hh := heap_alloc_new wc (.cells #[.int .i64 K, .int .u64 N, .int .i64 Z, .string s] 75)
              refine ⟨?_, ?_, ?_, ?_⟩
              · rw [cell_of_row _ _ 0 _ _ _ hh, hK]; rfl
              · rw [cell_of_row _ _ 1 _ _ _ hh, hN]; rfl
              · rw [cell_of_row _ _ 2 _ _ _ hh, hZ]; rfl
              · rw [cell_of_row _ _ 3 _ _ _ hh, hs]; rfl
            have hbA : Below wc.heap.size wc (wc.alloc (.cells #[.int .i64 K, .int .u64 N, .int .i64 Z, .string s] 75)) := (Below.refl _ _).alloc (Nat.le_refl _) _
            have hrowA := hrow.below hbA
            have hWA := hW6.below hbA
            have hlw : ws.length ≤ 1000000 := by have := hC.few; omega
            have hbs : w.heap.size ≤ (wc.alloc (.cells #[.int .i64 K, .int .u64 N, .int .i64 Z, .string s] 75)).heap.size := Nat.le_trans hB6.size hbA.size
            have HD := Lib.hid hdone
            have HWA := Lib.hid hWA
            have HBA := Lib.hid hbA
            have HC := Lib.hid hC
            clear hdone hWA hC hrow c0 c1 c2 c3 hbA
            go_wp2_with (at_builtin; refine wpList_append_part rfl _ _ rfl w.heap.size _ ws rfl hrowA wc.heap.size 1 p rfl hnew hlw hbs ?_; intro u7 w7 hrow7 hg7)
            have hg7' : (wc.alloc (.cells #[.int .i64 K, .int .u64 N, .int .i64 Z, .string s] 75)).grownBy w7 u4.ownBlock := hg7
            have hW7 := HWA.out.keptP hrowA hg7'
            have hB7 := (hB6.trans (HBA.out.mono hB6.size)).grown hg7' hbs (fun j hj => (World.ownsRow.lt hrowA j hj).1)
            have hsn : ptsB (ws ++ [p]) = ptsB ws ++ ptB p := by simp [ptsB]
            rw [HD.out.2, ← hsn] at hW7
            exact ⟨⟨k + 1, v6, ws ++ [p], by rw [show ((k + 1 : Nat) : Int) = (k : Int) + 1 by omega], hlt, ⟨hW7, hrow7, (fun q hq => by
              rcases List.mem_append.1 hq with h | h
              · exact HC.out.fine q h
              · obtain rfl : q = p := by simpa using h
                exact ⟨HD.out.1, HLO.out⟩), by have := HC.out.few; rw [List.length_append, List.length_singleton]; omega, hB7⟩⟩, by simp only [intOf]; omega⟩
          · have hd : ((r.1 : Int) == 0) = false := by simp [hr0]
            have hnot := wPt_not (l := ptsB ws) (p := p) (by rw [hr]; exact hr0)
            rw [hr] at hnot
            rw [hnot] at hW6
            have HC := Lib.hid hC
            clear hC
            go_wp2
            exact ⟨⟨k + 1, v6, ws, by rw [show ((k + 1 : Nat) : Int) = (k : Int) + 1 by omega], hlt, ⟨hW6, hrow, HC.out.fine, Nat.le_succ_of_le HC.out.few, hB6⟩⟩, by simp only [intOf]; omega⟩
      · obtain rfl : k = L.length := by omega
        have hkL : ¬ ((L.length : Int) < (L.length : Int)) := by omega
        obtain ⟨ag, cg, hu, hat⟩ := hC.row.form
        subst hu
        have hW := hC.wri
        have HB := Lib.hid hC.bel
        have HFI := Lib.hid hC.fine
        have HAT := Lib.hid hat
        have hws : ws.length ≤ 30 := by have := hC.few; omega
        have HLE := Lib.hid hC.wri.len
        clear hC hat
        go_wp2_with (first
          | (go_at_call 42; refine (wbytes_any hW).mono ?_; rintro e w4 ⟨x, rfl, hO4, hb4⟩; obtain ⟨ax, cx, hx, hm4, hle4, -, hno4, -⟩ := hO4.form; have HNO := Lib.hid hno4; clear hno4; subst hx)
          | (go_at_call 44; refine (newReader_any w4 ax (ptsB ws) cx _ hm4 HNO.out hle4 (by have := HLE.out; omega)).mono ?_; rintro e w5 ⟨R, rfl, hR5, hb5⟩))
        have B4 := HB.out.trans (hb4.mono HB.out.size)
        have B5 := Lib.hid (B4.trans (hb5.mono B4.size))
        have S4 := Lib.hid B4.size
        have S0 := Lib.hid hb4.size
        have S5 := Lib.hid hb5.size
        have hb45 := hb4.trans (hb5.mono hb4.size)
        have HB45 := Lib.hid hb45
        clear hm4 hle4 HNO hO4 hb4 hW hb5 B4 hb45
        go_loopw [8] (fun y wq => ∃ k : Nat, y = .int .i64 k ∧ k ≤ ws.length ∧ IsRd w4.heap.size wq R (ptsB (ws.drop k)) ∧ Below w4.heap.size w5 wq)
          (fun y _ => ws.length - (intOf y).toNat)
        case atStart => exact ⟨0, rfl, Nat.zero_le _, hR5, Below.refl _ _⟩
        case round =>
          clear hR5
          obtain ⟨k, rfl, hk, hRk, hbk⟩ := hrel
          by_cases hlt : k < ws.length
          · obtain ⟨g, rfl, hgl, hgu, hcs⟩ := HAT.out (by rintro rfl; simp at hlt)
            have hp := hcs k hlt
            obtain ⟨p, hpe⟩ : ∃ p, ws.getD k default = p := ⟨_, rfl⟩
            have hdr : ptsB (ws.drop k) = ptB p ++ ptsB (ws.drop (k + 1)) := by
              rw [drop_cons (d := default) hlt, hpe]; simp [ptsB]
            have hpm : p ∈ ws := by rw [← hpe]; simp [List.getD, hlt]
            obtain ⟨hfi, hok⟩ := HFI.out p hpm
            rw [hpe] at hp
            have hp2 := hp.below HB45.out hgu
            have hgw4 : g < w4.heap.size := Nat.lt_of_lt_of_le hgu S0.out
            have hp3 := hp2.below hbk hgw4
            have hkL : (k : Int) < (ws.length : Int) := by omega
            obtain ⟨c0, c1, c2, c3⟩ := hp3
            obtain ⟨t, ht⟩ : ∃ t, ptsB (ws.drop (k + 1)) = t := ⟨_, rfl⟩
            rw [hdr, ht] at hRk
            obtain ⟨K, hK⟩ : ∃ K, p.kind = K := ⟨_, rfl⟩
            obtain ⟨Z, hZ⟩ : ∃ Z, p.bytes = Z := ⟨_, rfl⟩
            obtain ⟨N, hN⟩ : ∃ N, p.n = N := ⟨_, rfl⟩
            obtain ⟨s, hs⟩ : ∃ s, p.text = s := ⟨_, rfl⟩
            rw [hK] at c0
            rw [hN] at c1
            rw [hZ] at c2
            rw [hs] at c3
            have hS4 : w4.heap.size ≤ wr.heap.size := Nat.le_trans S5.out hbk.size
            have hbA : Below w4.heap.size wr (wr.alloc (.cells #[.int .i64 K, .int .u64 N, .int .i64 Z, .string s] 75)) := (Below.refl _ wr).alloc hS4 _
            have hA := hRk.below ((Below.refl wr.heap.size wr).alloc (Nat.le_refl _) (.cells #[.int .i64 K, .int .u64 N, .int .i64 Z, .string s] 75))
            have hh := heap_alloc_new wr (.cells #[.int .i64 K, .int .u64 N, .int .i64 Z, .string s] 75)
            have hx : (wr.alloc (.cells #[.int .i64 K, .int .u64 N, .int .i64 Z, .string s] 75)).cell? ⟨wr.heap.size, 1, none⟩ = some (.int .u64 N) ∧ (wr.alloc (.cells #[.int .i64 K, .int .u64 N, .int .i64 Z, .string s] 75)).cell? ⟨wr.heap.size, 2, none⟩ = some (.int .i64 Z) ∧ (wr.alloc (.cells #[.int .i64 K, .int .u64 N, .int .i64 Z, .string s] 75)).cell? ⟨wr.heap.size, 3, none⟩ = some (.string s) :=
              ⟨cell_of_row _ _ 1 _ _ _ hh, cell_of_row _ _ 2 _ _ _ hh, cell_of_row _ _ 3 _ _ _ hh⟩
            have hne : some wr.heap.size ≠ some R := fun e => by have := hRk.lt; have e2 := Option.some.inj e; omega
            have HX := Lib.hid hx
            have HNE := Lib.hid hne
            have HA := Lib.hid hA
            have HBA := Lib.hid hbA
            have HT := Lib.hid ht
            clear hcs hpe hdr hx hne hA hbA hh ht hp hp2 hRk
            by_cases hK1 : K = 1
            · subst hK1
              have e0 := rPt_num hfi hK t
              rw [hZ, hN] at e0
              have E0 := Lib.hid e0
              clear e0 hfi hok
              as_aux_lemma =>
                go_wp2_with (go_at_call 45; refine (rnum_any HA.out Z).mono ?_; rw [E0.out]; dsimp only; rintro e w6 ⟨rfl, hR6, hg6⟩; have B6 := HBA.out.trans (rd_below HA.out hg6); have x1 := hg6.cell HX.out.1 HNE.out; have x2 := hg6.cell HX.out.2.1 HNE.out; have x3 := hg6.cell HX.out.2.2 HNE.out; clear hg6)
                exact ⟨⟨k + 1, by rw [show ((k + 1 : Nat) : Int) = (k : Int) + 1 by omega], hlt, by rw [HT.out]; exact hR6, hbk.trans B6⟩, by simp only [intOf]; omega⟩
            · have hk1 : (K == 1) = false := by simpa using hK1
              by_cases hK2 : K = 2
              · subst hK2
                have e0 := rPt_text hfi hK t
                rw [hs] at e0
                have E0 := Lib.hid e0
                clear e0 hfi hok
                as_aux_lemma =>
                  go_wp2_with (go_at_call 47; refine (rtext_any HA.out).mono ?_; rw [E0.out]; dsimp only; rw [bytes_back]; rintro e w6 ⟨rfl, hR6, hg6⟩; have B6 := HBA.out.trans (rd_below HA.out hg6); have x1 := hg6.cell HX.out.1 HNE.out; have x2 := hg6.cell HX.out.2.1 HNE.out; have x3 := hg6.cell HX.out.2.2 HNE.out; clear hg6)
                  exact ⟨⟨k + 1, by rw [show ((k + 1 : Nat) : Int) = (k : Int) + 1 by omega], hlt, by rw [HT.out]; exact hR6, hbk.trans B6⟩, by simp only [intOf]; omega⟩
              · have hk2 : (K == 2) = false := by simpa using hK2
                have e0 := rPt_truth (by rw [hK]; exact hK1) (by rw [hK]; exact hK2) t
                rw [hN] at e0
                by_cases h0 : 0 < N
                · have hd0 : decide ((0 : Int) < (N : Int)) = true := decide_eq_true (by omega)
                  rw [decide_eq_true h0] at e0
                  have E0 := Lib.hid e0
                  clear e0 hfi hok
                  as_aux_lemma =>
                    go_wp2_with (go_at_call 48; refine (rtruth_any HA.out).mono ?_; rw [E0.out]; dsimp only; rintro e w6 ⟨rfl, hR6, hg6⟩; have B6 := HBA.out.trans (rd_below HA.out hg6); have x1 := hg6.cell HX.out.1 HNE.out; have x2 := hg6.cell HX.out.2.1 HNE.out; have x3 := hg6.cell HX.out.2.2 HNE.out; clear hg6)
                    exact ⟨⟨k + 1, by rw [show ((k + 1 : Nat) : Int) = (k : Int) + 1 by omega], hlt, by rw [HT.out]; exact hR6, hbk.trans B6⟩, by simp only [intOf]; omega⟩
                · have hd0 : decide ((0 : Int) < (N : Int)) = false := decide_eq_false (by omega)
                  rw [decide_eq_false h0] at e0
                  have E0 := Lib.hid e0
                  clear e0 hfi hok
                  as_aux_lemma =>
                    go_wp2_with (go_at_call 48; refine (rtruth_any HA.out).mono ?_; rw [E0.out]; dsimp only; rintro e w6 ⟨rfl, hR6, hg6⟩; have B6 := HBA.out.trans (rd_below HA.out hg6); have x1 := hg6.cell HX.out.1 HNE.out; have x2 := hg6.cell HX.out.2.1 HNE.out; have x3 := hg6.cell HX.out.2.2 HNE.out; clear hg6)
                    exact ⟨⟨k + 1, by rw [show ((k + 1 : Nat) : Int) = (k : Int) + 1 by omega], hlt, by rw [HT.out]; exact hR6, hbk.trans B6⟩, by simp only [intOf]; omega⟩
          · obtain rfl : k = ws.length := by omega
            have hkL : ¬ ((ws.length : Int) < (ws.length : Int)) := by omega
            rw [List.drop_length] at hRk
            go_wp2_with (first
              | (go_at_call 49; refine (rleft_of hRk).mono ?_; rintro e w7 ⟨rfl, hb7⟩)
              | (go_at_call 35; refine (HK.out w7).mono ?_; rintro e w8 ⟨rfl, hb8⟩))
            go_ret
            have B6 := B5.out.trans (hbk.mono S4.out)
            have B7 := B6.trans (hb7.mono B6.size)
            exact ⟨rfl, B7.trans (hb8.mono B7.size)⟩
end Go.Proofs.Ytdmgemimbbhbiaa
