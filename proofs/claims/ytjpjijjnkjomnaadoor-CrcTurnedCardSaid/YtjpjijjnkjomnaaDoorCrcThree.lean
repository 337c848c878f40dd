/- The contract of CrcThree: of three runs of as many bytes the sum of what is in one or all three of them, bit by bit, is what is in one or all three sums. -/
import Derived.WalkKit
import Derived.Outline
import Derived.LoopTactic
import Derived.WalkLawsBesides
import Derived.Lib.Hide
import Derived.Deep.RegionHeld3
import Derived.Deep.Cut
import Derived.Deep.DeepCutAuto
import Derived.Deep.Cut
import Derived.Deep.DeepCutAuto
import Derived.Test.YtjpjijjnkjomnaaDoorRegion
import Derived.Test.YtjpjijjnkjomnaaDoorBytes
import Derived.Test.YtjpjijjnkjomnaaDoorCrcKnown
namespace Go.Proofs.YtjpjijjnkjomnaaDoor
open Go.RowKit

def xor2 (l m : List UInt8) : List UInt8 := List.zipWith (fun x y => x ^^^ y) l m
theorem crcRun_xor : ∀ (l m : List UInt8) (s t : Nat), l.length = m.length → crcRun (s ^^^ t) (xor2 l m) = crcRun s l ^^^ crcRun t m
  | [], [], s, t, _ => rfl
  | [], _ :: _, _, _, h => by simp at h
  | _ :: _, [], _, _, h => by simp at h
  | a :: l, b :: m, s, t, h => by
    have e : crcRun (s ^^^ t) (xor2 (a :: l) (b :: m)) = crcRun (crcStep (s ^^^ t) (a ^^^ b).toNat) (xor2 l m) := rfl
    rw [e, UInt8.toNat_xor, crcStep_xor, crcRun_xor l m _ _ (by simpa using h)]
    rfl
theorem crcSum_xor3 (l m r : List UInt8) (h1 : l.length = m.length) (h2 : l.length = r.length) : crcSum (xor2 (xor2 l m) r) = crcSum l ^^^ crcSum m ^^^ crcSum r := by
  have e : crcRun 4294967295 (xor2 (xor2 l m) r) = crcRun 4294967295 l ^^^ crcRun 4294967295 m ^^^ crcRun 4294967295 r := by
    have := crcRun_xor (xor2 l m) r (4294967295 ^^^ 4294967295) (4294967295) (by simp [xor2]; omega)
    rw [Nat.xor_self, Nat.zero_xor] at this
    rw [this]
    have h3 := crcRun_xor l m 4294967295 4294967295 h1
    rw [Nat.xor_self] at h3
    rw [h3]
  rw [crcSum_eq, crcSum_eq, crcSum_eq, crcSum_eq, e]
  generalize crcRun 4294967295 l = a
  generalize crcRun 4294967295 m = b
  generalize crcRun 4294967295 r = c
  rw [xor_xchg 4294967295 a 4294967295 b, Nat.xor_self, Nat.zero_xor, ← Nat.xor_assoc (a ^^^ b), Nat.xor_comm (a ^^^ b) 4294967295, Nat.xor_assoc 4294967295]

/-- The first k of n cells of block g hold d's, the others nought. -/
def XTo (w : World) (g : Nat) (d : List UInt8) (k n : Nat) : Prop := ∀ j, j < n → w.cell? ⟨g, j, none⟩ = some (.int .u8 ((if j < k then (d[j]?.getD 0).toNat else 0 : Nat) : Int)) ∧ w.frozen? ⟨g, j, none⟩ = false
theorem XTo.set {w : World} {g k n : Nat} {d : List UInt8} (h : XTo w g d k n) (hk : k < n) : XTo (w.setCell ⟨g, k, none⟩ (.int .u8 ((d[k]?.getD 0).toNat : Int))) g d (k + 1) n := fun i hi => by
  refine ⟨?_, by rw [World.frozen?_setCell]; exact (h i hi).2⟩
  by_cases e : i = k
  · subst e
    rw [if_pos (by omega)]
    exact World.cell?_setCell_same' _ _ _ (by rw [(h i hi).1]; rfl)
  · rw [World.cell?_setCell_other _ _ _ _ (fun h => e (by cases h; rfl)), (h i hi).1]
    by_cases e2 : i < k
    · rw [if_pos e2, if_pos (by omega)]
    · rw [if_neg e2, if_neg (by omega)]
theorem xto_new {w : World} {base g n cap : Nat} (h : w.ownsRow base 5 1 (.slice (some ⟨g, 0, none⟩) n cap) n (madeCells (Value.int .u8 0).cells (n * 1)).toList) (d : List UInt8) : XTo w g d 0 n ∧ g < w.heap.size := by
  have e : OwnB w base (.slice (some ⟨g, 0, none⟩) n cap) (List.replicate n 0) := by
    unfold OwnB
    rw [List.length_replicate]
    have e2 : byteVals (List.replicate n 0) = (madeCells (Value.int .u8 0).cells (n * 1)).toList := by
      simp [byteVals, madeCells, Value.cells]
      apply List.ext_getElem
      · simp
      · intro i h1 h2
        simp [Nat.mod_one]
    rw [e2]; exact h
  rcases e.bytes with ⟨h1, _⟩ | ⟨g', cap', h1, _, h2, _, _, _, h3⟩
  · cases h1
  · simp only [Value.slice.injEq, Option.some.injEq, Addr.mk.injEq] at h1
    obtain ⟨⟨rfl, -, -⟩, -, -⟩ := h1
    refine ⟨fun j hj => ?_, h2⟩
    have := h3 j (by simpa using hj)
    rw [if_neg (by omega)]
    simpa [hj] using this

theorem slotFact {a : Act} {t : Tmp} {v : Value} (h : a.eval (.tmp t) = v) : a.tmps[t]?.getD undef = v := by
  rw [← h]; simp [Act.eval]
theorem slotSome {a : Act} {t : Tmp} {b : Bool} (h : a.eval (.tmp t) = .bool b) : a.tmps[t]? = some (.bool b) := by
  have h2 := slotFact h
  cases h3 : a.tmps[t]? with
  | none => rw [h3] at h2; simp [undef] at h2
  | some v => rw [h3] at h2; simpa using h2
/-- A row of one part that the statement has built. -/
def Built (W : World) (v : Value) (a : Option Addr) (len cap : Nat) : Prop := ∃ blk, v = .slice (some ⟨blk, 0, none⟩) 1 1 ∧ blk < W.heap.size ∧ W.cell? ⟨blk, 0, none⟩ = some (.slice a len cap)
theorem Built.below {A C : World} {v : Value} {a : Option Addr} {len cap : Nat} (h : Built A v a len cap) (hb : Below A.heap.size A C) : Built C v a len cap := by
  obtain ⟨blk, rfl, h1, h2⟩ := h
  exact ⟨blk, rfl, Nat.lt_of_lt_of_le h1 hb.size, (hb.cell (p := ⟨blk, 0, none⟩) h1).trans h2⟩
/-- What each operation of the last statement yields. -/
def ThreeSp (ad ax ay az : Option Addr) (n cd cx cy cz sx sy sz X Y Z : Nat) : Nat → Value → World → Prop
  | 0, v, _ => v = .slice ad n cd
  | 1, v, W => Built W v ad n cd
  | 2, v, _ => v = .int .u32 ((sx ^^^ sy ^^^ sz : Nat) : Int)
  | 3, v, _ => v = .slice ax X cx
  | 8, v, _ => v = .slice ay Y cy
  | 14, v, _ => v = .slice az Z cz
  | 4, v, _ => v = .int .i64 n
  | 5, v, _ => v = .slice ax n cx
  | 6, v, W => Built W v ax n cx
  | 7, v, _ => v = .int .u32 sx
  | 9, v, _ => v = .int .i64 n
  | 10, v, _ => v = .slice ay n cy
  | 11, v, W => Built W v ay n cy
  | 12, v, _ => v = .int .u32 sy
  | 13, v, _ => v = .int .u32 ((sx ^^^ sy : Nat) : Int)
  | 15, v, _ => v = .int .i64 n
  | 16, v, _ => v = .slice az n cz
  | 17, v, W => Built W v az n cz
  | 18, v, _ => v = .int .u32 sz
  | 19, v, _ => v = .int .u32 ((sx ^^^ sy ^^^ sz : Nat) : Int)
  | 20, v, _ => v = .bool true
  | 21, v, _ => v = .bool true
  | 22, v, _ => v = .bool true
  | 23, v, _ => v = .bool true
  | 24, v, _ => v = .bool true
  | _, _, _ => True
theorem ThreeSp.below {ad ax ay az : Option Addr} {n cd cx cy cz sx sy sz X Y Z : Nat} {A C : World} (hb : Below A.heap.size A C) : ∀ j v, ThreeSp ad ax ay az n cd cx cy cz sx sy sz X Y Z j v A → ThreeSp ad ax ay az n cd cx cy cz sx sy sz X Y Z j v C := by
  intro j v h
  unfold ThreeSp at h ⊢
  split at h <;> first | exact h | exact Built.below h hb
/-- Sum of one part, whose row lies in a block. -/
theorem sumAt_any (W : World) (blk : Nat) (a : Option Addr) (cap : Nat) (l : List UInt8) (hl : l.length ≤ 9223372036854775807) (hb : blk < W.heap.size) (hc : W.cell? ⟨blk, 0, none⟩ = some (.slice a l.length cap)) (hbytes : BytesAt W.heap.size W a l) (ht : Tab W) :
    Calls Tryd.prog 15 #[.slice (some ⟨blk, 0, none⟩) 1 1] W fun e w' => e = .returned (.int .u32 (crcSum l : Int)) ∧ Below W.heap.size W w' := by
  refine (sum_any (some ⟨blk, 0, none⟩) 1 [l] (by simp) W ht (by omega) (.one (cap := cap) (a := a) hb hl hc hbytes)).mono ?_
  rintro e w' ⟨rfl, h⟩
  exact ⟨by simp, h⟩

set_option maxHeartbeats 8000000 in
set_option maxRecDepth 100000 in
theorem crcThree_any (ax ay az : Option Addr) (cx cy cz : Nat) (x y z : List UInt8) (hx : x.length ≤ 9223372036854775807) (hy : y.length ≤ 9223372036854775807) (hz : z.length ≤ 9223372036854775807)
    (kx : x.length ≤ cx) (ky : y.length ≤ cy) (kz : z.length ≤ cz)
    (w : World) (ht : Tab w) (h1w : 1 ≤ w.heap.size) (bx : BytesAt w.heap.size w ax x) (by' : BytesAt w.heap.size w ay y) (bz : BytesAt w.heap.size w az z) :
    Calls Tryd.prog 8 #[.slice ax x.length cx, .slice ay y.length cy, .slice az z.length cz] w fun e w' => e = .returned (.bool true) ∧ Below w.heap.size w w' := by
  have hk := known_any w ht h1w
  obtain ⟨n, hn⟩ : ∃ n, min (min x.length y.length) z.length = n := ⟨_, rfl⟩
  have hnx : n ≤ x.length := by omega
  have hny : n ≤ y.length := by omega
  have hnz : n ≤ z.length := by omega
  have HN := Lib.hid hn
  clear hn
  go_enter Tryd.func8, Tryd.ntmps8
  go_upto_region 1 with (fail)
  go_cut [7] from 10 to 16 (fun t7 wx => t7 = .int .i64 n ∧ wx = w)
  case first =>
    go_wp2_with fail
    all_goals go_meet
    all_goals exact ⟨congrArg _ (by have := HN.out; omega), rfl⟩
  case rest =>
    obtain ⟨rfl, rfl⟩ := hcut
    by_cases h1 : 1000 < n
    · go_wp2_with (go_at_call 10; refine hk.mono ?_; rintro e w' ⟨rfl, hb⟩)
      go_ret
      exact ⟨rfl, hb⟩
    · clear hk
      obtain ⟨i0, hi, hz0, hz1, hz2⟩ := info_parts infoU8
      have hlx : (x.take n).length = n := by simp; omega
      have hly : (y.take n).length = n := by simp; omega
      have hlz : (z.take n).length = n := by simp; omega
      have hq2 : i0.bytes * n ≤ 281474976710656 := by rw [hz2]; omega
      have hq3 : n ≤ maxLen := by unfold maxLen; omega
      have HI := Lib.hid hi
      have HZ0 := Lib.hid hz0
      have HZ1 := Lib.hid hz1
      have HLX := Lib.hid hlx
      have HLY := Lib.hid hly
      have HLZ := Lib.hid hlz
      clear hi hz0 hz1 hz2 hlx hly hlz
      go_wp2_with (at_make; refine wpList_make_full _ rfl _ _ _ rfl wc.heap.size 5 i0 (.int .u8 0) 1 Tryd.underlying23 HI.out HZ0.out HZ1.out .i64 .i64 (n : Int) (n : Int) n rfl rfl rfl rfl hq2 hq3 (Nat.le_refl _) ?_; intro w1 O1 g1)
      have hB1 : Below wc.heap.size wc w1 := (Below.refl _ _).grown g1 (Nat.le_refl _) (fun k e => by cases e)
      have hX1 := xto_new O1 (xor2 (xor2 (x.take n) (y.take n)) (z.take n))
      have hg1 : wc.heap.size < w1.heap.size := hX1.2
      obtain ⟨d, hd⟩ : ∃ d, xor2 (xor2 (x.take n) (y.take n)) (z.take n) = d := ⟨_, rfl⟩
      rw [hd] at hX1
      have HD := Lib.hid hd
      clear O1 g1 hd
      obtain ⟨g, hg⟩ : ∃ g, wc.heap.size = g := ⟨_, rfl⟩
      have HG := Lib.hid hg
      rw [hg] at hX1 hB1 hg1 ⊢
      clear hg
      go_loopw [9] (fun i wr => ∃ k : Nat, k ≤ n ∧ i = .int .i64 k ∧ XTo wr g d k n ∧ Below g wc wr ∧ g < wr.heap.size) (fun i _ => n - (intOf i).toNat)
      case atStart => exact ⟨0, Nat.zero_le _, rfl, hX1.1, hB1, hg1⟩
      case round =>
        obtain ⟨k, hk, rfl, hX, hB, hgw⟩ := hrel
        clear hX1 hB1 hg1
        by_cases hlt : k < n
        · have hcd := (hX k hlt).1
          rw [if_neg (Nat.lt_irrefl k)] at hcd
          have hfd := (hX k hlt).2
          have hset := hX.set hlt
          obtain ⟨b1, o1, rfl, hb1, hc1⟩ := bx (by rintro rfl; simp at hnx; omega)
          obtain ⟨b2, o2, rfl, hb2, hc2⟩ := by' (by rintro rfl; simp at hny; omega)
          obtain ⟨b3, o3, rfl, hb3, hc3⟩ := bz (by rintro rfl; simp at hnz; omega)
          rw [HG.out] at hb1 hb2 hb3
          have hk1 := (hB.cell (p := ⟨b1, o1 + k, none⟩) hb1).trans (hc1 k (by omega))
          have hk2 := (hB.cell (p := ⟨b2, o2 + k, none⟩) hb2).trans (hc2 k (by omega))
          have hk3 := (hB.cell (p := ⟨b3, o3 + k, none⟩) hb3).trans (hc3 k (by omega))
          have HDK : Hid ((d[k]?.getD 0) = (x[k]?.getD 0) ^^^ (y[k]?.getD 0) ^^^ (z[k]?.getD 0)) := by
            show (d[k]?.getD 0) = _
            rw [← HD.out]
            have e1 : k < x.length := by omega
            have e2 : k < y.length := by omega
            have e3 : k < z.length := by omega
            have hl : k < (xor2 (xor2 (x.take n) (y.take n)) (z.take n)).length := by simp [xor2]; omega
            rw [List.getElem?_eq_getElem hl]
            simp [xor2, e1, e2, e3]
          obtain ⟨vx, hvx⟩ : ∃ v, x[k]?.getD 0 = v := ⟨_, rfl⟩
          obtain ⟨vy, hvy⟩ : ∃ v, y[k]?.getD 0 = v := ⟨_, rfl⟩
          obtain ⟨vz, hvz⟩ : ∃ v, z[k]?.getD 0 = v := ⟨_, rfl⟩
          obtain ⟨vd, hvd⟩ : ∃ v, d[k]?.getD 0 = v := ⟨_, rfl⟩
          rw [hvx] at hk1 HDK
          rw [hvy] at hk2 HDK
          rw [hvz] at hk3 HDK
          rw [hvd] at hset HDK
          have hx1 := xor8 (UInt8.toNat_lt vx) (UInt8.toNat_lt vy)
          have hx2 := xor8 (xor_lt8 (UInt8.toNat_lt vx) (UInt8.toNat_lt vy)) (UInt8.toNat_lt vz)
          rw [show vx.toNat ^^^ vy.toNat ^^^ vz.toNat = vd.toNat by rw [HDK.out, UInt8.toNat_xor, UInt8.toNat_xor]] at hx2
          have i1 : (0 : Int) ≤ (k : Int) := Int.natCast_nonneg _
          have i2 : (k : Int) < (x.length : Int) := by omega
          have i3 : (k : Int) < (y.length : Int) := by omega
          have i4 : (k : Int) < (z.length : Int) := by omega
          have i5 : (k : Int) < (n : Int) := by omega
          clear hvx hvy hvz hvd hc1 hc2 hc3
          go_wp2_with fail
          go_region
          go_wp2_with fail
          go_roundw
          case rel => exact ⟨k + 1, by omega, by go_num, hset, (hB.setCell (p := ⟨g, k, none⟩) (Nat.le_refl _) _).drew, by simpa [World.setCell] using hgw⟩
          case measure => simp [intOf]; omega
        · obtain rfl : k = n := by omega
          have hd := HD.out
          have hbd : BytesAt wr.heap.size wr (some ⟨g, 0, none⟩) d := fun _ => ⟨g, 0, rfl, hgw, fun j hj => by
            have hdl : d.length = k := by rw [← hd]; simp [xor2]; omega
            have := (hX j (by omega)).1
            rw [if_pos (by omega)] at this
            rw [Nat.zero_add]; exact this⟩
          have hdl : d.length = k := by rw [← hd]; simp [xor2]; omega
          have hsum : crcSum d = crcSum (x.take k) ^^^ crcSum (y.take k) ^^^ crcSum (z.take k) := by
            rw [← hd]; exact crcSum_xor3 _ _ _ (by simp; omega) (by simp; omega)
          have hgle : g ≤ wr.heap.size := by omega
          rw [HG.out] at bx by' bz
          have bx2 : BytesAt wr.heap.size wr ax (x.take k) := ((bx.below hB).mono hgle |> fun h => by rw [← List.take_append_drop k x] at h; exact h.left)
          have by2 : BytesAt wr.heap.size wr ay (y.take k) := ((by'.below hB).mono hgle |> fun h => by rw [← List.take_append_drop k y] at h; exact h.left)
          have bz2 : BytesAt wr.heap.size wr az (z.take k) := ((bz.below hB).mono hgle |> fun h => by rw [← List.take_append_drop k z] at h; exact h.left)
          have htw := ht.below h1w (HG.out ▸ hB : Below wc.heap.size wc wr)
          have hlx := HLX.out
          have hly := HLY.out
          have hlz := HLZ.out
          have hks := fun W (h : Below wr.heap.size wr W) => known_any W (htw.below (Nat.le_trans h1w (by have := HG.out; omega)) h) (Nat.le_trans h1w (Nat.le_trans (by have := HG.out; omega) h.size))
          have hSx := fun W (h : Below wr.heap.size wr W) blk (hb : blk < W.heap.size) (hc : W.cell? ⟨blk, 0, none⟩ = some (.slice ax k cx)) => sumAt_any W blk ax cx (x.take k) (by omega) hb (by rw [hlx]; exact hc) ((bx2.below h).mono h.size) (htw.below (Nat.le_trans h1w (by have := HG.out; omega)) h)
          have hSy := fun W (h : Below wr.heap.size wr W) blk (hb : blk < W.heap.size) (hc : W.cell? ⟨blk, 0, none⟩ = some (.slice ay k cy)) => sumAt_any W blk ay cy (y.take k) (by omega) hb (by rw [hly]; exact hc) ((by2.below h).mono h.size) (htw.below (Nat.le_trans h1w (by have := HG.out; omega)) h)
          have hSz := fun W (h : Below wr.heap.size wr W) blk (hb : blk < W.heap.size) (hc : W.cell? ⟨blk, 0, none⟩ = some (.slice az k cz)) => sumAt_any W blk az cz (z.take k) (by omega) hb (by rw [hlz]; exact hc) ((bz2.below h).mono h.size) (htw.below (Nat.le_trans h1w (by have := HG.out; omega)) h)
          have hSd := fun W (h : Below wr.heap.size wr W) blk (hb : blk < W.heap.size) (hc : W.cell? ⟨blk, 0, none⟩ = some (.slice (some ⟨g, 0, none⟩) k k)) => sumAt_any W blk (some ⟨g, 0, none⟩) k d (by omega) hb (by rw [hdl]; exact hc) ((hbd.below h).mono h.size) (htw.below (Nat.le_trans h1w (by have := HG.out; omega)) h)
          obtain ⟨sx, hsx⟩ : ∃ q, crcSum (x.take k) = q := ⟨_, rfl⟩
          obtain ⟨sy, hsy⟩ : ∃ q, crcSum (y.take k) = q := ⟨_, rfl⟩
          obtain ⟨sz, hsz⟩ : ∃ q, crcSum (z.take k) = q := ⟨_, rfl⟩
          have lx := crcSum_lt (x.take k)
          have ly := crcSum_lt (y.take k)
          have lz := crcSum_lt (z.take k)
          rw [hsx] at hSx lx hsum
          rw [hsy] at hSy ly hsum
          rw [hsz] at hSz lz hsum
          rw [hsum] at hSd
          clear hsum hsx hsy hsz hlx hly hlz hdl hbd bx2 by2 bz2 hd
          go_wp2_with fail
          refine wp_region_inv (Below wr.heap.size wr) (ThreeSp (some ⟨g, 0, none⟩) ax ay az k k cx cy cz sx sy sz x.length y.length z.length) (by kernel_rfl) (by kernel_rfl) (by kernel_rfl) (by kernel_rfl) ⟨rfl, rfl, rfl, Nat.le_refl _, fun _ _ => rfl⟩ ?step ?fin
          case fin =>
            intro listed a w' hI hall
            have e6 : a.eval (.tmp 6) = .bool true := hI.slot 24 6 rfl (hall 24 (by decide)) rfl
            have hB' := hI.inv
            have hdf := hI.defers
            have hgw2 := HG.out
            go_wp2_with fail
            refine bodyPost_ret (results_tmp rfl _ _ _) hdf ⟨congrArg Ending.returned e6, ?_⟩
            exact hB.trans (hB'.mono (by omega))
          case step =>
            intro i o ho listed a w' hI hpre
            have hB' := hI.inv
            have hi : i < 25 := (Array.getElem?_eq_some_iff.1 ho).1
            match i, hi with
            | 0, _ => exact wpOp_value ho (by cases ho; rfl) (by cases ho; rfl) ⟨_, rfl, hB', hI.kept (t := 8) (by kernel_rfl), fun _ _ h => h⟩
            | 1, _ =>
              cases ho
              have h44 := hI.slot 0 44 rfl (hpre ⟨0, .data⟩ (by simp) rfl) rfl
              refine wpOp_value rfl rfl (v := .slice (some ⟨w'.heap.size, 0, none⟩) 1 1) (w' := w'.alloc (.cells #[.slice (some ⟨g, 0, none⟩) k k] 23)) ?_ ⟨_, rfl, hB'.alloc hB'.size _, ⟨w'.heap.size, rfl, by simp, by simp⟩, ThreeSp.below ((Below.refl _ _).alloc (Nat.le_refl _) _)⟩
              have e44 := slotFact (v := .slice (some ⟨g, 0, none⟩) k k) h44
              simp [execOp, e44, go_sem]
            | 2, _ =>
              cases ho
              obtain ⟨blk, e45, hb, hc⟩ := hI.slot 1 45 rfl (hpre ⟨1, .data⟩ (by simp) rfl) rfl
              refine wpOp_enter rfl rfl (f := 15) (args := #[.slice (some ⟨blk, 0, none⟩) 1 1]) ?_ ((hSd w' hB' blk hb hc).mono ?_)
              · have e45' := slotFact e45
                simp [execOp, e45', go_sem]
              · rintro e w'' ⟨rfl, hbw⟩
                exact ⟨_, rfl, _, rfl, hB'.trans (hbw.mono hB'.size), rfl, ThreeSp.below hbw⟩
            | 3, _ => exact wpOp_value ho (by cases ho; rfl) (by cases ho; rfl) ⟨_, rfl, hB', hI.kept (t := 0) (by kernel_rfl), fun _ _ h => h⟩
            | 4, _ => exact wpOp_value ho (by cases ho; rfl) (by cases ho; rfl) ⟨_, rfl, hB', hI.kept (t := 7) (by kernel_rfl), fun _ _ h => h⟩
            | 5, _ =>
              cases ho
              have e47 := slotFact (v := .slice ax x.length cx) (hI.slot 3 47 rfl (hpre ⟨3, .data⟩ (by simp) rfl) rfl)
              have e48 := slotFact (v := .int .i64 k) (hI.slot 4 48 rfl (hpre ⟨4, .data⟩ (by simp) rfl) rfl)
              refine wpOp_value rfl rfl (v := .slice ax k cx) (w' := w') ?_ ⟨_, rfl, hB', rfl, fun _ _ h => h⟩
              simp [execOp, e47, e48, go_sem]
              intro hbad; omega
            | 6, _ =>
              cases ho
              have e := slotFact (v := .slice ax k cx) (hI.slot 5 49 rfl (hpre ⟨5, .data⟩ (by simp) rfl) rfl)
              refine wpOp_value rfl rfl (v := .slice (some ⟨w'.heap.size, 0, none⟩) 1 1) (w' := w'.alloc (.cells #[.slice ax k cx] 23)) ?_ ⟨_, rfl, hB'.alloc hB'.size _, ⟨w'.heap.size, rfl, by simp, by simp⟩, ThreeSp.below ((Below.refl _ _).alloc (Nat.le_refl _) _)⟩
              simp [execOp, e, go_sem]
            | 7, _ =>
              cases ho
              obtain ⟨blk, e, hb, hc⟩ := hI.slot 6 50 rfl (hpre ⟨6, .data⟩ (by simp) rfl) rfl
              refine wpOp_enter rfl rfl (f := 15) (args := #[.slice (some ⟨blk, 0, none⟩) 1 1]) ?_ ((hSx w' hB' blk hb hc).mono ?_)
              · have e' := slotFact e
                simp [execOp, e', go_sem]
              · rintro e w'' ⟨rfl, hbw⟩
                exact ⟨_, rfl, _, rfl, hB'.trans (hbw.mono hB'.size), rfl, ThreeSp.below hbw⟩
            | 8, _ => exact wpOp_value ho (by cases ho; rfl) (by cases ho; rfl) ⟨_, rfl, hB', hI.kept (t := 1) (by kernel_rfl), fun _ _ h => h⟩
            | 9, _ => exact wpOp_value ho (by cases ho; rfl) (by cases ho; rfl) ⟨_, rfl, hB', hI.kept (t := 7) (by kernel_rfl), fun _ _ h => h⟩
            | 10, _ =>
              cases ho
              have e1 := slotFact (v := .slice ay y.length cy) (hI.slot 8 52 rfl (hpre ⟨8, .data⟩ (by simp) rfl) rfl)
              have e2 := slotFact (v := .int .i64 k) (hI.slot 9 53 rfl (hpre ⟨9, .data⟩ (by simp) rfl) rfl)
              refine wpOp_value rfl rfl (v := .slice ay k cy) (w' := w') ?_ ⟨_, rfl, hB', rfl, fun _ _ h => h⟩
              simp [execOp, e1, e2, go_sem]
              intro hbad; omega
            | 11, _ =>
              cases ho
              have e := slotFact (v := .slice ay k cy) (hI.slot 10 54 rfl (hpre ⟨10, .data⟩ (by simp) rfl) rfl)
              refine wpOp_value rfl rfl (v := .slice (some ⟨w'.heap.size, 0, none⟩) 1 1) (w' := w'.alloc (.cells #[.slice ay k cy] 23)) ?_ ⟨_, rfl, hB'.alloc hB'.size _, ⟨w'.heap.size, rfl, by simp, by simp⟩, ThreeSp.below ((Below.refl _ _).alloc (Nat.le_refl _) _)⟩
              simp [execOp, e, go_sem]
            | 12, _ =>
              cases ho
              obtain ⟨blk, e, hb, hc⟩ := hI.slot 11 55 rfl (hpre ⟨11, .data⟩ (by simp) rfl) rfl
              refine wpOp_enter rfl rfl (f := 15) (args := #[.slice (some ⟨blk, 0, none⟩) 1 1]) ?_ ((hSy w' hB' blk hb hc).mono ?_)
              · have e' := slotFact e
                simp [execOp, e', go_sem]
              · rintro e w'' ⟨rfl, hbw⟩
                exact ⟨_, rfl, _, rfl, hB'.trans (hbw.mono hB'.size), rfl, ThreeSp.below hbw⟩
            | 13, _ =>
              cases ho
              have e1 := slotFact (v := .int .u32 sx) (hI.slot 7 51 rfl (hpre ⟨7, .data⟩ (by simp) rfl) rfl)
              have e2 := slotFact (v := .int .u32 sy) (hI.slot 12 56 rfl (hpre ⟨12, .data⟩ (by simp) rfl) rfl)
              have hxy := xor32 lx ly
              refine wpOp_value rfl rfl (v := .int .u32 ((sx ^^^ sy : Nat) : Int)) (w' := w') ?_ ⟨_, rfl, hB', rfl, fun _ _ h => h⟩
              simp [execOp, e1, e2, go_sem, hxy]
            | 14, _ => exact wpOp_value ho (by cases ho; rfl) (by cases ho; rfl) ⟨_, rfl, hB', hI.kept (t := 2) (by kernel_rfl), fun _ _ h => h⟩
            | 15, _ => exact wpOp_value ho (by cases ho; rfl) (by cases ho; rfl) ⟨_, rfl, hB', hI.kept (t := 7) (by kernel_rfl), fun _ _ h => h⟩
            | 16, _ =>
              cases ho
              have e1 := slotFact (v := .slice az z.length cz) (hI.slot 14 58 rfl (hpre ⟨14, .data⟩ (by simp) rfl) rfl)
              have e2 := slotFact (v := .int .i64 k) (hI.slot 15 59 rfl (hpre ⟨15, .data⟩ (by simp) rfl) rfl)
              refine wpOp_value rfl rfl (v := .slice az k cz) (w' := w') ?_ ⟨_, rfl, hB', rfl, fun _ _ h => h⟩
              simp [execOp, e1, e2, go_sem]
              intro hbad; omega
            | 17, _ =>
              cases ho
              have e := slotFact (v := .slice az k cz) (hI.slot 16 60 rfl (hpre ⟨16, .data⟩ (by simp) rfl) rfl)
              refine wpOp_value rfl rfl (v := .slice (some ⟨w'.heap.size, 0, none⟩) 1 1) (w' := w'.alloc (.cells #[.slice az k cz] 23)) ?_ ⟨_, rfl, hB'.alloc hB'.size _, ⟨w'.heap.size, rfl, by simp, by simp⟩, ThreeSp.below ((Below.refl _ _).alloc (Nat.le_refl _) _)⟩
              simp [execOp, e, go_sem]
            | 18, _ =>
              cases ho
              obtain ⟨blk, e, hb, hc⟩ := hI.slot 17 61 rfl (hpre ⟨17, .data⟩ (by simp) rfl) rfl
              refine wpOp_enter rfl rfl (f := 15) (args := #[.slice (some ⟨blk, 0, none⟩) 1 1]) ?_ ((hSz w' hB' blk hb hc).mono ?_)
              · have e' := slotFact e
                simp [execOp, e', go_sem]
              · rintro e w'' ⟨rfl, hbw⟩
                exact ⟨_, rfl, _, rfl, hB'.trans (hbw.mono hB'.size), rfl, ThreeSp.below hbw⟩
            | 19, _ =>
              cases ho
              have e1 := slotFact (v := .int .u32 ((sx ^^^ sy : Nat) : Int)) (hI.slot 13 57 rfl (hpre ⟨13, .data⟩ (by simp) rfl) rfl)
              have e2 := slotFact (v := .int .u32 sz) (hI.slot 18 62 rfl (hpre ⟨18, .data⟩ (by simp) rfl) rfl)
              have hxy := xor32 (xor_lt32 lx ly) lz
              refine wpOp_value rfl rfl (v := .int .u32 ((sx ^^^ sy ^^^ sz : Nat) : Int)) (w' := w') ?_ ⟨_, rfl, hB', rfl, fun _ _ h => h⟩
              simp [execOp, e1, e2, go_sem, hxy]
            | 20, _ =>
              cases ho
              have e1 := slotFact (v := .int .u32 ((sx ^^^ sy ^^^ sz : Nat) : Int)) (hI.slot 2 46 rfl (hpre ⟨2, .data⟩ (by simp) rfl) rfl)
              have e2 := slotFact (v := .int .u32 ((sx ^^^ sy ^^^ sz : Nat) : Int)) (hI.slot 19 63 rfl (hpre ⟨19, .data⟩ (by simp) rfl) rfl)
              refine wpOp_value rfl rfl (v := .bool true) (w' := w') ?_ ⟨_, rfl, hB', rfl, fun _ _ h => h⟩
              simp [execOp, e1, e2, go_sem]
            | 21, _ =>
              cases ho
              exact wpOp_value rfl rfl rfl ⟨_, rfl, hB', hI.slot 20 64 rfl (hpre ⟨20, .data⟩ (by simp) rfl) rfl, fun _ _ h => h⟩
            | 22, _ =>
              cases ho
              have e1 := slotSome (b := true) (hI.slot 21 65 rfl (hpre ⟨21, .chain⟩ (by simp) rfl) rfl)
              refine wpOp_enter rfl (by simp [Region.wanted, yielded, e1]) (f := 10) (args := #[]) (by simp [execOp, go_sem]) ((hks w' hB').mono ?_)
              rintro e w'' ⟨rfl, hbw⟩
              exact ⟨_, rfl, _, rfl, hB'.trans (hbw.mono hB'.size), rfl, ThreeSp.below hbw⟩
            | 23, _ =>
              cases ho
              have e1 := slotFact (v := .bool true) (hI.slot 21 65 rfl (hpre ⟨21, .data⟩ (by simp) rfl) rfl)
              have e2 := slotFact (v := .bool true) (hI.slot 22 66 rfl (hpre ⟨22, .data⟩ (by simp) rfl) rfl)
              refine wpOp_value rfl rfl (v := .bool true) (w' := w') ?_ ⟨_, rfl, hB', rfl, fun _ _ h => h⟩
              simp [execOp, e1, e2, go_sem]
            | 24, _ =>
              cases ho
              exact wpOp_value rfl rfl rfl ⟨_, rfl, hB', hI.slot 23 67 rfl (hpre ⟨23, .data⟩ (by simp) rfl) rfl, fun _ _ h => h⟩
end Go.Proofs.YtjpjijjnkjomnaaDoor
