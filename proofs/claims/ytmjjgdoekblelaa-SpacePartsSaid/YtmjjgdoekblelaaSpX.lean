/- Layer 7: the document's space: New. -/
import Derived.Laws.MakeOwn
import Derived.Laws.OwnMore
import Derived.Test.YtmjjgdoekblelaaSpW
namespace Go.Proofs.Ytmjjgdoekblelaa
open Go.RowKit

def onesUpto (n k : Nat) : List Nat := (List.range n).map fun (i : Nat) => if 2 ≤ i ∧ i < k then 1 else 0
def newList (n : Nat) (t : List Int) : List Nat := (List.range n).map fun (i : Nat) => if i < 2 then 0 else if (i : Int) ∈ t then 4 else 1
def GSp.new (m h : Int) (l : List Int) : GSp := { most := m, now := newList h.toNat l, last := newList h.toNat l }
theorem onesUpto_len (n k : Nat) : (onesUpto n k).length = n := by simp [onesUpto]
theorem newList_len (n : Nat) (t : List Int) : (newList n t).length = n := by simp [newList]
theorem onesUpto_get (n k : Nat) {i : Nat} (hi : i < n) : (onesUpto n k)[i]?.getD 0 = if 2 ≤ i ∧ i < k then 1 else 0 := by simp [onesUpto, hi]
theorem newList_get (n : Nat) (t : List Int) {i : Nat} (hi : i < n) : (newList n t)[i]?.getD 0 = if i < 2 then 0 else if (i : Int) ∈ t then 4 else 1 := by simp [newList, hi]
theorem onesUpto_two (n : Nat) : onesUpto n 2 = List.replicate n 0 := list_ext (by rw [onesUpto_len, List.length_replicate]) (fun i hi => by
  rw [onesUpto_len] at hi
  rw [onesUpto_get n 2 hi, if_neg (by omega)]; simp [hi])
theorem set_get (l : List Nat) (k q i : Nat) (hi : i < l.length) : (l.set k q)[i]?.getD 0 = if i = k then q else l[i]?.getD 0 := by
  by_cases h : i = k
  · subst h; rw [if_pos rfl, List.getElem?_set_self hi]; rfl
  · rw [if_neg h, List.getElem?_set_ne (by omega)]
theorem onesUpto_set {n k : Nat} (h2 : 2 ≤ k) (_hk : k < n) : (onesUpto n k).set k 1 = onesUpto n (k + 1) := list_ext (by rw [List.length_set, onesUpto_len, onesUpto_len]) (fun i hi => by
  rw [List.length_set, onesUpto_len] at hi
  rw [set_get _ _ _ _ (by rw [onesUpto_len]; exact hi), onesUpto_get n _ hi, onesUpto_get n _ hi]
  by_cases h : i = k
  · rw [if_pos h, if_pos (by omega)]
  · rw [if_neg h]
    by_cases h' : 2 ≤ i ∧ i < k
    · rw [if_pos h', if_pos (by omega)]
    · rw [if_neg h', if_neg (by omega)])
theorem onesUpto_end {n k : Nat} (_hk : n ≤ k) : onesUpto n k = newList n [] := list_ext (by rw [onesUpto_len, newList_len]) (fun i hi => by
  rw [onesUpto_len] at hi
  rw [onesUpto_get n _ hi, newList_get n _ hi]
  by_cases h : i < 2
  · rw [if_pos h, if_neg (by omega)]
  · rw [if_neg h, if_pos (by omega)]; simp)
theorem newList_snoc {n k : Nat} (t : List Int) (h2 : 2 ≤ k) (hk : k < n) : (newList n t).set k 4 = newList n (t ++ [(k : Int)]) := list_ext (by rw [List.length_set, newList_len, newList_len]) (fun i hi => by
  rw [List.length_set, newList_len] at hi
  rw [set_get _ _ _ _ (by rw [newList_len]; exact hi), newList_get n _ hi, newList_get n _ hi]
  by_cases h : i = k
  · subst h; rw [if_pos rfl, if_neg (by omega)]; simp
  · rw [if_neg h]
    have : ¬ ((i : Int) = k) := by omega
    simp [this])
theorem make_nats (w : World) (n base : Nat) (hn : n ≤ 5000) (hb : base ≤ w.heap.size) : ∃ w', (Instr.makeSlice 38 (.int .i64 n) (.int .i64 n)).run Try.prog w = .ok (.slice (some ⟨w.heap.size, 0, none⟩) n n) w' ∧ OwnN w' base (.slice (some ⟨w.heap.size, 0, none⟩) n n) (List.replicate n 0) ∧ Below w.heap.size w w' := by
  obtain ⟨i0, hi, hz0, hz1, hz2⟩ := info_parts infoI
  obtain ⟨w', h1, h2, h3⟩ := run_make_full (P := Try.prog) (w := w) base 38 3 i0 _ 1 Try.underlying38 hi hz0 hz1 .i64 .i64 n (by rw [hz2]; omega) (by unfold maxLen; omega) hb
  refine ⟨w', h1, ?_, ⟨h3.os, h3.tape, h3.output, h3.size, fun k hk => h3.block k hk (by intro e; cases e)⟩⟩
  unfold OwnN
  have e : (madeCells (Value.int .i64 0).cells (n * 1)).toList = natVals (List.replicate n 0) := by
    apply List.ext_getElem?
    intro i
    by_cases h : i < n
    · simp [madeCells, natVals, h, Value.cells, Nat.mod_one]
    · simp [madeCells, natVals, h, Value.cells, Nat.mod_one]
  rw [List.length_replicate, ← e]
  exact h2
/-- What New of the document leaves. -/
def GNewPost (w : World) (m h : Int) (l : List Int) (e : Ending) (w' : World) : Prop :=
  (NewOk m h l ∧ ∃ v, e = .returned (.tuple #[v, .bool true]) ∧ GOut w (GSp.new m h l) v w') ∨ (¬ NewOk m h l ∧ ∃ a1 n1 c1 a2 n2 c2, e = .returned (.tuple #[gval 0 a1 n1 c1 a2 n2 c2, .bool false]) ∧ Below w.heap.size w w')
set_option maxRecDepth 100000 in
set_option maxHeartbeats 8000000 in
theorem gnew_any (m h : Int) (ao : Option Addr) (l : List Int) (cap : Nat) (hcap : l.length ≤ 9223372036854775807) (w : World) (hl : IntsAt w.heap.size w ao l) :
    Calls Try.prog 16 #[.int .i64 m, .int .i64 h, .slice ao l.length cap] w fun e w' => GNewPost w m h l e w' := by
  obtain ⟨S, hS⟩ : ∃ S, w.heap.size = S := ⟨_, rfl⟩
  obtain ⟨w1, hw1⟩ : ∃ w1, w.alloc (.cells #[.int .i64 0, .slice none 0 0, .slice none 0 0] 40) = w1 := ⟨_, rfl⟩
  have hb1 : Below S w w1 := by rw [← hw1, ← hS]; exact (Below.refl _ w).alloc (Nat.le_refl _) _
  have hr1 : w1.heap[S]? = some (.cells #[.int .i64 0, .slice none 0 0, .slice none 0 0] 40 (0, 0)) := by rw [← hw1, ← hS]; exact (MapKept.heap_alloc w _).1
  have hz1 : w1.heap.size = S + 1 := by rw [← hw1, ← hS]; simp
  have HS := Lib.hid hS
  have HW := Lib.hid hw1
  have HB1 := Lib.hid hb1
  have HR1 := Lib.hid hr1
  have HZ1 := Lib.hid hz1
  have HL := Lib.hid hl
  have r0 := cell_of_row w1 S 0 _ _ _ hr1
  have r1 := cell_of_row w1 S 1 _ _ _ hr1
  have r2 := cell_of_row w1 S 2 _ _ _ hr1
  have q0 := frozen_of_row w1 S 0 _ _ hr1
  have q1 := frozen_of_row w1 S 1 _ _ hr1
  have q2 := frozen_of_row w1 S 2 _ _ hr1
  simp only [List.getElem?_toArray, List.getElem?_cons_zero, List.getElem?_cons_succ] at r0 r1 r2
  clear hS hw1 hb1 hr1 hz1 hl
  by_cases h1 : m < 2
  · have hno : Hid (¬ NewOk m h l) := Lib.hid (fun q => by have := q.1; omega)
    go_enter Try.func16, Try.ntmps16
    go_wp2
    rw [HS.out, HW.out]
    refine bodyPost_ret (results_cell_tmps rfl _ _ S 40 _ (0, 0) rfl HR1.out Try.underlying40 (by kernel_rfl)) rfl ?_
    exact .inr ⟨hno.out, none, 0, 0, none, 0, 0, rfl, by rw [HS.out]; exact HB1.out⟩
  by_cases h2 : 4096 < m
  · have hno : Hid (¬ NewOk m h l) := Lib.hid (fun q => by have := q.2.1; omega)
    go_enter Try.func16, Try.ntmps16
    go_wp2
    rw [HS.out, HW.out]
    refine bodyPost_ret (results_cell_tmps rfl _ _ S 40 _ (0, 0) rfl HR1.out Try.underlying40 (by kernel_rfl)) rfl ?_
    exact .inr ⟨hno.out, none, 0, 0, none, 0, 0, rfl, by rw [HS.out]; exact HB1.out⟩
  by_cases h3 : h < 2
  · have hno : Hid (¬ NewOk m h l) := Lib.hid (fun q => by have := q.2.2.1; omega)
    go_enter Try.func16, Try.ntmps16
    go_wp2
    rw [HS.out, HW.out]
    refine bodyPost_ret (results_cell_tmps rfl _ _ S 40 _ (0, 0) rfl HR1.out Try.underlying40 (by kernel_rfl)) rfl ?_
    exact .inr ⟨hno.out, none, 0, 0, none, 0, 0, rfl, by rw [HS.out]; exact HB1.out⟩
  by_cases h4 : m < h
  · have hno : Hid (¬ NewOk m h l) := Lib.hid (fun q => by have := q.2.2.2.1; omega)
    go_enter Try.func16, Try.ntmps16
    go_wp2
    rw [HS.out, HW.out]
    refine bodyPost_ret (results_cell_tmps rfl _ _ S 40 _ (0, 0) rfl HR1.out Try.underlying40 (by kernel_rfl)) rfl ?_
    exact .inr ⟨hno.out, none, 0, 0, none, 0, 0, rfl, by rw [HS.out]; exact HB1.out⟩
  obtain ⟨n, rfl⟩ : ∃ n : Nat, h = n := ⟨h.toNat, by omega⟩
  obtain ⟨w2, hmk, hO2, hb2⟩ := make_nats w1 n (S + 1) (by omega) (by rw [HZ1.out]; exact Nat.le_refl _)
  rw [HZ1.out] at hmk hO2 hb2
  have HO2 := Lib.hid hO2
  have HB2 := Lib.hid hb2
  have HW' := HW.out
  clear hO2 hb2
  go_enter Try.func16, Try.ntmps16
  go_wp2_with fail
  rw [HS.out]
  have hz2 : S + 2 ≤ w2.heap.size := by have := (World.ownsRow.lt HO2.out (S + 1) rfl).2; omega
  clear HW' hmk q0 q1 q2 r0 r1 r2
  go_loopw [9, 29, 30, 31, 32, 33, 34, 35, 36, 37] (fun x _ _ _ _ _ _ _ _ _ wr => ∃ k : Nat, x = .int .i64 k ∧ 2 ≤ k ∧ k ≤ n ∧ Hid (OwnN wr (S + 1) (.slice (some ⟨S + 1, 0, none⟩) n n) (onesUpto n k)) ∧ Hid (Below (S + 1) w1 wr))
    (fun x _ _ _ _ _ _ _ _ _ _ => n - (intOf x).toNat)
  case atStart => exact ⟨2, rfl, Nat.le_refl _, by omega, Lib.hid (by rw [onesUpto_two]; exact HO2.out), HB2⟩
  case round =>
    obtain ⟨k, rfl, hk2, hk, HO, HB⟩ := hrel
    by_cases hlt : k < n
    · have hfk := ownN_frozen (show OwnN wr (S + 1) (.slice (some ⟨S + 1, 0, none⟩) (onesUpto n k).length n) (onesUpto n k) from by rw [onesUpto_len]; exact HO.out) k
      have hck := ownN_cell (show OwnN wr (S + 1) (.slice (some ⟨S + 1, 0, none⟩) (onesUpto n k).length n) (onesUpto n k) from by rw [onesUpto_len]; exact HO.out) (k := k) (by rw [onesUpto_len]; exact hlt)
      generalize (onesUpto n k)[k]?.getD 0 = q at hck
      go_wp2
      go_roundw
      case rel =>
        refine ⟨k + 1, by go_num, by omega, by omega, Lib.hid ?_, Lib.hid (HB.out.setCell (p := ⟨S + 1, k, none⟩) (Nat.le_refl _) _)⟩
        rw [← onesUpto_set hk2 hlt]
        exact ownN_set HO.out k 1
      case measure => simp [intOf]; omega
    · have hO := HO.out
      rw [onesUpto_end (by omega)] at hO
      have HO3 := Lib.hid hO
      clear hO HO hk
      go_wp2_with fail
      clear hlt hk2
      have HM := Lib.hid (And.intro h1 (And.intro h2 (And.intro h3 h4)))
      go_loopw [10, 38, 39, 40, 41, 42, 43, 44, 45, 46, 47, 48, 49, 50, 51, 52, 53, 54, 55, 56, 57, 58, 59, 60, 61, 62, 63, 64, 65, 66, 67, 68, 69, 70, 71, 72, 74, 75, 76, 77, 78, 79] (fun x _ _ _ _ _ _ _ _ _ _ _ _ _ _ _ _ _ _ _ _ _ _ _ _ _ _ _ _ _ _ _ _ _ _ _ _ _ _ _ _ _ wq => ∃ k : Nat, x = .int .i64 k ∧ k ≤ l.length ∧ Hid (Rise n (l.take k)) ∧ Hid (OwnN wq (S + 1) (.slice (some ⟨S + 1, 0, none⟩) n n) (newList n (l.take k))) ∧ Hid (Below (S + 1) w1 wq))
        (fun x _ _ _ _ _ _ _ _ _ _ _ _ _ _ _ _ _ _ _ _ _ _ _ _ _ _ _ _ _ _ _ _ _ _ _ _ _ _ _ _ _ _ => l.length - (intOf x).toNat)
      case atStart => exact ⟨0, rfl, Nat.zero_le _, Lib.hid ⟨by simp, by simp⟩, HO3, HB⟩
      case round =>
        obtain ⟨k, rfl, hk, HRk, HOq, HBq⟩ := hrel
        by_cases hlt : k < l.length
        · obtain ⟨b, off, ea, hbN, hcs⟩ := HL.out (by rintro rfl; simp at hlt)
          subst ea
          rw [HS.out] at hbN
          have hxw := hcs k hlt
          have hc0 := ((HB1.out.trans (HBq.out.mono (Nat.le_succ S))).cell (p := ⟨b, off + k, none⟩) hbN).trans hxw
          have hLt := @Rise.lt n l
          have HTK := Lib.hid (int_take hlt)
          have hm0 : l[k]?.getD 0 ∈ l := by rw [List.getElem?_eq_getElem hlt]; exact List.getElem_mem hlt
          obtain ⟨x, hx⟩ : ∃ x, l[k]?.getD 0 = x := ⟨_, rfl⟩
          rw [hx] at hc0 HTK hm0 hxw
          have HCX := Lib.hid hxw
          have hbelow : Hid (Rise n l → ∀ y ∈ l.take k, y < x) := Lib.hid (fun hr y hy => by have := hr.lt hlt y hy; rwa [hx] at this)
          clear hLt hxw
          by_cases g1 : x < 2
          · have hno : Hid (¬ NewOk m n l) := Lib.hid (fun q => by have := (q.2.2.2.2.1 x hm0).1; omega)
            clear hm0 hx hcs hbelow HTK
            go_wp2
            go_quiet (fail)
            generalize hq5 : World.drewN wr _ = w5
            have hb5 : Below (S + 1) wr w5 := by rw [← hq5]; exact ⟨rfl, rfl, rfl, Nat.le_refl _, fun _ _ => rfl⟩
            have hbf : Below wr.heap.size wr w5 := by rw [← hq5]; exact ⟨rfl, rfl, rfl, Nat.le_refl _, fun _ _ => rfl⟩
            have hb15 := HBq.out.trans hb5
            have hO5 := ownN_below HOq.out hbf
            clear hq5 hb5 hbf
            have hr5 := (hb15.block S (Nat.lt_succ_self _)).trans HR1.out
            have r0 := cell_of_row w5 S 0 _ _ _ hr5
            have r1 := cell_of_row w5 S 1 _ _ _ hr5
            have r2 := cell_of_row w5 S 2 _ _ _ hr5
            have q0 := frozen_of_row w5 S 0 _ _ hr5
            have q1 := frozen_of_row w5 S 1 _ _ hr5
            have q2 := frozen_of_row w5 S 2 _ _ hr5
            simp only [List.getElem?_toArray, List.getElem?_cons_zero, List.getElem?_cons_succ] at r0 r1 r2
            have HR5 := Lib.hid hr5
            have HB5 := Lib.hid hb15
            clear hr5 hb15 hO5
            go_wp2
            have hr6 := set3_heap (.int .i64 0) (.slice none 0 0) (.slice none 0 0) HR5.out
            have hb6 := set3_below (HB1.out.trans (HB5.out.mono (Nat.le_succ S))) (Nat.le_refl S) (.int .i64 0) (.slice none 0 0) (.slice none 0 0)
            refine bodyPost_ret (results_cell_tmps rfl _ _ S 40 _ (0, 0) rfl hr6 Try.underlying40 (by kernel_rfl)) rfl ?_
            exact .inr ⟨hno.out, none, 0, 0, none, 0, 0, rfl, by rw [HS.out]; exact hb6⟩
          obtain ⟨xn, rfl⟩ : ∃ xn : Nat, x = xn := ⟨x.toNat, by omega⟩
          have g1' : ¬ xn < 2 := by omega
          by_cases g2 : n ≤ xn
          · have hno : Hid (¬ NewOk m n l) := Lib.hid (fun q => by have := (q.2.2.2.2.1 xn hm0).2; omega)
            clear hm0 hx hcs hbelow HTK
            go_wp2
            have t1 : decide ((xn : Int) < 2) = false := by simp; omega
            have t1' : decide (xn < 2) = false := by simp; omega
            have t2 : decide ((n : Int) ≤ (xn : Int)) = true := by simp; omega
            have t2' : decide (n ≤ xn) = true := by simp; omega
            go_quiet (fail)
            generalize hq5 : World.drewN wr _ = w5
            have hb5 : Below (S + 1) wr w5 := by rw [← hq5]; exact ⟨rfl, rfl, rfl, Nat.le_refl _, fun _ _ => rfl⟩
            have hbf : Below wr.heap.size wr w5 := by rw [← hq5]; exact ⟨rfl, rfl, rfl, Nat.le_refl _, fun _ _ => rfl⟩
            have hb15 := HBq.out.trans hb5
            have hO5 := ownN_below HOq.out hbf
            clear hq5 hb5 hbf t1 t1' t2 t2'
            have hr5 := (hb15.block S (Nat.lt_succ_self _)).trans HR1.out
            have r0 := cell_of_row w5 S 0 _ _ _ hr5
            have r1 := cell_of_row w5 S 1 _ _ _ hr5
            have r2 := cell_of_row w5 S 2 _ _ _ hr5
            have q0 := frozen_of_row w5 S 0 _ _ hr5
            have q1 := frozen_of_row w5 S 1 _ _ hr5
            have q2 := frozen_of_row w5 S 2 _ _ hr5
            simp only [List.getElem?_toArray, List.getElem?_cons_zero, List.getElem?_cons_succ] at r0 r1 r2
            have HR5 := Lib.hid hr5
            have HB5 := Lib.hid hb15
            clear hr5 hb15 hO5
            go_wp2
            have hr6 := set3_heap (.int .i64 0) (.slice none 0 0) (.slice none 0 0) HR5.out
            have hb6 := set3_below (HB1.out.trans (HB5.out.mono (Nat.le_succ S))) (Nat.le_refl S) (.int .i64 0) (.slice none 0 0) (.slice none 0 0)
            refine bodyPost_ret (results_cell_tmps rfl _ _ S 40 _ (0, 0) rfl hr6 Try.underlying40 (by kernel_rfl)) rfl ?_
            exact .inr ⟨hno.out, none, 0, 0, none, 0, 0, rfl, by rw [HS.out]; exact hb6⟩
          have fin : (∀ y ∈ l.take k, y < (xn : Int)) → Rise n (l.take (k + 1)) := fun hy => by rw [HTK.out]; exact HRk.out.snoc (by omega) (by omega) hy
          by_cases hk0 : 0 < k
          · have hkl : k - 1 < l.length := by omega
            have hcj := ((HB1.out.trans (HBq.out.mono (Nat.le_succ S))).cell (p := ⟨b, off + (k - 1), none⟩) hbN).trans (hcs (k - 1) hkl)
            have hle : ∀ z ∈ l.take k, z ≤ l[k - 1]?.getD 0 := fun z hz => by
              have hsub : l.take k = (l.take k).take ((k - 1) + 1) := by rw [List.take_take, show min (k - 1 + 1) k = k by omega]
              rw [hsub] at hz
              have := le_last HRk.out (k := k - 1) (by rw [List.length_take]; omega) z hz
              rwa [List.getElem?_take, if_pos (by omega)] at this
            have hmj : l[k - 1]?.getD 0 ∈ l.take k := by
              have e : (l.take k)[k - 1]? = l[k - 1]? := by rw [List.getElem?_take, if_pos (by omega)]
              rw [← e, List.getElem?_eq_getElem (by rw [List.length_take]; omega)]; exact List.getElem_mem _
            obtain ⟨y, hy⟩ : ∃ y, l[k - 1]?.getD 0 = y := ⟨_, rfl⟩
            rw [hy] at hcj hle hmj
            by_cases hlty : (xn : Int) ≤ y
            · have hno : Hid (¬ NewOk m n l) := Lib.hid (fun q => by have := hbelow.out q.2.2.2.2 y hmj; omega)
              clear hm0 hx hcs hbelow HTK fin hle hmj hy
              go_wp2
              have t1 : decide ((xn : Int) < 2) = false := by simp; omega
              have t1' : decide (xn < 2) = false := by simp; omega
              have t2 : decide ((n : Int) ≤ (xn : Int)) = false := by simp; omega
              have t2' : decide (n ≤ xn) = false := by simp; omega
              have t3 : decide ((0 : Int) < (k : Int)) = true := by simp; omega
              have t3' : decide (0 < k) = true := by simp; omega
              have t4 : decide ((xn : Int) ≤ y) = true := by simp; omega
              go_quiet (fail)
              generalize hq5 : World.drewN wr _ = w5
              have hb5 : Below (S + 1) wr w5 := by rw [← hq5]; exact ⟨rfl, rfl, rfl, Nat.le_refl _, fun _ _ => rfl⟩
              have hbf : Below wr.heap.size wr w5 := by rw [← hq5]; exact ⟨rfl, rfl, rfl, Nat.le_refl _, fun _ _ => rfl⟩
              have hb15 := HBq.out.trans hb5
              have hO5 := ownN_below HOq.out hbf
              clear hq5 hb5 hbf t1 t1' t2 t2'
              have hr5 := (hb15.block S (Nat.lt_succ_self _)).trans HR1.out
              have r0 := cell_of_row w5 S 0 _ _ _ hr5
              have r1 := cell_of_row w5 S 1 _ _ _ hr5
              have r2 := cell_of_row w5 S 2 _ _ _ hr5
              have q0 := frozen_of_row w5 S 0 _ _ hr5
              have q1 := frozen_of_row w5 S 1 _ _ hr5
              have q2 := frozen_of_row w5 S 2 _ _ hr5
              simp only [List.getElem?_toArray, List.getElem?_cons_zero, List.getElem?_cons_succ] at r0 r1 r2
              have HR5 := Lib.hid hr5
              have HB5 := Lib.hid hb15
              clear hr5 hb15 hO5
              go_wp2
              have hr6 := set3_heap (.int .i64 0) (.slice none 0 0) (.slice none 0 0) HR5.out
              have hb6 := set3_below (HB1.out.trans (HB5.out.mono (Nat.le_succ S))) (Nat.le_refl S) (.int .i64 0) (.slice none 0 0) (.slice none 0 0)
              refine bodyPost_ret (results_cell_tmps rfl _ _ S 40 _ (0, 0) rfl hr6 Try.underlying40 (by kernel_rfl)) rfl ?_
              exact .inr ⟨hno.out, none, 0, 0, none, 0, 0, rfl, by rw [HS.out]; exact hb6⟩
            · have HRn := Lib.hid (fin (fun z hz => by have := hle z hz; omega))
              clear hm0 hx hcs hbelow fin hle hmj hy
              go_wp2
              have t1 : decide ((xn : Int) < 2) = false := by simp; omega
              have t1' : decide (xn < 2) = false := by simp; omega
              have t2 : decide ((n : Int) ≤ (xn : Int)) = false := by simp; omega
              have t2' : decide (n ≤ xn) = false := by simp; omega
              have t3 : decide ((0 : Int) < (k : Int)) = true := by simp; omega
              have t3' : decide (0 < k) = true := by simp; omega
              have t4 : decide ((xn : Int) ≤ y) = false := by simp; omega
              go_quiet (fail)
              generalize hq5 : World.drewN wr _ = w5
              have hb5 : Below (S + 1) wr w5 := by rw [← hq5]; exact ⟨rfl, rfl, rfl, Nat.le_refl _, fun _ _ => rfl⟩
              have hbf : Below wr.heap.size wr w5 := by rw [← hq5]; exact ⟨rfl, rfl, rfl, Nat.le_refl _, fun _ _ => rfl⟩
              have hb15 := HBq.out.trans hb5
              have hO5 := ownN_below HOq.out hbf
              clear hq5 hb5 hbf t1 t1' t2 t2'
              have hfk := ownN_frozen (show OwnN w5 (S + 1) (.slice (some ⟨S + 1, 0, none⟩) (newList n (l.take k)).length n) (newList n (l.take k)) from by rw [newList_len]; exact hO5) xn
              have hcn := ownN_cell (show OwnN w5 (S + 1) (.slice (some ⟨S + 1, 0, none⟩) (newList n (l.take k)).length n) (newList n (l.take k)) from by rw [newList_len]; exact hO5) (k := xn) (by rw [newList_len]; omega)
              have hc := (((HB1.out.trans (hb15.mono (Nat.le_succ S))).cell (p := ⟨b, off + k, none⟩) hbN).trans HCX.out)
              generalize (newList n (l.take k))[xn]?.getD 0 = q at hcn
              have HO5 := Lib.hid hO5
              have HB5 := Lib.hid hb15
              clear hO5 hb15
              go_wp2
              go_roundw
              case rel =>
                refine ⟨k + 1, by go_num, by omega, HRn, Lib.hid ?_, Lib.hid (HB5.out.setCell (p := ⟨S + 1, xn, none⟩) (Nat.le_refl _) _)⟩
                rw [HTK.out, ← newList_snoc (l.take k) (by omega) (by omega)]
                exact ownN_set HO5.out xn 4
              case measure => simp [intOf]; omega
          · have HRn := Lib.hid (fin (fun z hz => by rw [show k = 0 by omega] at hz; simp at hz))
            clear hm0 hx hcs hbelow fin
            go_wp2
            have t1 : decide ((xn : Int) < 2) = false := by simp; omega
            have t1' : decide (xn < 2) = false := by simp; omega
            have t2 : decide ((n : Int) ≤ (xn : Int)) = false := by simp; omega
            have t2' : decide (n ≤ xn) = false := by simp; omega
            have t3 : decide ((0 : Int) < (k : Int)) = false := by simp; omega
            have t3' : decide (0 < k) = false := by simp; omega
            go_quiet (fail)
            generalize hq5 : World.drewN wr _ = w5
            have hb5 : Below (S + 1) wr w5 := by rw [← hq5]; exact ⟨rfl, rfl, rfl, Nat.le_refl _, fun _ _ => rfl⟩
            have hbf : Below wr.heap.size wr w5 := by rw [← hq5]; exact ⟨rfl, rfl, rfl, Nat.le_refl _, fun _ _ => rfl⟩
            have hb15 := HBq.out.trans hb5
            have hO5 := ownN_below HOq.out hbf
            clear hq5 hb5 hbf t1 t1' t2 t2'
            have hfk := ownN_frozen (show OwnN w5 (S + 1) (.slice (some ⟨S + 1, 0, none⟩) (newList n (l.take k)).length n) (newList n (l.take k)) from by rw [newList_len]; exact hO5) xn
            have hcn := ownN_cell (show OwnN w5 (S + 1) (.slice (some ⟨S + 1, 0, none⟩) (newList n (l.take k)).length n) (newList n (l.take k)) from by rw [newList_len]; exact hO5) (k := xn) (by rw [newList_len]; omega)
            have hc := (((HB1.out.trans (hb15.mono (Nat.le_succ S))).cell (p := ⟨b, off + k, none⟩) hbN).trans HCX.out)
            generalize (newList n (l.take k))[xn]?.getD 0 = q at hcn
            have HO5 := Lib.hid hO5
            have HB5 := Lib.hid hb15
            clear hO5 hb15
            go_wp2
            go_roundw
            case rel =>
              refine ⟨k + 1, by go_num, by omega, HRn, Lib.hid ?_, Lib.hid (HB5.out.setCell (p := ⟨S + 1, xn, none⟩) (Nat.le_refl _) _)⟩
              rw [HTK.out, ← newList_snoc (l.take k) (by omega) (by omega)]
              exact ownN_set HO5.out xn 4
            case measure => simp [intOf]; omega
        · obtain rfl : k = l.length := by omega
          have hRl := HRk.out
          have hOl := HOq.out
          rw [List.take_length] at hRl hOl
          have hr5 := (HBq.out.block S (Nat.lt_succ_self _)).trans HR1.out
          have r0 := cell_of_row wr S 0 _ _ _ hr5
          have r1 := cell_of_row wr S 1 _ _ _ hr5
          have r2 := cell_of_row wr S 2 _ _ _ hr5
          have q0 := frozen_of_row wr S 0 _ _ hr5
          have q1 := frozen_of_row wr S 1 _ _ hr5
          have q2 := frozen_of_row wr S 2 _ _ hr5
          simp only [List.getElem?_toArray, List.getElem?_cons_zero, List.getElem?_cons_succ] at r0 r1 r2
          have HR5 := Lib.hid hr5
          have HRL := Lib.hid hRl
          have HOL := Lib.hid hOl
          clear hr5 hRl hOl
          go_wp2
          obtain ⟨g1, g2, g3, g4⟩ := HM.out
          have hr6 := set3_heap (.int .i64 m) (.slice (some ⟨S + 1, 0, none⟩) n n) (.slice (some ⟨S + 1, 0, none⟩) n n) HR5.out
          refine bodyPost_ret (results_cell_tmps rfl _ _ S 40 _ (0, 0) rfl hr6 Try.underlying40 (by kernel_rfl)) rfl ?_
          have hO' := ownN_set3 HOL.out (g := S) (by simp [Value.ownBlock]) (.int .i64 m) (.slice (some ⟨S + 1, 0, none⟩) n n) (.slice (some ⟨S + 1, 0, none⟩) n n)
          obtain ⟨a3, c3, ev, hN, hno, hle⟩ := ownN_lies hO'
          have hB' := set3_below (HB1.out.trans (HBq.out.mono (Nat.le_succ S))) (Nat.le_refl S) (.int .i64 m) (.slice (some ⟨S + 1, 0, none⟩) n n) (.slice (some ⟨S + 1, 0, none⟩) n n)
          have eln := newList_len n l
          rw [eln] at ev hle
          cases ev
          have eg : (GSp.new m n l).now = newList n l := rfl
          have el : (GSp.new m n l).last = newList n l := rfl
          refine .inl ⟨⟨g1, g2, g3, g4, HRL.out⟩, _, rfl, some ⟨S + 1, 0, none⟩, n, some ⟨S + 1, 0, none⟩, n, by unfold gval; rw [eg, el, eln]; rfl, ⟨by rw [eg]; exact hN, by rw [el]; exact hN, hno, hno, by rw [eg, eln]; exact Nat.le_refl _, by rw [el, eln]; exact Nat.le_refl _, by rw [eg, eln]; omega, by rw [el, eln]; omega⟩, by rw [HS.out]; exact hB'⟩
end Go.Proofs.Ytmjjgdoekblelaa
