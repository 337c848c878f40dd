/- Layer 5: Raw. -/
import Derived.Test.YtaceebgcaghocaaSlP
namespace Go.Proofs.Ytaceebgcaghocaa
open Go.RowKit

def headsUpto (ls : List (List UInt8)) (i : Nat) : List UInt8 := (List.range i).flatMap fun j => laidB (2 + 2 * ls.length + (ls.take j).flatten.length) 2 2
theorem headsUpto_succ (ls : List (List UInt8)) (i : Nat) : headsUpto ls (i + 1) = headsUpto ls i ++ laidB (2 + 2 * ls.length + (ls.take i).flatten.length) 2 2 := by simp [headsUpto, List.range_succ]
theorem headsUpto_len (ls : List (List UInt8)) (i : Nat) : (headsUpto ls i).length = 2 * i := by
  induction i with
  | zero => rfl
  | succ i ih => rw [headsUpto_succ, List.length_append, ih, laidB_len]; omega
def rawB (ls : List (List UInt8)) : List UInt8 := laidB ls.length 2 2 ++ headsUpto ls ls.length ++ ls.flatten
theorem takenN_flat (ls : List (List UInt8)) : takenN ls = 2 * ls.length + ls.flatten.length := by
  induction ls with
  | nil => rfl
  | cons l ls ih =>
    have e : takenN (l :: ls) = 2 + l.length + takenN ls := by simp [takenN]
    rw [e, ih, List.flatten_cons, List.length_append, List.length_cons]; omega
theorem rawB_len (ls : List (List UInt8)) : (rawB ls).length = 2 + takenN ls := by
  unfold rawB
  rw [List.length_append, List.length_append, laidB_len, headsUpto_len, takenN_flat]; omega
theorem take_flat_le (ls : List (List UInt8)) (i : Nat) : (ls.take i).flatten.length ≤ ls.flatten.length := by
  have : ls.flatten = (ls.take i).flatten ++ (ls.drop i).flatten := by rw [← List.flatten_append, List.take_append_drop]
  rw [this, List.length_append]; omega
def RawC (w : World) (k : Int) (L : List Cv) (e : Ending) (w' : World) : Prop := Below w.heap.size w w' ∧
  ((¬ RightC k L ∧ e = .returned (.tuple #[.slice none 0 0, .int .i64 2])) ∨
   (RightC k L ∧ 232 < 2 + takenN (bytesOf (k == 2) L) ∧ e = .returned (.tuple #[.slice none 0 0, .int .i64 150])) ∨
   (RightC k L ∧ 2 + takenN (bytesOf (k == 2) L) ≤ 232 ∧ ∃ v, e = .returned (.tuple #[v, .int .i64 0]) ∧ OwnB w' w.heap.size v (rawB (bytesOf (k == 2) L))))
set_option maxRecDepth 100000 in
set_option maxHeartbeats 4000000 in
theorem rawC_any (k : Int) (hw : (Lit.int .i64 k).wf = true) (w : World) (a : Option Addr) (L : List Cv) (cap : Nat) (hcap : L.length ≤ 1000) (hm : CellsAt w.heap.size w a L) :
    Calls Try.prog 8 #[.int .i64 k, .slice a L.length cap] w fun e w' => RawC w k L e w' := by
  have HC := Lib.hid (laid_any k hw w a L cap hcap hm)
  clear hm
  go_enter Try.func8, Try.ntmps8
  go_wp2_with fail
  refine HC.out.mono ?_
  rintro e w1 ⟨hb, ⟨hr, v, rfl, hO⟩ | ⟨hr, rfl⟩⟩
  case inr =>
    have H := Lib.hid (And.intro hb hr)
    clear hb hr HC
    go_wp2
    go_ret2
    exact ⟨H.out.1, .inl ⟨H.out.2, rfl⟩⟩
  obtain ⟨ls, hls⟩ : ∃ ls, bytesOf (k == 2) L = ls := ⟨_, rfl⟩
  have hlen : ls.length = L.length := by rw [← hls, bytesOf_len]
  have hle9 : ∀ l ∈ ls, l.length ≤ 900 := by rw [← hls]; exact bytesOf_le _ _
  rw [hls] at hO
  obtain ⟨a1, c1, rfl, hR, hc1⟩ := hO.bs
  have hT := taken_any ls a1 c1 w1 hR.run (by rw [hlen]; exact hcap) hle9
  have hflat := takenN_flat ls
  obtain ⟨t, ht⟩ : ∃ t, takenN ls = t := ⟨_, rfl⟩
  have htl := takenN_le ls hle9
  rw [ht] at hT hflat htl
  have htb : t ≤ 1000000 := by omega
  obtain ⟨n, hn⟩ : ∃ n, ls.length = n := ⟨_, rfl⟩
  have HT := Lib.hid hT
  rw [hn] at HT
  have HB := Lib.hid (And.intro hb (And.intro hr (And.intro hls (And.intro ht (And.intro hn (And.intro hR hflat))))))
  rw [hn]
  clear hb hr hls ht hT hR hflat hlen hle9 htl hO hn HC
  go_wp2_with fail
  refine HT.out.mono ?_
  rintro e w2 ⟨rfl, rfl⟩
  by_cases hfit : 2 + t ≤ 232
  case neg =>
    have hd : (232 : Int) < 2 + (t : Int) := by omega
    have HN := Lib.hid hfit
    clear hfit
    go_wp2
    go_ret2
    exact ⟨HB.out.1, .inr (.inl ⟨HB.out.2.1, by rw [HB.out.2.2.1, HB.out.2.2.2.1]; have := HN.out; omega, rfl⟩)⟩
  have hd : ¬ (232 : Int) < 2 + (t : Int) := by omega
  have hd2 : decide ((232 : Int) < 2 + (t : Int)) = false := decide_eq_false hd
  have hnt : 2 * n ≤ t := by have := HB.out.2.2.2.2.2.2; have := HB.out.2.2.2.2.1; omega
  go_wp2_with fail
  refine (newWriter_any w1).mono ?_
  rintro e w3 ⟨rfl, hW, hb3⟩
  have HF := Lib.hid (wNum_fits (l := []) (n := n) (k := 2) (by omega) (by omega) (by have : (2:Nat) ^ (8 * 2) = 65536 := rfl; omega) (by simp))
  have HW := Lib.hid (And.intro hW hb3)
  have HC := Lib.hid (wnum_any hW n 2)
  clear hW hb3
  go_wp2_with fail
  refine HC.out.mono ?_
  rintro e w4 ⟨he, v4, hv4, hg4⟩
  rw [show ((2 : Int)) = ((2 : Nat) : Int) from rfl, HF.out, List.nil_append] at hv4
  subst he
  have hb4 : Below w1.heap.size w1 w4 := HW.out.2.trans (hg4.below HW.out.2.size (Nat.le_refl _) (fun k hk => by cases hk))
  have H4 := Lib.hid (And.intro hv4 hb4)
  clear hv4 hg4 hb4 HC HF
  go_wp2
  go_loopw [9, 10, 35, 36, 37, 38, 39, 40, 41, 42, 43, 44, 45, 46, 47, 48, 49] (fun p _ y _ _ _ _ _ _ _ _ _ _ _ _ _ _ wr => Below w1.heap.size w1 wr ∧ ∃ i : Nat, y = .int .i64 i ∧ i ≤ n ∧ p = .int .i64 (2 + 2 * n + (ls.take i).flatten.length : Nat) ∧ ∃ v, IsWr w1.heap.size wr w1.heap.size v (laidB n 2 2 ++ headsUpto ls i)) (fun _ _ y _ _ _ _ _ _ _ _ _ _ _ _ _ _ _ => n - (intOf y).toNat)
  case atStart => exact ⟨H4.out.2, 0, rfl, Nat.zero_le _, by simp, v4, by rw [show headsUpto ls 0 = [] from rfl, List.append_nil]; exact H4.out.1⟩
  case round =>
    obtain ⟨hb, i, rfl, hi, rfl, v5, hv5⟩ := hrel
    by_cases hlt : i < n
    · have hiN : (i : Int) < (n : Int) := by omega
      have hnn := HB.out.2.2.2.2.1
      have hil : i < ls.length := by omega
      obtain ⟨g, rfl, hg, hcs⟩ := (HB.out.2.2.2.2.2.1.below hb) (by rintro rfl; simp at hil)
      obtain ⟨a', c', hcell, -, -, -⟩ := hcs i hil
      have hfl : (ls.take (i + 1)).flatten.length = (ls.take i).flatten.length + (ls.getD i []).length := by rw [flat_succ hil, List.length_append]
      have hle1 := take_flat_le ls (i + 1)
      have hflat := HB.out.2.2.2.2.2.2
      obtain ⟨m, hm⟩ : ∃ m, (ls.getD i []).length = m := ⟨_, rfl⟩
      obtain ⟨q, hq⟩ : ∃ q, 2 + 2 * n + (ls.take i).flatten.length = q := ⟨_, rfl⟩
      have hq2 : 2 + 2 * n + (ls.take (i + 1)).flatten.length = q + m := by omega
      have hqb : q + m ≤ 300 := by omega
      have hsu := headsUpto_succ ls i
      rw [hnn, hq] at hsu
      rw [hm] at hcell
      rw [hq]
      have hll : (laidB n 2 2 ++ headsUpto ls i).length ≤ 1000 := by rw [List.length_append, laidB_len, headsUpto_len]; omega
      obtain ⟨l5, hl5⟩ : ∃ l, laidB n 2 2 ++ headsUpto ls i = l := ⟨_, rfl⟩
      have hnext : laidB n 2 2 ++ headsUpto ls (i + 1) = l5 ++ laidB q 2 2 := by rw [hsu, ← hl5, List.append_assoc]
      rw [hl5] at hv5 hll
      have HF := Lib.hid (wNum_fits (l := l5) (n := q) (k := 2) (by omega) (by omega) (by have : (2:Nat) ^ (8 * 2) = 65536 := rfl; omega) (by omega))
      have HC := Lib.hid (wnum_any hv5 q 2)
      have HX := Lib.hid (And.intro hb (And.intro hv5 (And.intro hnext (And.intro hq2 hg))))
      clear hb hv5 hcs hfl hle1 hflat hm hq hq2 hsu hll hl5 hnext hnn hil
      go_wp2_with fail
      refine HC.out.mono ?_
      rintro e w6 ⟨he, v6, hv6, hg6⟩
      rw [show ((2 : Int)) = ((2 : Nat) : Int) from rfl, HF.out] at hv6
      subst he
      have hb6 : Below w1.heap.size wr w6 := hg6.below HX.out.1.size (Nat.le_refl _) (fun k hk => own_ge HX.out.2.1.own hk)
      have hcell6 := (hb6.cell (p := ⟨g, i, none⟩) (Nat.lt_of_lt_of_le (by
        obtain ⟨g2, e2, hg2, -⟩ := HB.out.2.2.2.2.2.1 (by rintro rfl; have := HB.out.2.2.2.2.1; simp at this; omega)
        cases e2; exact hg2) (Nat.le_refl _))).trans hcell
      have H6 := Lib.hid (And.intro (HX.out.1.trans hb6) hv6)
      clear hv6 hg6 hb6 HC HF hcell
      go_wp2
      exact ⟨⟨H6.out.1, i + 1, by go_num, hlt, by rw [HX.out.2.2.2.1]; go_num, v6, by rw [HX.out.2.2.1]; exact H6.out.2⟩, by simp only [intOf]; omega⟩
    · obtain rfl : i = n := by omega
      have hiN : ¬ ((i : Int) < (i : Int)) := by omega
      have HBY := Lib.hid (wbytes_any hv5)
      have hnn := HB.out.2.2.2.2.1
      have HX := Lib.hid (And.intro hb hv5)
      clear hb hv5
      go_wp2_with fail
      refine HBY.out.mono ?_
      rintro e w6 ⟨v6, rfl, hO6, hb6⟩
      have hbw6 := go_on HX.out.1 hb6
      have hflat := HB.out.2.2.2.2.2.2
      have HCC := Lib.hid (concat_any w6 a1 c1 ls (HB.out.2.2.2.2.2.1.below hbw6) (by omega) (by omega))
      rw [hnn] at HCC
      have H6 := Lib.hid (And.intro hO6 (And.intro hb6 hbw6))
      clear hO6 hb6 hbw6 hflat
      go_wp2_with fail
      refine HCC.out.mono ?_
      rintro e w7 ⟨v7, rfl, hO7, hb7⟩
      obtain ⟨a7, c7, rfl, k2, k3, -, k5, -⟩ := hO7.form
      have hll : (laidB i 2 2 ++ headsUpto ls i).length ≤ 1000 := by rw [List.length_append, laidB_len, headsUpto_len]; omega
      have hfll : ls.flatten.length ≤ 1000 := by have := HB.out.2.2.2.2.2.2; omega
      have H7 := Lib.hid (And.intro (H6.out.1.below hb7) (And.intro (go_on H6.out.2.2 hb7) (And.intro k2 (And.intro k3 (And.intro k5 (And.intro hll hfll))))))
      have hsz := H6.out.2.1.size
      have hsz7 := hb7.size
      have HSZ := Lib.hid (And.intro hsz hsz7)
      obtain ⟨fl, hfle⟩ : ∃ k, ls.flatten.length = k := ⟨_, rfl⟩
      have HFL := Lib.hid hfle
      rw [hfle]
      clear hO7 hb7 k2 k3 k5 hll hfll HCC hsz hsz7 hfle
      go_wp2_with (at_builtin; refine wpList_append_bytes rfl (.tmp 51) (.tmp 53) rfl wr.heap.size w7.heap.size _ _ rfl H7.out.1 a7 ls.flatten c7 (by rw [HFL.out]; rfl) H7.out.2.2.2.2.1 H7.out.2.2.2.1 H7.out.2.2.1 (by have := H7.out.2.2.2.2.2; omega) (by have := HSZ.out; omega) ?_; intro v8 w8 hO8 hg8; have HV := Lib.hid (And.intro hO8 hg8); clear hO8 hg8)
      go_ret2
      have hown := fun k hk => own_ge H7.out.1 (g := k) hk
      have hbw8 : Below w1.heap.size w1 w8 := H7.out.2.1.grown HV.out.2 H7.out.2.1.size (fun k e => Nat.le_trans HX.out.1.size (hown k e))
      refine ⟨go_on HB.out.1 hbw8, .inr (.inr ⟨HB.out.2.1, by rw [HB.out.2.2.1, HB.out.2.2.2.1]; exact hfit, _, rfl, ?_⟩)⟩
      rw [HB.out.2.2.1]
      unfold rawB
      rw [hnn]
      exact HV.out.1.mono (Nat.le_trans HB.out.1.size HX.out.1.size)
end Go.Proofs.Ytaceebgcaghocaa
