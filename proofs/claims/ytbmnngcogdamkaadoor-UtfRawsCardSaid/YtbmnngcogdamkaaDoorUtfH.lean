/- Layer 12: a rune's bytes, laid behind others. -/
import Derived.Deep.RegionHeld3
import Derived.Deep.AppendLies
import Derived.Test.YtbmnngcogdamkaaDoorUtfB
import Derived.Test.YtbmnngcogdamkaaDoorUtfC
import Derived.Test.YtbmnngcogdamkaaDoorWireB
import Derived.Test.YtbmnngcogdamkaaDoorStops
namespace Go.Proofs.YtbmnngcogdamkaaDoor
open Go.RowKit

/-- The bytes behind the first one: the j-th from behind. -/
def tailB (r j : Nat) : Nat := 128 + r / 64 ^ (j - 1) % 64
def headB (r : Nat) : Nat := leadOf (lenB r) + r / 64 ^ lenB r
theorem rawR_head (r : Nat) (hm : mayN r = true) : (rawR r).take 1 = [UInt8.ofNat (headB r)] ∧ headB r < 256 ∧ r / 64 ^ lenB r < 128 := by
  have hlt := mayN_lt hm
  unfold headB
  rcases Nat.lt_or_ge r 128 with h | h
  · rw [show lenB r = 0 by unfold lenB; rw [if_pos h]]
    unfold rawR; rw [if_pos h]; simp [leadOf]; omega
  rcases Nat.lt_or_ge r 2048 with h' | h'
  · rw [show lenB r = 1 by unfold lenB; rw [if_neg (by omega), if_pos h']]
    unfold rawR; rw [if_neg (by omega), if_pos h']; simp [leadOf]; omega
  rcases Nat.lt_or_ge r 65536 with h'' | h''
  · rw [show lenB r = 2 by unfold lenB; rw [if_neg (by omega), if_neg (by omega), if_pos h'']]
    unfold rawR; rw [if_neg (by omega), if_neg (by omega), if_pos h'']; simp [leadOf]; omega
  · rw [show lenB r = 3 by unfold lenB; rw [if_neg (by omega), if_neg (by omega), if_neg (by omega)]]
    unfold rawR; rw [if_neg (by omega), if_neg (by omega), if_neg (by omega)]; simp [leadOf]; omega
theorem rawR_tail (r j : Nat) (h1 : 1 ≤ j) (hj : j ≤ lenB r) : (rawR r).take (lenB r - j + 2) = (rawR r).take (lenB r - j + 1) ++ [UInt8.ofNat (tailB r j)] := by
  unfold tailB
  rcases Nat.lt_or_ge r 128 with h | h
  · rw [show lenB r = 0 by unfold lenB; rw [if_pos h]] at hj
    omega
  rcases Nat.lt_or_ge r 2048 with h' | h'
  · rw [show lenB r = 1 by unfold lenB; rw [if_neg (by omega), if_pos h']] at hj ⊢
    obtain rfl : j = 1 := by omega
    unfold rawR; rw [if_neg (by omega), if_pos h']; simp
  rcases Nat.lt_or_ge r 65536 with h'' | h''
  · rw [show lenB r = 2 by unfold lenB; rw [if_neg (by omega), if_neg (by omega), if_pos h'']] at hj ⊢
    have : j = 1 ∨ j = 2 := by omega
    unfold rawR; rw [if_neg (by omega), if_neg (by omega), if_pos h'']
    rcases this with rfl | rfl <;> simp
  · rw [show lenB r = 3 by unfold lenB; rw [if_neg (by omega), if_neg (by omega), if_neg (by omega)]] at hj ⊢
    have : j = 1 ∨ j = 2 ∨ j = 3 := by omega
    unfold rawR; rw [if_neg (by omega), if_neg (by omega), if_neg (by omega)]
    rcases this with rfl | rfl | rfl <;> simp
theorem shr_at (r c : Nat) (z : Int) (w : World) (hz : IntKind.i64.wrap z = c) (hc : c ≤ 32) : (Op.shift .shr .i32 (r : Int) .i64 (IntKind.i64.wrap z)).run Tryd.prog w = .ok (.int .i32 ((r / 2 ^ c : Nat) : Int)) w := by
  rw [hz]
  unfold Op.shift
  rw [if_neg (by omega)]
  have : min ((c : Int)).toNat IntKind.i32.bits = c := by
    show min ((c : Int)).toNat 32 = c
    omega
  simp only [this, Sem.run_pure]
  have hp : (0 : Int) ≤ 2 ^ c := by
    have := Nat.two_pow_pos c
    have e : ((2 ^ c : Nat) : Int) = 2 ^ c := Int.natCast_pow 2 c
    omega
  rw [Int.fdiv_eq_ediv_of_nonneg _ hp, Int.natCast_ediv, Int.natCast_pow]
  rfl
theorem shr_to (r c : Nat) (hc : c ≤ 32) (w : World) : (Op.shift .shr .i32 (r : Int) .i64 (c : Int)).run Tryd.prog w = .ok (.int .i32 ((r / 2 ^ c : Nat) : Int)) w := by
  have h := shr_at r c c w (by show IntKind.i64.wrap (c : Int) = c; exact IntWalk.i64_in _ (by omega)) hc
  rwa [show IntKind.i64.wrap (c : Int) = c from IntWalk.i64_in _ (by omega)] at h
theorem pow_six (r n : Nat) : r / 2 ^ (n * 6) = r / 64 ^ n := by rw [Nat.mul_comm, Nat.pow_mul]
theorem laid_one {w1 : World} {base : Nat} {l : List UInt8} {x gg cap : Nat} (hx : x < 256) (h : w1.ownsRow base 5 1 (.slice (some ⟨gg, 0, none⟩) (l.length + 1) cap) (l.length + 1) (byteVals l ++ [.int .u8 (x : Int)])) :
    OwnB w1 base (.slice (some ⟨gg, 0, none⟩) (l.length + 1) cap) (l ++ [UInt8.ofNat x]) := by
  have e : byteVals (l ++ [UInt8.ofNat x]) = byteVals l ++ [.int .u8 (x : Int)] := by
    unfold byteVals; rw [List.map_append, List.map_cons, List.map_nil, toNat_of hx]
  unfold OwnB
  rw [e, List.length_append]; exact h
theorem goes_one {w w1 : World} {o : Obj} {v : Value} {gg n cap : Nat} (hg : (w.alloc o).drew.grownBy w1 v.ownBlock) (hat : v.ownBlock = some gg ∨ gg = w.heap.size + 1) : Goes w w1 v (.slice (some ⟨gg, 0, none⟩) n cap) :=
  Goes.alloc (o := o) ⟨⟨hg.os, hg.tape, hg.output, hg.size, hg.block⟩, hat.elim (fun h => .inl h.symm) (fun h => .inr ⟨gg, rfl, by simp; omega⟩)⟩
theorem lead_at {w : World} (ht : Tabs w) (n : Nat) (hn : n ≤ 3) : w.cell? ⟨0, n, none⟩ = some (.int .u8 (leadOf n : Nat)) := by
  have key : n = 0 ∨ n = 1 ∨ n = 2 ∨ n = 3 := by omega
  rcases key with rfl | rfl | rfl | rfl
  · exact ht.l0
  · exact ht.l1
  · exact ht.l2
  · exact ht.l3
theorem or_lead (n q : Nat) (hn : n ≤ 3) (hq : n = 0 ∧ q < 128 ∨ n = 1 ∧ q < 32 ∨ n = 2 ∧ q < 16 ∨ n = 3 ∧ q < 8) : bits .or .u8 (leadOf n : Int) (q : Int) = ((leadOf n + q : Nat) : Int) := by
  rcases hq with ⟨rfl, h⟩ | ⟨rfl, h⟩ | ⟨rfl, h⟩ | ⟨rfl, h⟩
  · have := (bits_nat .u8 8 (by decide) wraps_u8 0 q (by decide) (by omega)).2
    simpa [leadOf] using this
  · show bits .or .u8 192 (q : Int) = _
    rw [u8_or192 _ (by omega) (by omega)]; simp [leadOf]
  · show bits .or .u8 224 (q : Int) = _
    rw [u8_or224 _ (by omega) (by omega)]; simp [leadOf]
  · show bits .or .u8 240 (q : Int) = _
    rw [u8_or240 _ (by omega) (by omega)]; simp [leadOf]
theorem head_small {r : Nat} (hm : mayN r = true) : lenB r = 0 ∧ r / 64 ^ lenB r < 128 ∨ lenB r = 1 ∧ r / 64 ^ lenB r < 32 ∨ lenB r = 2 ∧ r / 64 ^ lenB r < 16 ∨ lenB r = 3 ∧ r / 64 ^ lenB r < 8 := by
  have hlt := mayN_lt hm
  rcases Nat.lt_or_ge r 128 with h | h
  · rw [show lenB r = 0 by unfold lenB; rw [if_pos h]]; omega
  rcases Nat.lt_or_ge r 2048 with h' | h'
  · rw [show lenB r = 1 by unfold lenB; rw [if_neg (by omega), if_pos h']]; omega
  rcases Nat.lt_or_ge r 65536 with h'' | h''
  · rw [show lenB r = 2 by unfold lenB; rw [if_neg (by omega), if_neg (by omega), if_pos h'']]; omega
  · rw [show lenB r = 3 by unfold lenB; rw [if_neg (by omega), if_neg (by omega), if_neg (by omega)]]; omega
set_option maxRecDepth 100000 in
set_option maxHeartbeats 4000000 in
theorem lay_any (r : Nat) (hm : mayN r = true) (w : World) (ht : Tabs w) (base : Nat) (v : Value) (l : List UInt8) (hO : OwnB w base v l) (h2 : 2 ≤ base) (hb : base ≤ w.heap.size) (hl : l.length ≤ 1000000) :
    Calls Tryd.prog 27 #[v, .int .i32 r] w fun e w' => ∃ v', e = .returned v' ∧ OwnB w' base v' (l ++ rawR r) ∧ Goes w w' v v' := by
  have hlt := mayN_lt hm
  have hB := behind_any (r : Int) w ht
  rw [lenZ_nat] at hB
  have hle := lenB_le r
  obtain ⟨hh1, hh2, hh3⟩ := rawR_head r hm
  have hsm := head_small hm
  have hlc := lead_at ht (lenB r) hle
  have HL := Lib.hid (fun j => rawR_tail r j)
  have HR := Lib.hid (rawR_length r)
  have HB := Lib.hid hB
  unfold headB at hh1 hh2
  generalize lenB r = n at *
  obtain ⟨q, hq⟩ : ∃ q, r / 64 ^ n = q := ⟨_, rfl⟩
  have hor := or_lead n q hle (by rw [← hq]; exact hsm)
  have hsh := shr_at r (n * 6) ((n : Int) * 6)
  rw [pow_six, hq] at hsh
  have hsh1 : ∀ w, (Op.shift .shr .i32 (r : Int) .i64 (IntKind.i64.wrap ((n : Int) * 6))).run Tryd.prog w = .ok (.int .i32 (q : Int)) w := fun w => hsh w (IntWalk.i64_in _ (by omega)) (by omega)
  rw [hq] at hh1 hh2 hh3
  have hw : IntKind.u8.wrap (q : Int) = q := by rw [wraps_u8 _ (by omega) (by omega)]
  clear hB ht hm hsm hsh hq
  obtain ⟨ld, hld⟩ : ∃ ld, leadOf n = ld := ⟨_, rfl⟩
  rw [hld] at hlc hor hh1 hh2
  clear hld
  have HH := Lib.hid hh1
  have hn0 : (0 : Int) ≤ n := by omega
  have hn4 : (n : Int) < 4 := by omega
  have ag : v.ownBlock ≠ some 0 := fun e => by have := hO.block _ e; omega
  have hown : w.ownsRow base 5 1 v l.length (byteVals l) := hO
  have hnm : l.length + 1 ≤ maxLen := by unfold maxLen; omega
  have hbb : (l.length + 1) * 1 ≤ 140737488355328 := by omega
  obtain ⟨i0, hi0, hz0, hz1, hz2⟩ := info_parts infoU8
  have lg := World.block_lt_of_cell? w _ hlc
  clear hh1
  go_enter Tryd.func27, Tryd.ntmps27
  go_wp2_with (go_at_call 29; refine HB.out.mono ?_; rintro e w' ⟨rfl, rfl⟩)
  go_region_held3 (fun w' => w'.cell? ⟨0, n, none⟩ = some (.int .u8 ld))
    (first
      | go_keep
      | (go_split_ands; (rw [hgrow.cell_far _ (by simp) (Ne.symm ag)]; assumption)))
    ((refine step_append_lies _ (by rfl) _ _ _ (by rfl) base 5 i0 _ 1 1 Tryd.underlying51 hi0 hz0 hz1 hz2 rfl (by omega) v l.length (byteVals l) (by rfl) ((hown.alloc _).drew) ⟨w.heap.size, 0, none⟩ 1 1 [.int .u8 ((ld + q : Nat) : Int)] (by rfl) (by rfl) (World.news_of_block (cs := #[.int .u8 ((ld + q : Nat) : Int)]) (t := 5) (fr := (0, 0)) (heap_alloc_new w _)) (by simp [Value.oneCell']) (by omega) hnm hbb (by simp; omega) (w.heap.size + 1) (by simp) ?_; intro gg cap w1 hown1 hgrow hat hlt1))
  have hO1 := laid_one hh2 hown1
  have hG1 := goes_one (n := l.length + 1) (cap := cap) hgrow hat
  rw [← HH.out] at hO1
  have HO1 := Lib.hid hO1
  have HG1 := Lib.hid hG1
  clear hO1 hG1 hown1 hgrow hat hlt1 hsh1 hw hor hlc hlt hn4 ag hown hnm hbb lg hO hh2 hh3 HB i0 hi0 hz0 hz1 hz2
  rw [show IntKind.i64.wrap ((n : Int) * 6) = n * 6 from IntWalk.i64_in _ (by omega)]
  go_wp2
  go_loopw [0, 5, 20, 21, 22, 23, 24, 25, 26, 27, 28, 29, 30, 31, 32, 33, 34] (fun u x _ _ _ _ _ _ _ _ _ _ _ _ _ _ _ wr => ∃ j : Nat, j ≤ n ∧ x = .int .i64 j ∧ OwnB wr base u (l ++ (rawR r).take (n - j + 1)) ∧ Goes w wr v u)
    (fun _ x _ _ _ _ _ _ _ _ _ _ _ _ _ _ _ _ => (intOf x).toNat)
  case atStart => exact ⟨n, Nat.le_refl _, rfl, by rw [Nat.sub_self]; exact HO1.out, HG1.out⟩
  case round =>
    obtain ⟨j, hj, rfl, hOr, hG⟩ := hrel
    by_cases hj0 : 0 < j
    · have hst := HL.out j hj0 hj
      have h1 := one_byte wr (UInt8.ofNat (tailB r j))
      have hx : ((UInt8.ofNat (tailB r j)).toNat : Int) = 128 + (r : Int) / 2 ^ ((j - 1) * 6) % 64 := by
        rw [toNat_of (by unfold tailB; omega)]
        unfold tailB
        rw [← pow_six, Int.natCast_add, Int.natCast_emod, Int.natCast_ediv, Int.natCast_pow]
        rfl
      rw [hx] at h1
      have hOr1 := hOr.alloc (.cells #[.int .u8 (128 + (r : Int) / 2 ^ ((j - 1) * 6) % 64)] 5)
      have hq : (l ++ (rawR r).take (n - j + 1)).length + 1 ≤ 1099511627776 := by
        rw [List.length_append, List.length_take, HR.out]; omega
      have hbs := hOr.1
      have HS := Lib.hid hst
      have hszw : base ≤ wr.heap.size := Nat.le_trans hb hG.grown.size
      clear hx hst
      go_wp2_with (at_builtin; refine wpList_append_goes rfl _ _ rfl base (wr.heap.size + 1) _ _ rfl hOr1 ⟨wr.heap.size, 0, none⟩ [UInt8.ofNat (tailB r j)] 1 rfl h1 hq (by simp; omega) ?_; intro v' w' O' G' _)
      go_roundw
      case rel => exact ⟨j - 1, by omega, by go_num, by rw [show n - (j - 1) + 1 = n - j + 2 by omega, HS.out, ← List.append_assoc]; exact O', hG.trans G'.alloc⟩
      case measure => simp [intOf]; omega
    · obtain rfl : j = 0 := by omega
      have he : (rawR r).take (n - 0 + 1) = rawR r := List.take_of_length_le (by rw [HR.out]; omega)
      rw [he] at hOr
      go_wp2
      go_ret
      exact ⟨_, rfl, hOr, hG⟩
end Go.Proofs.YtbmnngcogdamkaaDoor
