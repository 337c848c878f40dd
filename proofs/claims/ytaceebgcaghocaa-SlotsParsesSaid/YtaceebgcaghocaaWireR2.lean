/- Layer 3: Rest; the parts of reading: hold, cut, number. -/
import Derived.Test.YtaceebgcaghocaaWireR
namespace Go.Proofs.Ytaceebgcaghocaa
open Go.RowKit

section
variable {n₀ : Nat} {w : World} {B : Nat} {v : Value} {l : List UInt8} {i : Nat}
theorem grownBy_drew' {a w : World} {row : Option Nat} (h : a.grownBy w row) : a.grownBy w.drew row := ⟨h.os, h.tape, h.output, h.size, h.block⟩
theorem part_at {ao : Option Addr} {cap : Nat} (h : IsRdAt n₀ w B (.slice ao l.length cap) l i) (k : Nat) (x : Value) :
    BytesAt ((w.setCell ⟨B, 2, none⟩ x).drew.drew).heap.size (w.setCell ⟨B, 2, none⟩ x).drew.drew (ao.map (fun a => a.add i)) ((l.drop i).take k) := fun hne => by
  rcases h.own.bytes with ⟨e, hl⟩ | ⟨g, c, e, hg, hgl, -, -, -, hc⟩
  · exact absurd (by rw [hl]; simp) hne
  · cases e
    have hgB : g ≠ B := fun e => h.ne (by rw [e]; rfl)
    have hsz : (w.setCell ⟨B, 2, none⟩ x).drew.drew.heap.size = w.heap.size := by simp [World.setCell]
    refine ⟨g, i, by rw [Option.map_some, addr_add, Nat.zero_add], by rw [hsz]; exact hgl, fun j hj => ?_⟩
    simp only [List.length_take, List.length_drop] at hj
    have h1 := (hc (i + j) (by omega)).1
    have hg := (grownBy_drew' (grownBy_drew' (set_grown w ⟨B, 2, none⟩ x))).cell h1 (fun e => hgB (Option.some.inj e))
    rw [hg, List.getElem?_take, if_pos (by omega), List.getElem?_drop]
def CutPost (n₀ : Nat) (w : World) (B : Nat) (v : Value) (l : List UInt8) (i k : Nat) (e : Ending) (w' : World) : Prop :=
    (l.length < i + k ∧ e = .returned (.tuple #[.slice none 0 0, .bool false]) ∧ Below w.heap.size w w') ∨
    (i + k ≤ l.length ∧ ∃ ao, e = .returned (.tuple #[.slice ao k k, .bool true]) ∧ BytesAt w'.heap.size w' ao ((l.drop i).take k) ∧ IsRdAt n₀ w' B v l (i + k) ∧ w.grownBy w' (some B))
theorem cut_any (h : IsRdAt n₀ w B v l i) (k : Nat) (hk : k ≤ 1000000) : Calls Try.prog 47 #[wptr B, .int .i64 k] w fun e w' => CutPost n₀ w B v l i k e w' := by
  have hc1 := h.cell1
  have hc2 := h.cell2
  have hf2 := h.frozen 2
  have hle := h.le
  have hlen := h.len
  obtain ⟨ao, cap, rfl, hm, h1, h2, h3, -⟩ := h.own.form
  by_cases hfit : l.length < i + k
  · have hd : decide (((l.length : Int) - (i : Int)) < (k : Int)) = true := by simp; omega
    clear h
    go_enter Try.func47, Try.ntmps47
    go_wp2
    go_region
    go_wp2
    go_ret2
    exact .inl ⟨hfit, rfl, (Below.refl _ _).drew⟩
  · have hd : decide (((l.length : Int) - (i : Int)) < (k : Int)) = false := by simp; omega
    have HS := Lib.hid (fun (w2 : World) (h2 : IsRdAt n₀ w2 B (.slice ao l.length cap) l i) => h2.set (j := i + k) (by omega))
    have e1 : ((i + k : Nat) : Int) = (i : Int) + (k : Int) := by omega
    have h3' := Lib.hid h3
    have H := Lib.hid h
    have hm' := Lib.hid hm
    clear h h3 hm
    go_enter Try.func47, Try.ntmps47
    go_wp2
    go_region
    go_wp2
    go_region
    go_wp2
    · go_ret2
      obtain rfl : k = 0 := by omega
      refine .inr ⟨by omega, _, rfl, fun hne => absurd (by simp) hne, ?_, ?_⟩
      · rw [← e1]
        exact (HS.out _ H.out).below (((Below.refl _ _).drew).drew)
      · exact grownBy_drew' (grownBy_drew' (set_grown w ⟨B, 2, none⟩ _))
    · go_ret2
      refine .inr ⟨by omega, _, rfl, ?_, ?_, ?_⟩
      · rw [← e1]
        exact part_at H.out k _
      · rw [← e1]
        exact (HS.out _ H.out).below (((Below.refl _ _).drew).drew)
      · exact grownBy_drew' (grownBy_drew' (set_grown w ⟨B, 2, none⟩ _))

/-- The number of some bytes, the higher ones first. -/
def numOf (l : List UInt8) : Nat := l.foldl (fun n b => n * 256 + b.toNat) 0
theorem numOf_snoc (l : List UInt8) (b : UInt8) : numOf (l ++ [b]) = numOf l * 256 + b.toNat := by simp [numOf]
theorem numOf_take {l : List UInt8} {j : Nat} (hj : j < l.length) : numOf (l.take (j + 1)) = numOf (l.take j) * 256 + (l[j]?.getD 0).toNat := by
  rw [List.take_succ_eq_append_getElem hj, numOf_snoc, List.getElem?_eq_getElem hj]
  rfl
theorem numOf_lt (l : List UInt8) : numOf l < 256 ^ l.length := by
  generalize hn : l.length = n
  induction n generalizing l with
  | zero => obtain rfl : l = [] := List.eq_nil_of_length_eq_zero hn; simp [numOf]
  | succ n ih =>
    have h1 : l = l.take n ++ [l[n]?.getD 0] := by
      rw [List.getElem?_eq_getElem (by omega)]
      simp only [Option.getD_some]
      rw [← List.take_succ_eq_append_getElem (by omega), List.take_of_length_le (by omega)]
    rw [h1, numOf_snoc]
    have h2 := ih (l.take n) (by simp; omega)
    have h3 : (l[n]?.getD 0).toNat < 256 := UInt8.toNat_lt _
    rw [Nat.pow_succ]
    omega
theorem wrapU64 (n : Int) : IntKind.u64.wrap n = n % 18446744073709551616 := by simp [IntKind.wrap, IntKind.bits, IntKind.signed]
theorem or_byte (x y : Nat) (hx : x < 72057594037927936) (hy : y < 256) : bits .or .u64 (IntKind.u64.wrap ((x : Int) * 256)) (IntKind.u64.wrap (y : Int)) = ((x * 256 + y : Nat) : Int) := by
  have e1 : IntKind.u64.wrap ((x : Int) * 256) = ((x * 256 : Nat) : Int) := by rw [wrapU64]; omega
  have e2 : IntKind.u64.wrap (y : Int) = (y : Int) := by rw [wrapU64]; omega
  rw [e1, e2, u64_or_nat _ _ (by omega) (by omega)]
  have := Nat.two_pow_add_eq_or_of_lt (i := 8) (b := y) (by omega) x
  rw [show x * 256 = 2 ^ 8 * x by omega, ← this]
def NumPost (n₀ : Nat) (w : World) (B : Nat) (v : Value) (l : List UInt8) (i k : Nat) (e : Ending) (w' : World) : Prop :=
    (l.length < i + k ∧ e = .returned (.tuple #[.int .u64 0, .bool false]) ∧ Below w.heap.size w w') ∨
    (i + k ≤ l.length ∧ e = .returned (.tuple #[.int .u64 (numOf ((l.drop i).take k) : Nat), .bool true]) ∧ IsRdAt n₀ w' B v l (i + k) ∧ w.grownBy w' (some B))
set_option maxHeartbeats 1000000 in
set_option maxRecDepth 100000 in
theorem number_any (h : IsRdAt n₀ w B v l i) (k : Nat) (hk : k ≤ 8) : Calls Try.prog 45 #[wptr B, .int .i64 k] w fun e w' => NumPost n₀ w B v l i k e w' := by
  have C := Lib.hid (cut_any h k (by omega))
  have hle := h.le
  clear h
  go_enter Try.func45, Try.ntmps45
  go_wp2_with (go_at_call 47; refine C.out.mono ?_; rintro e w' hcut; rcases hcut with ⟨hs, rfl, hb⟩ | ⟨hs, ao, rfl, hm, hR, hg⟩)
  · go_ret2
    exact .inl ⟨hs, rfl, hb⟩
  · obtain ⟨pt, hpt⟩ : ∃ pt, (l.drop i).take k = pt := ⟨_, rfl⟩
    have hpl : pt.length = k := by rw [← hpt]; simp; omega
    rw [hpt] at hm
    have HF := Lib.hid (show NumPost n₀ w B v l i k (.returned (.tuple #[.int .u64 (numOf pt : Nat), .bool true])) w' from .inr ⟨hs, by rw [hpt], hR, hg⟩)
    clear hs hR hg hpt C hle
    go_wp2
    go_loopw [8, 9, 19, 20, 21, 22, 23, 24, 25, 26, 27, 28, 29] (fun x _ y _ _ _ _ _ _ _ _ _ _ wr => wr = w' ∧ ∃ j : Nat, j ≤ k ∧ y = .int .i64 j ∧ x = .int .u64 (numOf (pt.take j) : Nat)) (fun _ _ y _ _ _ _ _ _ _ _ _ _ _ => k - (intOf y).toNat)
    case atStart => exact ⟨rfl, 0, Nat.zero_le _, rfl, by simp [numOf]⟩
    case round =>
      obtain ⟨rfl, j, hj, rfl, rfl⟩ := hrel
      by_cases hlt : j < k
      · obtain ⟨b, off, rfl, hb, hc⟩ := hm (by rintro rfl; simp at hpl; omega)
        have hcj := hc j (by omega)
        have hjk : (j : Int) < k := by omega
        have e1 : wrap64 ((j : Int) + 1) = ((j + 1 : Nat) : Int) := by unfold wrap64; omega
        have E1 := Lib.hid e1
        have hlt2 := numOf_lt (pt.take j)
        rw [List.length_take, show min j pt.length = j by omega] at hlt2
        clear e1 hc
        obtain ⟨x, hx⟩ : ∃ x, numOf (pt.take j) = x := ⟨_, rfl⟩
        obtain ⟨y, hy⟩ : ∃ y, pt[j]?.getD 0 = y := ⟨_, rfl⟩
        rw [hx] at hlt2 ⊢
        rw [hy] at hcj
        have hor := or_byte x y.toNat (by have := Nat.pow_le_pow_right (n := 256) (by omega) (show j ≤ 7 by omega); omega) (UInt8.toNat_lt y)
        go_wp2
        refine ⟨⟨trivial, j + 1, hlt, by rw [show ((j + 1 : Nat) : Int) = (j : Int) + 1 by omega], ?_⟩, ?_⟩
        · rw [numOf_take (by omega), hx, hy, show ((x * 256 + y.toNat : Nat) : Int) = (x : Int) * 256 + (y.toNat : Int) by omega]
        · simp only [intOf]; omega
      · obtain rfl : j = k := by omega
        have hjk : ¬ ((j : Int) < j) := by omega
        rw [List.take_of_length_le (by omega)]
        go_wp2
        go_ret2
        exact HF.out
end
end Go.Proofs.Ytaceebgcaghocaa
