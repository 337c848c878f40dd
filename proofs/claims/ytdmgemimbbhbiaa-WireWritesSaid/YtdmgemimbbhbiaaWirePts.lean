/- Layer 3: runs of parts that came in; the laws' own 'few'; the document's Read. -/
import Derived.Test.YtdmgemimbbhbiaaFours
import Derived.Test.YtdmgemimbbhbiaaWireP
namespace Go.Proofs.Ytdmgemimbbhbiaa
open Go.ChangeShapes Go.WideShapes Go.RowKit

structure PtV where
  kind : Int
  n : Nat
  bytes : Int
  text : ByteArray
instance : Inhabited PtV := ⟨⟨0, 0, 0, ByteArray.empty⟩⟩
structure PtOk (p : PtV) : Prop where
  n : p.n < 18446744073709551616
  lo : -9223372036854775808 ≤ p.bytes
  hi : p.bytes < 9223372036854775808
  text : p.text.size ≤ 9223372036854775807
/-- A part lies from a cell on. -/
structure PtAt (W : World) (b o : Nat) (p : PtV) : Prop where
  kind : W.cell? ⟨b, o, none⟩ = some (.int .i64 p.kind)
  n : W.cell? ⟨b, o + 1, none⟩ = some (.int .u64 p.n)
  bytes : W.cell? ⟨b, o + 2, none⟩ = some (.int .i64 p.bytes)
  text : W.cell? ⟨b, o + 3, none⟩ = some (.string p.text)
theorem PtAt.below {n₀ b o : Nat} {W W' : World} {p : PtV} (h : PtAt W b o p) (hb : Below n₀ W W') (hlt : b < n₀) : PtAt W' b o p :=
  ⟨(hb.cell (p := ⟨b, o, none⟩) hlt).trans h.kind, (hb.cell (p := ⟨b, o + 1, none⟩) hlt).trans h.n, (hb.cell (p := ⟨b, o + 2, none⟩) hlt).trans h.bytes, (hb.cell (p := ⟨b, o + 3, none⟩) hlt).trans h.text⟩
def PtsAt (n₀ : Nat) (W : World) (a : Option Addr) (ps : List PtV) : Prop := ps ≠ [] → ∃ b off, a = some ⟨b, off, none⟩ ∧ b < n₀ ∧ ∀ j, j < ps.length → PtAt W b (off + j * 4) (ps.getD j default) ∧ PtOk (ps.getD j default)
section
variable {H : Type} {enc : TypeId × Value → H}
set_option maxRecDepth 100000 in
theorem open_pts {base : Nat} {W : World} {v : Value} {d : DataW H} {ps : List MemPlace} (hok : Value.okWide Try.prog W .any base 69 v) (h : DataW.Trod enc Try.prog W 0 (fun _ => true) true 69 v d ps) :
    ∃ a L cap, v = .slice a (L : List PtV).length cap ∧ L.length ≤ cap ∧ cap ≤ maxLen ∧ PtsAt W.heap.size W a L := by
  obtain ⟨a, len, cap, rfl, hl, hm, hr⟩ := open_fours Try.underlying69 Try.underlying75 rfl (by kernel_rfl) (by kernel_rfl) hok h
  rcases hr with rfl | ⟨b, off, rfl, hb, hc⟩
  · exact ⟨a, [], cap, rfl, by simp, hm, fun h => absurd rfl h⟩
  · have key : ∀ i, ∃ p : PtV, i < len → PtAt W b (off + i * 4) p ∧ PtOk p := fun i => by
      by_cases hi : i < len
      · obtain ⟨c0, c1, c2, c3, h0, h1, h2, h3, hf⟩ := hc i hi
        obtain ⟨n0, y0, t0⟩ := hf 0 _ c0 rfl rfl
        obtain ⟨n1, y1, t1⟩ := hf 1 _ c1 rfl rfl
        obtain ⟨n2, y2, t2⟩ := hf 2 _ c2 rfl rfl
        obtain ⟨n3, y3, t3⟩ := hf 3 _ c3 rfl rfl
        obtain ⟨z0, rfl, w0⟩ := trod_int_of Try.underlying3 t0
        obtain ⟨z1, rfl, w1⟩ := trod_int_of Try.underlying73 t1
        obtain ⟨z2, rfl, w2⟩ := trod_int_of Try.underlying3 t2
        obtain ⟨s, rfl, w3⟩ := trod_string_of Try.underlying9 t3
        rw [addr_add] at h1 h2 h3
        have m1 : IntKind.u64.min = 0 := rfl
        have m2 : IntKind.u64.max = 18446744073709551615 := rfl
        have m3 : IntKind.i64.min = -9223372036854775808 := rfl
        have m4 : IntKind.i64.max = 9223372036854775807 := rfl
        simp only [Lit.wf, decide_eq_true_eq, Bool.and_eq_true] at w1 w2
        have hz : ((z1.toNat : Nat) : Int) = z1 := by omega
        refine ⟨⟨z0, z1.toNat, z2, s⟩, fun _ => ⟨⟨h0, by rw [hz]; exact h1, h2, h3⟩, ⟨?_, ?_, ?_, ?_⟩⟩⟩
        · show z1.toNat < _; omega
        · show _ ≤ z2; omega
        · show z2 < _; omega
        · show s.size ≤ _; unfold maxLen at w3; omega
      · exact ⟨default, fun h => absurd h hi⟩
    obtain ⟨f, hf⟩ := Classical.axiomOfChoice key
    refine ⟨_, (List.range len).map f, cap, by simp, by simpa using hl, hm, fun _ => ⟨b, off, rfl, hb, fun j hj => ?_⟩⟩
    have hj' : j < len := by simpa using hj
    have e1 : ((List.range len).map f).getD j default = f j := by simp [List.getD, hj']
    rw [e1]
    exact hf j hj'
end

def FewPost (w : World) (e : Ending) (w' : World) : Prop := ∃ b, e = .returned (.bool b) ∧ w = w'
set_option maxHeartbeats 1000000 in
set_option maxRecDepth 100000 in
theorem few_any (a : Option Addr) (L : List PtV) (cap : Nat) (hL : L.length ≤ 9223372036854775807) (w : World) (hm : PtsAt w.heap.size w a L) :
    Calls Try.prog 34 #[.slice a L.length cap] w fun e w' => FewPost w e w' := by
  have HM := Lib.hid hm
  clear hm
  go_enter Try.func34, Try.ntmps34
  go_wp2
  go_loopw [3, 4, 5, 6, 7, 8, 9, 10, 11, 12, 13, 14, 15, 16, 17, 18, 19, 20, 21, 22] (fun n y _ _ _ _ _ _ _ _ _ _ _ _ _ _ _ _ _ _ wr => wr = w ∧ ∃ (k : Nat) (z : Int), y = .int .i64 k ∧ n = .int .i64 z ∧ k ≤ L.length) (fun _ y _ _ _ _ _ _ _ _ _ _ _ _ _ _ _ _ _ _ _ => L.length - (intOf y).toNat)
  case atStart => exact ⟨rfl, 0, 0, rfl, rfl, Nat.zero_le _⟩
  case round =>
    obtain ⟨rfl, k, z, rfl, rfl, hk⟩ := hrel
    by_cases hlt : k < L.length
    · have hkL : (k : Int) < (L.length : Int) := by omega
      by_cases hz : z ≤ 70000
      · have hd : decide (z ≤ 70000) = true := by simpa using hz
        obtain ⟨b, off, rfl, hb, hcs⟩ := HM.out (by rintro rfl; simp at hlt)
        have hcl := (hcs k hlt).1.text
        obtain ⟨s, hs⟩ : ∃ s, (L.getD k default).text = s := ⟨_, rfl⟩
        rw [hs] at hcl
        clear hcs
        go_wp2
        exact ⟨⟨trivial, k + 1, _, by rw [show ((k + 1 : Nat) : Int) = (k : Int) + 1 by omega], rfl, hlt⟩, by simp only [intOf]; omega⟩
      · have hd : decide (z ≤ 70000) = false := by simpa using hz
        go_wp2
        all_goals
          go_ret
          exact ⟨_, rfl, rfl⟩
    · have hkL : ¬ ((k : Int) < (L.length : Int)) := by omega
      go_wp2
      all_goals
        go_ret
        exact ⟨_, rfl, rfl⟩
def RefReadPost (w : World) (l : List UInt8) (k : Nat) (e : Ending) (w' : World) : Prop :=
  e = .returned (if l.length < k then .tuple #[.int .u64 0, .bool false] else .tuple #[.int .u64 (numOf (l.take k) : Nat), .bool true]) ∧ w = w'
set_option maxHeartbeats 1000000 in
set_option maxRecDepth 100000 in
/-- The document's Read. -/
theorem refRead_any (ao : Option Addr) (l : List UInt8) (cap k n₁ : Nat) (hk : k ≤ 8) (w : World) (hm : BytesAt n₁ w ao l) (hl : l.length ≤ 1000000) :
    Calls Try.prog 46 #[.slice ao l.length cap, .int .i64 k] w fun e w' => RefReadPost w l k e w' := by
  by_cases hs : l.length < k
  · have hd : decide ((l.length : Int) < (k : Int)) = true := by simp; omega
    have P : RefReadPost w l k (.returned (.tuple #[.int .u64 0, .bool false])) w := ⟨by rw [if_pos hs], rfl⟩
    go_enter Try.func46, Try.ntmps46
    go_wp2
    go_ret2
    exact P
  · have hd : decide ((l.length : Int) < (k : Int)) = false := by simp; omega
    have P : RefReadPost w l k (.returned (.tuple #[.int .u64 (numOf (l.take k) : Nat), .bool true])) w := ⟨by rw [if_neg hs], rfl⟩
    have HP := Lib.hid P
    clear P
    go_enter Try.func46, Try.ntmps46
    go_wp2
    go_loopw [6, 7, 12, 13, 14, 15, 16, 17, 18, 19, 20, 21, 22, 23, 24] (fun x y _ _ _ _ _ _ _ _ _ _ _ _ _ wr => wr = w ∧ ∃ j : Nat, j ≤ k ∧ y = .int .i64 j ∧ x = .int .u64 (numOf (l.take j) : Nat)) (fun _ y _ _ _ _ _ _ _ _ _ _ _ _ _ _ => k - (intOf y).toNat)
    case atStart => exact ⟨rfl, 0, Nat.zero_le _, rfl, by simp [numOf]⟩
    case round =>
      obtain ⟨rfl, j, hj, rfl, rfl⟩ := hrel
      by_cases hlt : j < k
      · obtain ⟨b, off, rfl, hb, hc⟩ := hm (by rintro rfl; simp at hs; omega)
        have hcj := hc j (by omega)
        have hjk : (j : Int) < k := by omega
        have hjl : (j : Int) < l.length := by omega
        have hlt2 := numOf_lt (l.take j)
        rw [List.length_take, show min j l.length = j by omega] at hlt2
        have hnt := numOf_take (l := l) (j := j) (by omega)
        obtain ⟨x, hx⟩ : ∃ x, numOf (l.take j) = x := ⟨_, rfl⟩
        obtain ⟨y, hy⟩ : ∃ y, l[j]?.getD 0 = y := ⟨_, rfl⟩
        rw [hx] at hlt2 hnt ⊢
        rw [hy] at hcj hnt
        have hx2 : x < 72057594037927936 := by have := Nat.pow_le_pow_right (n := 256) (by omega) (show j ≤ 7 by omega); omega
        have hy2 := UInt8.toNat_lt y
        have HNT := Lib.hid hnt
        clear hc hnt
        go_wp2
        exact ⟨⟨trivial, j + 1, hlt, by rw [show ((j + 1 : Nat) : Int) = (j : Int) + 1 by omega], by rw [HNT.out, show ((x * 256 + y.toNat : Nat) : Int) = 256 * (x : Int) + (y.toNat : Int) by omega]⟩, by simp only [intOf]; omega⟩
      · obtain rfl : j = k := by omega
        have hjk : ¬ ((j : Int) < j) := by omega
        go_wp2
        go_ret2
        exact HP.out
end Go.Proofs.Ytdmgemimbbhbiaa
