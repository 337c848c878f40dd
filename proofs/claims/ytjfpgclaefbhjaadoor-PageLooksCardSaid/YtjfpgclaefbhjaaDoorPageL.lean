/- Layer 4: the bytes of a head's parts. -/
import Derived.Test.YtjfpgclaefbhjaaDoorPageB
namespace Go.Proofs.YtjfpgclaefbhjaaDoor
open Go.RowKit

def laidParts (ps : List (Nat × Nat)) : List UInt8 := ps.flatMap fun x => laidB x.1 x.2 x.2
theorem laidParts_snoc (ps : List (Nat × Nat)) (x : Nat × Nat) : laidParts (ps ++ [x]) = laidParts ps ++ laidB x.1 x.2 x.2 := by simp [laidParts]
theorem laidParts_len (ps : List (Nat × Nat)) (h : ∀ x ∈ ps, x.2 ≤ 8) : (laidParts ps).length ≤ ps.length * 8 := by
  induction ps with
  | nil => simp [laidParts]
  | cons x ps ih =>
    have := ih (fun y hy => h y (by simp [hy]))
    have h2 := h x (by simp)
    rw [show laidParts (x :: ps) = laidB x.1 x.2 x.2 ++ laidParts ps from rfl, List.length_append, laidB_len, List.length_cons]
    omega
theorem wNum_fits {l : List UInt8} {n k : Nat} (h1 : 1 ≤ k) (h8 : k ≤ 8) (hn : n < 2 ^ (8 * k)) (hl : l.length + k ≤ 65536) : wNum l n (k : Int) = (0, l ++ laidB n k k) := by
  unfold wNum
  rw [if_neg (by rw [Int.toNat_natCast]; omega), Int.toNat_natCast, if_neg (by omega)]
/-- From the block's first cell on lie these parts. -/
def PartRows (w : World) (P : Nat) (ps : List (Nat × Nat)) : Prop := P < w.heap.size ∧ ∀ j, j < ps.length → w.cell? ⟨P, j * 2, none⟩ = some (.int .u64 ((ps.getD j (0, 0)).1 : Int)) ∧ w.cell? ⟨P, j * 2 + 1, none⟩ = some (.int .i64 ((ps.getD j (0, 0)).2 : Int))
theorem PartRows.below {w w' : World} {P : Nat} {ps : List (Nat × Nat)} (h : PartRows w P ps) (hb : Below w.heap.size w w') : PartRows w' P ps :=
  ⟨Nat.lt_of_lt_of_le h.1 hb.size, fun j hj => ⟨(hb.cell (p := ⟨P, j * 2, none⟩) h.1).trans (h.2 j hj).1, (hb.cell (p := ⟨P, j * 2 + 1, none⟩) h.1).trans (h.2 j hj).2⟩⟩
def LaidPost (w : World) (l : List UInt8) (e : Ending) (w' : World) : Prop := ∃ v, e = .returned v ∧ OwnB w' w.heap.size v l ∧ Below w.heap.size w w'
set_option maxRecDepth 100000 in
set_option maxHeartbeats 1000000 in
theorem laid_any (w : World) (P c : Nat) (ps : List (Nat × Nat)) (hp : PartRows w P ps) (hok : ∀ x ∈ ps, 1 ≤ x.2 ∧ x.2 ≤ 8 ∧ x.1 < 2 ^ (8 * x.2)) (hf : ps.length ≤ 100) :
    Calls Tryd.prog 20 #[.slice (some ⟨P, 0, none⟩) ps.length c] w fun e w' => LaidPost w (laidParts ps) e w' := by
  have hmf : ∀ (fn : Fn) (first cap : Array Value) (w : World), (Instr.makeFunc fn first cap).run Tryd.prog w = .ok (.func fn first cap) w := fun _ _ _ _ => rfl
  have HP := Lib.hid hp
  have HO := Lib.hid hok
  clear hp hok
  go_enter Tryd.func20, Tryd.ntmps20
  go_wp2_with (go_at_call 30; refine (newWriter_any _).mono ?_; rintro e w1 ⟨rfl, hW1, hb1⟩)
  obtain ⟨B, hB⟩ : ∃ B, w.heap.size = B := ⟨_, rfl⟩
  rw [hB]
  rw [hB] at hW1 hb1
  have HBe := Lib.hid hB
  clear hB
  go_loopw [6, 12, 13, 14, 15, 16, 17, 18, 19, 20, 21, 22] (fun _ i _ _ _ _ _ _ _ _ _ _ wr => ∃ (k : Nat) (v : Value), i = .int .i64 k ∧ k ≤ ps.length ∧ IsWr B wr B v (laidParts (ps.take k)) ∧ Below B w wr)
    (fun _ i _ _ _ _ _ _ _ _ _ _ _ => ps.length - (intOf i).toNat)
  case atStart => exact ⟨0, _, rfl, Nat.zero_le _, hW1, hb1⟩
  case round =>
    obtain ⟨k, v, rfl, hk, hW, hbr⟩ := hrel
    by_cases hlt : k < ps.length
    · have hP := HP.out.below (HBe.out ▸ hbr)
      obtain ⟨hc1, hc2⟩ := hP.2 k hlt
      have hPlt := hP.1
      clear hP
      have hx := HO.out (ps.getD k (0, 0)) (by rw [List.getD_eq_getElem?_getD, List.getElem?_eq_getElem hlt]; exact List.getElem_mem hlt)
      have hts : ps.take (k + 1) = ps.take k ++ [ps.getD k (0, 0)] := by
        rw [List.take_succ_eq_append_getElem hlt, List.getD_eq_getElem?_getD, List.getElem?_eq_getElem hlt]; rfl
      have hll : (laidParts (ps.take k)).length ≤ 800 := by
        have := laidParts_len (ps.take k) (fun x hx => (HO.out x (List.mem_of_mem_take hx)).2.1)
        have := List.length_take_le k ps
        omega
      obtain ⟨⟨n, s⟩, hx0⟩ : ∃ x, ps.getD k (0, 0) = x := ⟨_, rfl⟩
      rw [hx0] at hx hc1 hc2 hts
      dsimp only at hx hc1 hc2
      have hnum := wNum_fits (l := laidParts (ps.take k)) hx.1 hx.2.1 hx.2.2 (by omega)
      rw [← laidParts_snoc (ps.take k) (n, s), ← hts] at hnum
      have HN := Lib.hid hnum
      have HV := Lib.hid (hW.own.block)
      have HB := Lib.hid hbr
      clear hnum hts hx0 hll hbr
      have hkL : (k : Int) < (ps.length : Int) := by omega
      have hle := Nat.le_of_lt hW.lt
      have hW' := fun o => hW.below ((Below.refl _ _).alloc (Nat.le_refl _) o)
      have HW := Lib.hid hW'
      clear hW'
      go_wp2_with (go_at_call 31; refine (wnum_any (HW.out _) n (s : Int)).mono ?_; rw [HN.out]; rintro e w2 ⟨rfl, v2, hW2, hg2⟩; have hsz := HB.out.size; have HB2 := Lib.hid (hg2.below (n₀ := B) (by have := HBe.out; simp; omega) (Nat.le_refl _) (HV.out)); clear HW)
      refine ⟨⟨k + 1, v2, by rw [show ((k + 1 : Nat) : Int) = (k : Int) + 1 by omega], hlt, hW2, ?_⟩, by simp only [intOf]; omega⟩
      exact (HB.out.alloc (by have := HBe.out; omega) _).trans (HB2.out.mono (by have := HBe.out; omega))
    · obtain rfl : k = ps.length := by omega
      have hkL : ¬ ((ps.length : Int) < (ps.length : Int)) := by omega
      rw [List.take_length] at hW
      have HB := Lib.hid hbr
      clear hbr hb1 hW1
      go_wp2_with (go_at_call 32; refine (wbytes_any hW).mono ?_; rintro e w2 ⟨v2, rfl, hO2, hb2⟩)
      go_ret
      have hsz := HB.out.size
      have he := HBe.out
      exact ⟨v2, rfl, hO2.mono (by omega), by rw [he]; exact HB.out.trans (hb2.mono (by omega))⟩
end Go.Proofs.YtjfpgclaefbhjaaDoor
