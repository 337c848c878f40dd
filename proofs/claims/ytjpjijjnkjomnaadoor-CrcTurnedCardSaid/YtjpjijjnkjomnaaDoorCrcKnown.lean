/- The contract of the sum that all know: it answers true, and what lay in memory stays. -/
import Derived.WalkKit
import Derived.Outline
import Derived.LoopTactic
import Derived.Lib.Hide
import Derived.Lib.SlBytesConst
import Derived.Test.YtjpjijjnkjomnaaDoorCrcJoin
namespace Go.Proofs.YtjpjijjnkjomnaaDoor
open Go.RowKit

theorem BytesAt.of_cells {W : World} {n₀ b : Nat} {l : List UInt8} (hb : b < n₀) (h : ∀ j, j < l.length → W.cell? ⟨b, j, none⟩ = some (.int .u8 ((l[j]?.getD 0).toNat : Int))) : BytesAt n₀ W (some ⟨b, 0, none⟩) l :=
  fun _ => ⟨b, 0, rfl, hb, fun j hj => by rw [Nat.zero_add]; exact h j hj⟩
theorem PartsAt.of_cells {W : World} {n₀ b : Nat} {ls : List (List UInt8)} (hb : b < n₀)
    (h : ∀ j, j < ls.length → (ls[j]?.getD []).length ≤ 9223372036854775807 ∧ ∃ ai ci, W.cell? ⟨b, j, none⟩ = some (.slice ai (ls[j]?.getD []).length ci) ∧ BytesAt n₀ W ai (ls[j]?.getD [])) : PartsAt n₀ W (some ⟨b, 0, none⟩) ls :=
  fun _ => ⟨b, 0, rfl, hb, fun j hj => by rw [Nat.zero_add]; exact h j hj⟩
theorem PartsAt.one {W : World} {n₀ b : Nat} {l : List UInt8} {a : Option Addr} {cap : Nat} (hb : b < n₀) (hl : l.length ≤ 9223372036854775807) (h : W.cell? ⟨b, 0, none⟩ = some (.slice a l.length cap)) (hc : BytesAt n₀ W a l) : PartsAt n₀ W (some ⟨b, 0, none⟩) [l] :=
  .of_cells hb fun j hj => by
    obtain rfl : j = 0 := by simpa using hj
    exact ⟨hl, a, cap, h, hc⟩
theorem PartsAt.two {W : World} {n₀ b : Nat} {l m : List UInt8} {a c : Option Addr} {cap cap2 : Nat} (hb : b < n₀) (hl : l.length ≤ 9223372036854775807) (hm : m.length ≤ 9223372036854775807)
    (h : W.cell? ⟨b, 0, none⟩ = some (.slice a l.length cap)) (hc : BytesAt n₀ W a l) (h2 : W.cell? ⟨b, 1, none⟩ = some (.slice c m.length cap2)) (hc2 : BytesAt n₀ W c m) : PartsAt n₀ W (some ⟨b, 0, none⟩) [l, m] :=
  .of_cells hb fun j hj => by
    have hj2 : j < 2 := hj
    match j, hj2 with
    | 0, _ => exact ⟨hl, a, cap, h, hc⟩
    | 1, _ => exact ⟨hm, c, cap2, h2, hc2⟩

def k4 : List UInt8 := [49, 50, 51, 52]
def k5 : List UInt8 := [53, 54, 55, 56, 57]
theorem sum_k9 : crcSum (k4 ++ k5) = 3421780262 := by decide +kernel
theorem join_k : crcZs 5 (crcSum k4) ^^^ crcSum k5 = 3421780262 := by
  have := crcSum_append k4 k5
  rw [sum_k9] at this; exact this.symm
theorem word_k : crcWord 1 = 1996959894 := by decide +kernel

theorem bytes_new (w : World) (t : TypeId) (fz : Nat × Nat) (l : List UInt8) (C : Array Value) (hC : C = (l.map fun x => Value.int .u8 (x.toNat : Int)).toArray) :
    BytesAt (w.alloc (.cells C t fz)).heap.size (w.alloc (.cells C t fz)) (some ⟨w.heap.size, 0, none⟩) l :=
  .of_cells (by simp) fun j hj => by
    subst hC
    have hh := World.alloc_heap_new w (.cells (l.map fun x => Value.int .u8 (x.toNat : Int)).toArray t fz)
    unfold World.cell?; simp only [hh]; simp [hj]

/-- Sum of one part, and of two, whose row the caller has just built. -/
theorem sum1_any (W : World) (a : Option Addr) (cap : Nat) (l : List UInt8) (hl : l.length ≤ 9223372036854775807) (hb : BytesAt W.heap.size W a l) (ht : Tab W) (h1 : 1 ≤ W.heap.size) :
    Calls Tryd.prog 15 #[.slice (some ⟨W.heap.size, 0, none⟩) 1 1] (W.alloc (.cells #[.slice a l.length cap] 23)) fun e w' => e = .returned (.int .u32 (crcSum l : Int)) ∧ Below W.heap.size W w' := by
  have hB : Below W.heap.size W (W.alloc (.cells #[.slice a l.length cap] 23)) := (Below.refl _ _).alloc (Nat.le_refl _) _
  have hc : PartsAt (W.alloc (.cells #[.slice a l.length cap] 23)).heap.size (W.alloc (.cells #[.slice a l.length cap] 23)) (some ⟨W.heap.size, 0, none⟩) [l] :=
    .one (cap := cap) (a := a) (by simp) hl (by simp) ((hb.below hB).mono (by simp))
  refine (sum_any (some ⟨W.heap.size, 0, none⟩) 1 [l] (by simp) _ (ht.below h1 hB) (by simp) hc).mono ?_
  rintro e w' ⟨rfl, h⟩
  exact ⟨by simp, hB.trans (h.mono (by simp))⟩
theorem sum2_any (W : World) (a : Option Addr) (cap : Nat) (l : List UInt8) (c : Option Addr) (cap2 : Nat) (m : List UInt8) (hl : l.length ≤ 9223372036854775807) (hm : m.length ≤ 9223372036854775807) (hb : BytesAt W.heap.size W a l) (hb2 : BytesAt W.heap.size W c m) (ht : Tab W) (h1 : 1 ≤ W.heap.size) :
    Calls Tryd.prog 15 #[.slice (some ⟨W.heap.size, 0, none⟩) 2 2] (W.alloc (.cells #[.slice a l.length cap, .slice c m.length cap2] 23)) fun e w' => e = .returned (.int .u32 (crcSum (l ++ m) : Int)) ∧ Below W.heap.size W w' := by
  have hB : Below W.heap.size W (W.alloc (.cells #[.slice a l.length cap, .slice c m.length cap2] 23)) := (Below.refl _ _).alloc (Nat.le_refl _) _
  have hc : PartsAt (W.alloc (.cells #[.slice a l.length cap, .slice c m.length cap2] 23)).heap.size (W.alloc (.cells #[.slice a l.length cap, .slice c m.length cap2] 23)) (some ⟨W.heap.size, 0, none⟩) [l, m] :=
    .two (cap := cap) (a := a) (c := c) (cap2 := cap2) (by simp) hl hm (by simp) ((hb.below hB).mono (by simp)) (by simp) ((hb2.below hB).mono (by simp))
  refine (sum_any (some ⟨W.heap.size, 0, none⟩) 2 [l, m] (by simp) _ (ht.below h1 hB) (by simp) hc).mono ?_
  rintro e w' ⟨rfl, h⟩
  exact ⟨by simp, hB.trans (h.mono (by simp))⟩

set_option maxHeartbeats 4000000 in
/-- known answers true. -/
theorem known_any (w : World) (ht : Tab w) (h1w : 1 ≤ w.heap.size) :
    Calls Tryd.prog 10 #[] w fun e w' => e = .returned (.bool true) ∧ Below w.heap.size w w' := by
  have kc := fun (w : World) (C : Array Value) (n c : Nat) => Lib.run_convert_bytes_const (P := Tryd.prog) w 23 5 C n c Tryd.underlying23 Tryd.underlying5
  have kc2 := fun (D C : Array Value) (fz : Nat × Nat) (n c : Nat) => kc (w.alloc (.cells D 5 fz)) C n c
  simp only [World.size_alloc] at kc2
  obtain ⟨W2, hW2⟩ : ∃ W2, (w.alloc (.cells #[.int .u8 49, .int .u8 50, .int .u8 51, .int .u8 52] 5 (4, 5))).alloc (.cells #[.int .u8 53, .int .u8 54, .int .u8 55, .int .u8 56, .int .u8 57] 5 (5, 6)) = W2 := ⟨_, rfl⟩
  go_enter Tryd.func10, Tryd.ntmps10
  go_wp2_with fail
  have hB2 : Below w.heap.size w W2 := hW2 ▸ ((Below.refl _ w).alloc (Nat.le_refl _) _).alloc (by simp) _
  have h4 : BytesAt W2.heap.size W2 (some ⟨w.heap.size, 0, none⟩) k4 := by
    rw [← hW2]
    exact ((bytes_new w 5 (4, 5) k4 _ rfl).below ((Below.refl _ _).alloc (Nat.le_refl _) _)).mono (by simp)
  have h5 : BytesAt W2.heap.size W2 (some ⟨w.heap.size + 1, 0, none⟩) k5 := by
    rw [← hW2]
    have := bytes_new (w.alloc (.cells #[.int .u8 49, .int .u8 50, .int .u8 51, .int .u8 52] 5 (4, 5))) 5 (5, 6) k5 #[.int .u8 53, .int .u8 54, .int .u8 55, .int .u8 56, .int .u8 57] rfl
    simp only [World.size_alloc] at this ⊢
    exact this
  clear hW2 kc kc2
  have h2w : 1 ≤ W2.heap.size := Nat.le_trans h1w hB2.size
  have ht2 := ht.below h1w hB2
  refine (sum1_any W2 _ 4 k4 (by decide) h4 ht2 h2w).mono ?_
  rintro e W3 ⟨rfl, hb3⟩
  have h3w : 1 ≤ W3.heap.size := Nat.le_trans h2w hb3.size
  have ht3 := ht2.below h2w hb3
  have h45 := h4.below hb3
  have h55 := h5.below hb3
  have H3 := Lib.hid hb3.size
  go_wp2_with fail
  refine (sum1_any W3 _ 5 k5 (by decide) (h55.mono H3.out) ht3 h3w).mono ?_
  rintro e W4 ⟨rfl, hb4⟩
  have h4w : 1 ≤ W4.heap.size := Nat.le_trans h3w hb4.size
  have ht4 := ht3.below h3w hb4
  have h46 := h45.below (hb4.mono H3.out)
  have h56 := h55.below (hb4.mono H3.out)
  have H4 := Lib.hid hb4.size
  go_wp2_with fail
  have hj := join_any (crcSum k4) (crcSum k5) 5 (crcSum_lt _) (crcSum_lt _) (by decide) W4 ht4 h4w
  rw [join_k] at hj
  refine hj.mono ?_
  rintro e W5 ⟨rfl, hb5⟩
  have h5w : 1 ≤ W5.heap.size := Nat.le_trans h4w hb5.size
  have ht5 := ht4.below h4w hb5
  have H45 : Below W2.heap.size W2 W5 := hb3.trans ((hb4.mono H3.out).trans (hb5.mono (Nat.le_trans H3.out H4.out)))
  have h47 := h4.below H45
  have h57 := h5.below H45
  have HB5 := Lib.hid (hB2.trans (H45.mono hB2.size))
  go_wp2_with fail
  refine (sum2_any W5 _ 4 k4 _ 5 k5 (by decide) (by decide) (h47.mono H45.size) (h57.mono H45.size) ht5 h5w).mono ?_
  rw [sum_k9]
  rintro e W6 ⟨rfl, hb6⟩
  have ht6 := ht5.below h5w hb6
  have HB6 := Lib.hid (HB5.out.trans (hb6.mono HB5.out.size))
  clear hb6 H45 hb3 hb4 hb5 hB2
  have hw := word_any 1 (by decide) W6 ht6
  rw [word_k] at hw
  go_wp2_with (go_at_call 18; refine hw.mono ?_; rintro e w' ⟨rfl, rfl⟩)
  go_ret
  exact ⟨rfl, HB6.out⟩
end Go.Proofs.YtjpjijjnkjomnaaDoor
