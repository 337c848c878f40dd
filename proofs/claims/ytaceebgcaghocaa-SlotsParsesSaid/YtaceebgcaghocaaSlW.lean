/- Layer 5: the law's own known. -/
import Derived.Test.YtaceebgcaghocaaSlI
import Derived.Test.YtaceebgcaghocaaSlJ
import Derived.Test.YtaceebgcaghocaaSlQ
import Derived.Test.YtaceebgcaghocaaSlS
namespace Go.Proofs.Ytaceebgcaghocaa
open Go.RowKit

theorem cells_row (w : World) (L : List Cv) (T : TypeId) : CellsAt (w.heap.size + 1) (w.alloc (.cells (cellsL L).toArray T)) (some ⟨w.heap.size, 0, none⟩) L := fun _ =>
  ⟨_, 0, rfl, by omega, fun j hj => by
    have key : ∀ t v, t < 5 → (cellL (L.getD j default))[t]? = some v → (w.alloc (.cells (cellsL L).toArray T)).cell? ⟨w.heap.size, 0 + j * 5 + t, none⟩ = some v := fun t v ht hv => by
      rw [Nat.zero_add, cell_of_row _ w.heap.size _ _ _ _ (heap_alloc_new w _), List.getElem?_toArray, cellsL_at L j t hj ht]; exact hv
    exact ⟨key 0 _ (by omega) rfl, key 1 _ (by omega) rfl, key 2 _ (by omega) rfl, key 3 _ (by omega) rfl, key 4 _ (by omega) rfl⟩⟩
theorem some_bytes (w : World) (l : List UInt8) : BytesAt (w.heap.size + 1) (w.alloc (.cells (byteVals l).toArray 5)) (some ⟨w.heap.size, 0, none⟩) l := fun _ =>
  ⟨_, 0, rfl, by omega, fun j hj => by
    rw [Nat.zero_add, cell_of_row _ w.heap.size j _ _ _ (heap_alloc_new w _)]
    simp [byteVals, hj]⟩
def kc1 : Cv := ⟨⟨#[97]⟩, ⟨#[120]⟩, false, 0, 0⟩
def kc2 : Cv := ⟨⟨#[]⟩, ⟨#[]⟩, false, 7, 0⟩
def kcA : Cv := ⟨⟨#[97]⟩, ⟨#[]⟩, false, 0, 0⟩
def kcC : Cv := ⟨⟨#[99]⟩, ⟨#[]⟩, false, 0, 0⟩
theorem one_right (leaf : Bool) (c : Cv) (h : mayB leaf c = true) : OkUpto leaf [c] 1 := fun j hj => by
  obtain rfl : j = 0 := by omega
  exact ⟨(cellOk_may leaf c).2 h, fun h => absurd h (by omega)⟩
theorem k_right1 : RightC 2 [kc1] := ⟨.inl rfl, fun h => absurd h (by decide), one_right true kc1 (by kernel_rfl)⟩
theorem k_right2 : RightC 3 [kc2] := ⟨.inr rfl, fun _ => by simp, one_right false kc2 (by kernel_rfl)⟩
theorem k_raw : rawB (bytesOf true [kc1]) = [0, 1, 0, 4, 1, 97, 0, 1, 120] := by kernel_rfl
theorem k_size : 2 + takenN (bytesOf false [kc2]) = 9 := by kernel_rfl
theorem k_taken : 2 + takenN (bytesOf true [kc1]) = 9 := by kernel_rfl
theorem k_parsed : Parsed 2 [0, 0] [] := ⟨by decide, by decide, by decide, by kernel_rfl, .inl rfl, fun h => absurd h (by decide), fun j hj => absurd hj (by simp)⟩
theorem parsed_nil {k : Int} {L : List Cv} (h : Parsed k [0, 0] L) : L = [] := by
  have h1 := readUpto_len h.2.2.2.1
  exact List.eq_nil_of_length_eq_zero h1
theorem k_parsed3 : ∀ L, ¬ Parsed 3 [0, 0] L := fun L h => by
  obtain rfl := parsed_nil h
  exact h.2.2.2.2.2.1 rfl rfl
theorem kb1 : keyB kcA ⟨#[98]⟩ = true := by kernel_rfl
theorem kb2 : keyB kcC ⟨#[98]⟩ = false := by kernel_rfl
theorem k_mono : KeyMono [kcA, kcC] ⟨#[98]⟩ := fun i j hij hj hk => by
  have hj2 : j < 2 := hj
  obtain rfl | rfl : i = 0 ∨ i = 1 := by omega
  · have := kb1; rw [show ([kcA, kcC] : List Cv).getD 0 default = kcA from rfl, this] at hk; cases hk
  · obtain rfl : j = 1 := by omega
    exact hk
theorem k_stands {m : Nat} (h : StandsAt [kcA, kcC] ⟨#[98]⟩ m) : m = 1 := by
  obtain ⟨h1, h2, h3⟩ := h
  have h1' : m ≤ 2 := h1
  rcases Nat.lt_or_ge m 1 with h | h
  · have := h3 0 (by omega) (by decide)
    rw [show ([kcA, kcC] : List Cv).getD 0 default = kcA from rfl, kb1] at this; cases this
  · rcases Nat.lt_or_ge m 2 with h4 | h4
    · omega
    · have := h2 1 (by omega)
      rw [show ([kcA, kcC] : List Cv).getD 1 default = kcC from rfl, kb2] at this; cases this
set_option maxRecDepth 100000 in
set_option maxHeartbeats 4000000 in
theorem known_any (w : World) : Calls Try.prog 4 #[] w fun e w' => e = .returned (.bool true) ∧ Below w.heap.size w w' := by
  go_enter Try.func4, Try.ntmps4
  go_wp2_with fail
  have hA1 : Below w.heap.size w (w.alloc (.cells (cellsL [kc1]).toArray 36)) := (Below.refl _ _).alloc (Nat.le_refl _) _
  refine (rawC_any 2 (by decide) (w.alloc (.cells (cellsL [kc1]).toArray 36)) (some ⟨w.heap.size, 0, none⟩) [kc1] 1 (by decide) ((cells_row w [kc1] _).mono (by simp))).mono ?_
  rintro e w1 ⟨hb1, ⟨hn, -⟩ | ⟨-, hn, -⟩ | ⟨-, -, v1, rfl, hO1⟩⟩
  · exact absurd k_right1 hn
  · exfalso
    have := k_taken
    rw [show (((2 : Int) == 2)) = true from rfl] at hn
    omega
  have hO1' : OwnB w1 (w.alloc (.cells (cellsL [kc1]).toArray 36)).heap.size v1 [0, 1, 0, 4, 1, 97, 0, 1, 120] := by rw [← k_raw]; exact hO1
  have H1 := Lib.hid (And.intro (go_on hA1 hb1) hO1')
  clear hA1 hb1 hO1 hO1'
  go_wp2_with fail
  have hA2 : Below w1.heap.size w1 (w1.alloc (.cells (cellsL [kc2]).toArray 36)) := (Below.refl _ _).alloc (Nat.le_refl _) _
  refine (sizeC_any 3 (by decide) (w1.alloc (.cells (cellsL [kc2]).toArray 36)) (some ⟨w1.heap.size, 0, none⟩) [kc2] 1 (by decide) ((cells_row w1 [kc2] _).mono (by simp))).mono ?_
  rintro e w2 ⟨hb2, ⟨-, rfl⟩ | ⟨hn, -⟩⟩
  case inr => exact absurd k_right2 hn
  rw [show (2 + takenN (bytesOf ((3 : Int) == 2) [kc2]) : Nat) = 9 from k_size]
  have hb12 := go_on hA2 hb2
  have H2 := Lib.hid (And.intro (go_on H1.out.1 hb12) (H1.out.2.below hb12))
  clear hA2 hb2 hb12 H1
  go_wp2_with fail
  have hA3 : Below w2.heap.size w2 (w2.alloc (.cells (cellsL [kcA, kcC]).toArray 36)) := (Below.refl _ _).alloc (Nat.le_refl _) _
  refine (find_any [kcA, kcC] ⟨#[98]⟩ k_mono (by decide) (some ⟨w2.heap.size, 0, none⟩) 2 (w2.alloc (.cells (cellsL [kcA, kcC]).toArray 36)) ((cells_row w2 [kcA, kcC] _).mono (by simp))).mono ?_
  rintro e w3 ⟨hb3, m, hst, rfl⟩
  obtain rfl := k_stands hst
  rw [show (decide (1 < [kcA, kcC].length) && (([kcA, kcC].getD 1 default).key.toList == (⟨#[98]⟩ : ByteArray).toList)) = false by kernel_rfl]
  have hb23 := go_on hA3 hb3
  have H3 := Lib.hid (And.intro (go_on H2.out.1 hb23) (H2.out.2.below hb23))
  clear hA3 hb3 hb23 H2 hst
  go_wp2_with fail
  have hA4 : Below w3.heap.size w3 (w3.alloc (.cells (byteVals [0, 0]).toArray 5)) := (Below.refl _ _).alloc (Nat.le_refl _) _
  refine (parse_any 2 (by decide) [0, 0] (some ⟨w3.heap.size, 0, none⟩) 2 (w3.heap.size + 1) (by decide) (w3.alloc (.cells (byteVals [0, 0]).toArray 5)) (some_bytes w3 [0, 0]) (by simp) (fun h => by cases h) (by decide)).mono ?_
  rintro e w4 ⟨hb4, ⟨h2, -⟩ | ⟨L4, v4, hp, rfl, hO4⟩ | ⟨-, hn, -⟩⟩
  · exact absurd rfl h2
  case inr.inr => exact absurd k_parsed (hn [])
  obtain rfl := parsed_nil hp
  obtain ⟨a4, c4, rfl, -⟩ := hO4.form
  have hb34 := go_on hA4 hb4
  have H4 := Lib.hid (And.intro (go_on H3.out.1 hb34) (H3.out.2.below hb34))
  clear hA4 hb4 hb34 H3 hp hO4
  simp only [List.length_nil]
  go_wp2_with fail
  have hA5 : Below w4.heap.size w4 (w4.alloc (.cells (byteVals [0, 0]).toArray 5)) := (Below.refl _ _).alloc (Nat.le_refl _) _
  refine (parse_any 3 (by decide) [0, 0] (some ⟨w4.heap.size, 0, none⟩) 2 (w4.heap.size + 1) (by decide) (w4.alloc (.cells (byteVals [0, 0]).toArray 5)) (some_bytes w4 [0, 0]) (by simp) (fun h => by cases h) (by decide)).mono ?_
  rintro e w5 ⟨hb5, ⟨-, h3, -⟩ | ⟨L5, v5, hp, -, -⟩ | ⟨-, -, rfl⟩⟩
  · exact absurd rfl h3
  · exact absurd hp (k_parsed3 L5)
  have hb45 := go_on hA5 hb5
  have hO5 := H4.out.2.below hb45
  obtain ⟨a1, c1, rfl, hm1, -⟩ := hO5.form
  have hcv := conv_at w5 a1 [0, 1, 0, 4, 1, 97, 0, 1, 120] c1 _ hm1
  have H5 := Lib.hid (go_on H4.out.1 hb45)
  change (convert 23 9 (.slice a1 9 c1)).run Try.prog w5 = .ok (.string ⟨#[0, 1, 0, 4, 1, 97, 0, 1, 120]⟩) w5 at hcv
  clear hA5 hb5 hb45 hO5 hm1 H4
  simp only [List.length_cons, List.length_nil, Nat.zero_add, Nat.reduceAdd]
  go_wp2
  go_ret
  exact ⟨rfl, H5.out⟩
end Go.Proofs.Ytaceebgcaghocaa
