/- Layer 5: cells that may be rise; where a key stands is one place; the document's Find. -/
import Derived.Test.YtaclbloconlhnaaSlX
namespace Go.Proofs.Ytaclbloconlhnaa
open Go.RowKit

theorem less_irrefl : ∀ a : List UInt8, Op.bytesLess a a = false
  | [] => rfl
  | a :: x => by
    have h1 : ¬ a < a := by show ¬ a.toNat < a.toNat; omega
    simp [Op.bytesLess, h1, less_irrefl x]
theorem less_trans (a b c : List UInt8) (h1 : Op.bytesLess a b = true) (h2 : Op.bytesLess b c = true) : Op.bytesLess a c = true := by
  induction a generalizing b c with
  | nil =>
    cases c with
    | nil => cases b <;> simp [Op.bytesLess] at h2
    | cons z c => rfl
  | cons x a ih =>
    cases b with
    | nil => simp [Op.bytesLess] at h1
    | cons y b =>
      cases c with
      | nil => simp [Op.bytesLess] at h2
      | cons z c =>
        simp only [Op.bytesLess, Bool.or_eq_true, decide_eq_true_eq, Bool.and_eq_true, beq_iff_eq] at h1 h2 ⊢
        rcases h1 with h1 | ⟨rfl, h1⟩
        · rcases h2 with h2 | ⟨rfl, h2⟩
          · exact .inl (Nat.lt_trans h1 h2)
          · exact .inl h1
        · rcases h2 with h2 | ⟨rfl, h2⟩
          · exact .inl h2
          · exact .inr ⟨rfl, ih b c h1 h2⟩
theorem rise_all {leaf : Bool} {L : List Cv} (h : OkUpto leaf L L.length) : ∀ d i, i + d + 1 < L.length → Op.bytesLess (L.getD i default).key.toList (L.getD (i + d + 1) default).key.toList = true := fun d => by
  induction d with
  | zero => intro i hi
            have := (h (i + 0 + 1) hi).2 (by omega)
            rwa [show i + 0 + 1 - 1 = i by omega] at this
  | succ d ih =>
    intro i hi
    have h1 := ih i (by omega)
    have h2 := (h (i + (d + 1) + 1) hi).2 (by omega)
    rw [show i + (d + 1) + 1 - 1 = i + d + 1 by omega] at h2
    exact less_trans _ _ _ h1 h2
theorem rise_lt {k : Int} {L : List Cv} (h : RightC k L) {i j : Nat} (hij : i < j) (hj : j < L.length) : Op.bytesLess (L.getD i default).key.toList (L.getD j default).key.toList = true := by
  have := rise_all h.2.2 (j - i - 1) i (by omega)
  rwa [show i + (j - i - 1) + 1 = j by omega] at this
theorem right_mono {k : Int} {L : List Cv} (h : RightC k L) (key : ByteArray) : KeyMono L key := fun i j hij hj hk => by
  rcases Nat.eq_or_lt_of_le hij with rfl | hlt
  · exact hk
  · cases hv : keyB (L.getD j default) key
    · rfl
    · have := less_trans _ _ _ (rise_lt h hlt hj) hv
      unfold keyB at hk
      rw [this] at hk; cases hk
theorem stands_one {L : List Cv} {key : ByteArray} {m n : Nat} (h1 : StandsAt L key m) (h2 : StandsAt L key n) : m = n := by
  rcases Nat.lt_trichotomy m n with h | h | h
  · have a := h2.2.1 m h
    have b := h1.2.2 m (Nat.le_refl _) (Nat.lt_of_lt_of_le h h2.1)
    rw [a] at b; cases b
  · exact h
  · have a := h1.2.1 n h
    have b := h2.2.2 n (Nat.le_refl _) (Nat.lt_of_lt_of_le h h1.1)
    rw [a] at b; cases b
theorem kind_wf {k : Int} {L : List Cv} (h : RightC k L) : (Lit.int .i64 k).wf = true := by rcases h.1 with rfl | rfl <;> rfl
set_option maxRecDepth 100000 in
set_option maxHeartbeats 1000000 in
theorem refFind_any (L : List Cv) (key : ByteArray) (hmono : KeyMono L key) (hL : L.length ≤ 1000000) (a : Option Addr) (cap : Nat) (w : World) (hm : CellsAt w.heap.size w a L) :
    Calls Try.prog 21 #[.slice a L.length cap, .string key] w fun e w' => FindPost w L key e w' := by
  have HM := Lib.hid (And.intro hm hmono)
  clear hm hmono
  go_enter Try.func21, Try.ntmps21
  go_wp2
  go_loopw [6, 7, 8, 9, 10, 11, 12, 13, 14, 15, 16, 17, 18, 19, 20, 21] (fun y _ _ _ _ _ _ _ _ _ _ _ _ _ _ _ wr => wr = w ∧ ∃ k : Nat, y = .int .i64 k ∧ k ≤ L.length ∧ ∀ j, j < k → keyB (L.getD j default) key = true) (fun y _ _ _ _ _ _ _ _ _ _ _ _ _ _ _ _ => L.length - (intOf y).toNat)
  case atStart => exact ⟨rfl, 0, rfl, Nat.zero_le _, fun j hj => by omega⟩
  case round =>
    obtain ⟨rfl, k, rfl, hk, hall⟩ := hrel
    by_cases hlt : k < L.length
    · have hkL : (k : Int) < (L.length : Int) := by omega
      have hd3 : decide (k < L.length) = true := decide_eq_true hlt
      obtain ⟨b, off, rfl, hb, hcs⟩ := HM.out.1 (by rintro rfl; simp at hlt)
      have hc := hcs k hlt
      obtain ⟨c, hcd⟩ : ∃ c, L.getD k default = c := ⟨_, rfl⟩
      rw [hcd] at hc
      obtain ⟨k0, -, -, -, -⟩ := hc
      obtain ⟨q, hq⟩ : ∃ q, Op.bytesLess c.key.toList key.toList = q := ⟨_, rfl⟩
      have HX := Lib.hid (And.intro hall (And.intro hcd (And.intro hq hlt)))
      clear hall hcd hcs hlt
      cases q
      · go_wp2_with fail
        go_quiet (fail)
        go_wp2_with fail
        go_ret2
        refine ⟨below_drewN (Below.refl _ _) nq, k, ⟨hk, HX.out.1, fun j h1 h2 => HM.out.2 k j h1 h2 (by rw [HX.out.2.1]; exact HX.out.2.2.1)⟩, ?_⟩
        rw [HX.out.2.1, decide_eq_true HX.out.2.2.2, Bool.true_and]
        rfl
      · go_wp2
        refine ⟨⟨trivial, k + 1, by go_num, HX.out.2.2.2, fun j hj => ?_⟩, by have := HX.out.2.2.2; simp only [intOf]; omega⟩
        by_cases hjk : j = k
        · subst hjk; rw [HX.out.2.1]; exact HX.out.2.2.1
        · exact HX.out.1 j (by omega)
    · obtain rfl : k = L.length := by omega
      have hkL : ¬ ((L.length : Int) < (L.length : Int)) := by omega
      have HX := Lib.hid hall
      clear hall
      go_wp2_with fail
      go_quiet (fail)
      go_wp2_with fail
      go_ret2
      refine ⟨below_drewN (Below.refl _ _) nq, L.length, ⟨Nat.le_refl _, HX.out, fun j h1 h2 => by omega⟩, ?_⟩
      rw [decide_eq_false (Nat.lt_irrefl _), Bool.false_and]
      rfl
end Go.Proofs.Ytaclbloconlhnaa
