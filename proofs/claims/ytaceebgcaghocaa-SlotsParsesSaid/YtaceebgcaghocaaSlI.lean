/- Layer 5: where a key stands (Find), in the program's way by halves and in the document's, one by one. -/
import Derived.Deep.QuietTactic
import Derived.BigQuiet
import Derived.WalkSmall
import Derived.Test.YtaceebgcaghocaaSlE
namespace Go.Proofs.Ytaceebgcaghocaa
open Go.RowKit

def keyB (c : Cv) (key : ByteArray) : Bool := Op.bytesLess c.key.toList key.toList
set_option maxRecDepth 100000 in
theorem such_any (c : Cv) (key : ByteArray) (K : Nat) (w : World) (hK : w.heap[K]? = some (.cells #[.string key] 9 (0, 0))) :
    Calls Try.prog 25 #[cellv c, .pointer (some ⟨K, 0, none⟩)] w fun e w' => e = .returned (.bool (!keyB c key)) ∧ Below w.heap.size w w' := by
  have hk := cell_of_row w K 0 _ _ _ hK
  have hlt := (Array.getElem?_eq_some_iff.1 hK).1
  simp only [List.getElem?_toArray, List.getElem?_cons_zero] at hk
  have HB := Lib.hid ((Below.refl w.heap.size w).alloc (Nat.le_refl _) (.cells #[.string c.key, .string c.text, .bool c.long, .int .i64 c.page, .int .i64 c.size] 36))
  clear hK
  go_enter Try.func25, Try.ntmps25
  go_wp2
  go_ret
  exact ⟨rfl, HB.out⟩
/-- Once a cell is not below the key, none behind it is. -/
def KeyMono (L : List Cv) (key : ByteArray) : Prop := ∀ i j, i ≤ j → j < L.length → keyB (L.getD i default) key = false → keyB (L.getD j default) key = false
def StandsAt (L : List Cv) (key : ByteArray) (m : Nat) : Prop := m ≤ L.length ∧ (∀ j, j < m → keyB (L.getD j default) key = true) ∧ ∀ j, m ≤ j → j < L.length → keyB (L.getD j default) key = false
set_option maxRecDepth 100000 in
set_option maxHeartbeats 1000000 in
theorem first_any (L : List Cv) (key : ByteArray) (hmono : KeyMono L key) (hL : L.length ≤ 1000000) (a : Option Addr) (cap K : Nat) (w : World) (hm : CellsAt w.heap.size w a L) (hK : w.heap[K]? = some (.cells #[.string key] 9 (0, 0))) :
    Calls Try.prog 24 #[.slice a L.length cap, .func (.func 25) #[] #[.pointer (some ⟨K, 0, none⟩)]] w fun e w' => (∃ m : Nat, e = .returned (.int .i64 m) ∧ StandsAt L key m) ∧ Below w.heap.size w w' := by
  have HM := Lib.hid (And.intro hm (And.intro hK hmono))
  clear hm hK hmono
  go_enter Try.func24, Try.ntmps24
  go_wp2
  go_loopw [5, 6, 7, 10, 11, 12, 13, 14, 15, 16, 17, 18, 19, 20, 21, 22, 23, 24, 25, 26, 27] (fun x y _ _ _ _ _ _ _ _ _ _ _ _ _ _ _ _ _ _ _ wr => Below w.heap.size w wr ∧ ∃ f t : Nat, x = .int .i64 f ∧ y = .int .i64 t ∧ f ≤ t ∧ t ≤ L.length ∧ (∀ j, j < f → keyB (L.getD j default) key = true) ∧ ∀ j, t ≤ j → j < L.length → keyB (L.getD j default) key = false) (fun x y _ _ _ _ _ _ _ _ _ _ _ _ _ _ _ _ _ _ _ _ => (intOf y).toNat - (intOf x).toNat)
  case atStart => exact ⟨Below.refl _ _, 0, L.length, rfl, rfl, Nat.zero_le _, Nat.le_refl _, fun j hj => by omega, fun j h1 h2 => by omega⟩
  case round =>
    obtain ⟨hb, f, t, rfl, rfl, hft, htL, h1, h2⟩ := hrel
    by_cases hlt : f < t
    · have hd : (f : Int) < (t : Int) := by omega
      obtain ⟨h, hh⟩ : ∃ h, f + (t - f) / 2 = h := ⟨_, rfl⟩
      have hh1 : f ≤ h ∧ h < t := by omega
      have hh2 : ((f : Int) + ((t : Int) - (f : Int)) / 2) = (h : Int) := by omega
      obtain ⟨b, off, rfl, hbs, hcs⟩ := (HM.out.1.below hb) (by rintro rfl; simp at htL; omega)
      obtain ⟨c, hcd⟩ : ∃ c, L.getD h default = c := ⟨_, rfl⟩
      have hc := hcs h (by omega)
      rw [hcd] at hc
      obtain ⟨k0, k1, k2, k3, k4⟩ := hc
      have HX := Lib.hid (And.intro hb (And.intro h1 (And.intro h2 hcd)))
      clear hb h1 h2 hcs hh hcd
      have hKr := (HX.out.1.block K (Array.getElem?_eq_some_iff.1 HM.out.2.1).1).trans HM.out.2.1
      go_wp2_with fail
      refine (such_any c key K wr hKr).mono ?_
      rintro e w2 ⟨rfl, hb2⟩
      have HB2 := Lib.hid (go_on HX.out.1 hb2)
      clear hKr hb2
      obtain ⟨q, hq⟩ : ∃ q, keyB c key = q := ⟨_, rfl⟩
      have HQ := Lib.hid hq
      rw [hq]
      clear hq
      obtain ⟨hh3, hh4⟩ := hh1
      cases q
      · go_wp2
        refine ⟨⟨HB2.out, f, h, rfl, rfl, hh3, by omega, HX.out.2.1, fun j hj1 hj2 => HM.out.2.2 h j hj1 hj2 (by rw [HX.out.2.2.2]; exact HQ.out)⟩, by simp only [intOf]; omega⟩
      · go_wp2
        refine ⟨⟨HB2.out, h + 1, t, by go_num, rfl, by omega, htL, fun j hj => ?_, HX.out.2.2.1⟩, by simp only [intOf]; omega⟩
        by_cases hjh : j = h
        · subst hjh; rw [HX.out.2.2.2]; exact HQ.out
        · cases hv : keyB (L.getD j default) key
          · have := HM.out.2.2 j h (by omega) (by omega) hv
            rw [HX.out.2.2.2, HQ.out] at this; cases this
          · rfl
    · obtain rfl : f = t := by omega
      have hd : ¬ ((f : Int) < (f : Int)) := by omega
      have HX := Lib.hid (And.intro hb (And.intro h1 h2))
      clear hb h1 h2
      go_wp2
      go_ret
      exact ⟨⟨f, rfl, htL, HX.out.2⟩, HX.out.1⟩
def FindPost (w : World) (L : List Cv) (key : ByteArray) (e : Ending) (w' : World) : Prop := Below w.heap.size w w' ∧ ∃ m : Nat, StandsAt L key m ∧ e = .returned (.tuple #[.int .i64 m, .bool (decide (m < L.length) && ((L.getD m default).key.toList == key.toList))])
set_option maxRecDepth 100000 in
set_option maxHeartbeats 1000000 in
theorem find_any (L : List Cv) (key : ByteArray) (hmono : KeyMono L key) (hL : L.length ≤ 1000000) (a : Option Addr) (cap : Nat) (w : World) (hm : CellsAt w.heap.size w a L) :
    Calls Try.prog 10 #[.slice a L.length cap, .string key] w fun e w' => FindPost w L key e w' := by
  have hmf : ∀ (fn : Fn) (first cap : Array Value) (w : World), (Instr.makeFunc fn first cap).run Try.prog w = .ok (.func fn first cap) w := fun _ _ _ _ => rfl
  have hA : Below w.heap.size w (w.alloc (.cells #[.string key] 9)) := (Below.refl _ _).alloc (Nat.le_refl _) _
  have HF := Lib.hid (first_any L key hmono hL a cap w.heap.size (w.alloc (.cells #[.string key] 9)) ((hm.below hA).mono hA.size) (heap_alloc_new w _))
  have HM := Lib.hid (And.intro hm hA)
  clear hm hmono hA
  go_enter Try.func10, Try.ntmps10
  go_wp2_with fail
  refine HF.out.mono ?_
  rintro e w1 ⟨⟨m, rfl, hst⟩, hb1⟩
  have hb := go_on HM.out.2 hb1
  have hk1 := cell_of_row w1 w.heap.size 0 _ _ _ (go_row (heap_alloc_new w (.cells #[.string key] 9)) hb1)
  simp only [List.getElem?_toArray, List.getElem?_cons_zero] at hk1
  have hmL := hst.1
  by_cases hlt : m < L.length
  · have hd : decide ((m : Int) < (L.length : Int)) = true := by simp; omega
    have hd2 : (m : Int) < (L.length : Int) := by omega
    obtain ⟨b, off, rfl, hbs, hcs⟩ := (HM.out.1.below hb) (by rintro rfl; simp at hlt)
    obtain ⟨c, hcd⟩ : ∃ c, L.getD m default = c := ⟨_, rfl⟩
    have hc := hcs m hlt
    rw [hcd] at hc
    obtain ⟨k0, -, -, -, -⟩ := hc
    have HX := Lib.hid (And.intro hb (And.intro hst (And.intro hcd hlt)))
    clear hb hst hcd hcs hb1 hlt
    go_wp2_with fail
    go_quiet (fail)
    go_wp2_with fail
    go_ret2
    refine ⟨below_drewN HX.out.1 nq, m, HX.out.2.1, ?_⟩
    rw [HX.out.2.2.1, decide_eq_true HX.out.2.2.2, Bool.true_and]
    rfl
  · have hd : decide ((m : Int) < (L.length : Int)) = false := by simp; omega
    have hd2 : ¬ (m : Int) < (L.length : Int) := by omega
    have hd3 : decide (m < L.length) = false := decide_eq_false hlt
    have HX := Lib.hid (And.intro hb (And.intro hst hlt))
    clear hb hst hb1 hlt
    go_wp2_with fail
    go_quiet (fail)
    go_wp2_with fail
    go_ret2
    refine ⟨below_drewN HX.out.1 nq, m, HX.out.2.1, ?_⟩
    rw [decide_eq_false HX.out.2.2, Bool.false_and]
    rfl
end Go.Proofs.Ytaceebgcaghocaa
