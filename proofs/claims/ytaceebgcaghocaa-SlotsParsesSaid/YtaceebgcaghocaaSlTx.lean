/- Layer 5: the document`s text out of bytes. -/
import Derived.Deep.RegionWith
import Derived.Deep.QuietTactic
import Derived.BigQuiet
import Derived.WalkSmall
import Derived.Test.YtaceebgcaghocaaOwnB
import Derived.Test.YtaceebgcaghocaaWireR5
import Derived.Test.YtaceebgcaghocaaSlK
namespace Go.Proofs.Ytaceebgcaghocaa
open Go.RowKit

theorem sliceOne (w : World) (ao : Option Addr) (n c x : Nat) (hc : 1 + x ≤ c) : (Instr.sliceAt 23 (.slice ao n c) (some (.int .i64 1)) (some (.int .i64 (1 + (x : Int)))) none).run Try.prog w = .ok (.slice (slFrom ao c 1) x (c - 1)) w := by
  have hel : Try.prog.elem 23 = 5 := by kernel_rfl
  have hu : Try.prog.underlying 23 = some (.slice (Try.prog.elem 23)) := by rw [hel]; exact Try.underlying23
  have hs : (sizeOf 5).run Try.prog w = .ok 1 w := by kernel_rfl
  have h1 := (run_sliceAt_slice (P := Try.prog) w 23 _ _ _ _ hu).trans (run_slice_lh (P := Try.prog) w 23 ao n c hu .i64 .i64 1 (1 + (x : Int)) (by omega) (by omega) (by omega))
  rw [hel, hs] at h1
  simp only [Result.andThen_ok, Int.toNat_one, sliced] at h1
  rw [show (1 + (x : Int)).toNat - 1 = x by omega] at h1
  exact h1
theorem sliceUp (w : World) (ao : Option Addr) (n c x : Nat) (hi : 1 + x ≤ n) : (Instr.sliceAt 23 (.slice ao n c) (some (.int .i64 (1 + (x : Int)))) none none).run Try.prog w = .ok (.slice (slFrom ao c (1 + x)) (n - (1 + x)) (c - (1 + x))) w := by
  have := sliceFrom w ao n c (1 + x) hi
  rwa [show ((1 + x : Nat) : Int) = 1 + (x : Int) by omega] at this
/-- Bytes that a slice shows from a place on. -/
def ShowsL (n₁ : Nat) (w : World) (v : Value) (l : List UInt8) : Prop := ∃ a c, v = .slice a l.length c ∧ BytesAt n₁ w a l ∧ (a = none → c = 0) ∧ l.length ≤ c ∧ l.length ≤ 1000
def TxPost (n₁ : Nat) (w : World) (r : List UInt8) (e : Ending) (w' : World) : Prop :=
  (TxOk r → ∃ v, e = .returned (.tuple #[.string (txS r), v, .bool true]) ∧ ShowsL n₁ w' v (txR r)) ∧ (¬ TxOk r → e = .returned (.tuple #[.string ByteArray.empty, .slice none 0 0, .bool false])) ∧ ∃ n, w' = w.drewN n
set_option maxRecDepth 100000 in
set_option maxHeartbeats 2000000 in
theorem tx5_any (n₁ : Nat) (r : List UInt8) (v : Value) (w : World) (hm : ShowsL n₁ w v r) : Calls Try.prog 14 #[v] w fun e w' => TxPost n₁ w r e w' := by
  obtain ⟨a, c, rfl, hm, hno, hc, hl⟩ := hm
  cases r with
  | nil =>
    have P : TxPost n₁ w [] (.returned (.tuple #[.string ByteArray.empty, .slice none 0 0, .bool false])) w := ⟨fun h => absurd h (by simp [TxOk]), fun _ => rfl, 0, rfl⟩
    have HP := Lib.hid P
    clear P hm hno
    go_enter Try.func14, Try.ntmps14
    go_wp2_with fail
    go_ret3
    exact HP.out
  | cons b t =>
    obtain ⟨g, off, rfl, hg, hcell⟩ := hm (by simp)
    have hc0 := hcell 0 (by simp)
    simp only [Nat.add_zero, List.getElem?_cons_zero, Option.getD_some] at hc0
    have e1 : numOf ((b :: t).take 1) = b.toNat := by simp [numOf]
    have hb := UInt8.toNat_lt b
    simp only [List.length_cons] at hl hc ⊢
    obtain ⟨m, hmm⟩ : ∃ m, t.length = m := ⟨_, rfl⟩
    obtain ⟨x, hx⟩ : ∃ x, b.toNat = x := ⟨_, rfl⟩
    rw [hmm] at hl hc ⊢
    rw [hx] at hc0 hb e1
    have HR := Lib.hid (And.intro hm (And.intro hg (And.intro hmm (And.intro hx (And.intro e1 (And.intro hc hl))))))
    have hno2 : TxOk (b :: t) ↔ x ≤ m := by unfold TxOk; rw [e1, List.length_cons, hmm]; omega
    have HO := Lib.hid hno2
    clear hcell hmm hx hm hno hno2
    by_cases hok : x ≤ m
    · have hd1 : decide (((m + 1 : Nat) : Int) < 1) = false := by simp; omega
      have hd2 : decide (((m + 1 : Nat) : Int) < 1 + (x : Int)) = false := by simp; omega
      have hs1 := fun w => sliceOne w (some ⟨g, off, none⟩) (m + 1) c x (by omega)
      have hs2 := fun w => sliceUp w (some ⟨g, off, none⟩) (m + 1) c x (by omega)
      have hcv := fun n => conv_at (w.drewN n) (slFrom (some ⟨g, off, none⟩) c 1) (t.take x) (c - 1) n₁ (by
        obtain ⟨hm, -, hmm, -⟩ := HR.out
        have := rest_at (c := c) (i := 1) hm (by rw [List.length_cons, hmm]; omega)
        rw [List.drop_one, List.tail_cons, ← List.take_append_drop x t] at this
        exact (this.left).below (below_drewN (Below.refl _ _) n))
      rw [show (t.take x).length = x by rw [List.length_take, HR.out.2.2.1]; omega] at hcv
      obtain ⟨a1, ha1⟩ : ∃ z, slFrom (some ⟨g, off, none⟩) c 1 = z := ⟨_, rfl⟩
      obtain ⟨a2, ha2⟩ : ∃ z, slFrom (some ⟨g, off, none⟩) c (1 + x) = z := ⟨_, rfl⟩
      simp only [ha1] at hs1 hcv
      simp only [ha2] at hs2
      have HA := Lib.hid (And.intro ha1 (And.intro ha2 hok))
      clear ha1 ha2
      go_enter Try.func14, Try.ntmps14
      go_wp2_with fail
      go_quiet (fail)
      go_wp2_with fail
      go_ret3
      obtain ⟨ha1, ha2, hok⟩ := HA.out
      obtain ⟨hm, hg, hmm, hx, e1, hc, hl⟩ := HR.out
      have eS : txS (b :: t) = ⟨(t.take x).toArray⟩ := by unfold txS; rw [e1]; rfl
      have eR : txR (b :: t) = (b :: t).drop (1 + x) := by unfold txR; rw [e1]
      have eL : (txR (b :: t)).length = m + 1 - (1 + x) := by rw [eR, List.length_drop, List.length_cons, hmm]
      have hr := rest_at (c := c) (i := 1 + x) hm (by rw [List.length_cons, hmm]; omega)
      rw [ha2, ← eR] at hr
      refine ⟨fun _ => ⟨.slice a2 (m + 1 - (1 + x)) (c - (1 + x)), ?_, a2, c - (1 + x), ?_, hr.below (below_drewN (Below.refl _ _) nq), fun h => slFrom_none (i := 1 + x) (fun e => by cases e) (ha2.trans h), by omega, by omega⟩, fun h => absurd (HO.out.2 hok) h, nq, rfl⟩
      · rw [eS]; rfl
      · rw [eL]
    · have hd1 : decide (((m + 1 : Nat) : Int) < 1) = false := by simp; omega
      have hd2 : decide (((m + 1 : Nat) : Int) < 1 + (x : Int)) = true := by simp; omega
      go_enter Try.func14, Try.ntmps14
      go_wp2_with fail
      go_ret3
      exact ⟨fun h => absurd (HO.out.1 h) hok, fun _ => rfl, 0, rfl⟩
end Go.Proofs.Ytaceebgcaghocaa
