/- Layer 5: the bytes of cells, all of them (Raw). -/
import Derived.Lib.AppendZerosOnto
import Derived.Test.YtaceebgcaghocaaStops
import Derived.Test.YtaceebgcaghocaaSlG
namespace Go.Proofs.Ytaceebgcaghocaa
open Go.RowKit

theorem zeros_own (w : World) (G base : Nat) (hb : base ≤ w.heap.size) (hG : G ≤ maxLen) : OwnB (w.alloc (.cells (Array.replicate G (.int .u8 0)) 5)) base (.slice (some ⟨w.heap.size, 0, none⟩) 0 G) [] :=
  ⟨rfl, .inr ⟨w.heap.size, G, _, rfl, hb, heap_alloc_new w _, Nat.zero_le _, hG, by simp, by simp [byteVals]⟩⟩
def GrowPost (w : World) (e : Ending) (w' : World) : Prop := ∃ v, e = .returned v ∧ OwnB w' w.heap.size v [] ∧ Below w.heap.size w w'
theorem zero_cells (n : Nat) : Builtin.zeroCells (Value.int IntKind.u8 0).cells n = Array.replicate n (.int .u8 0) := by
  unfold Builtin.zeroCells
  apply Array.ext
  · simp [Value.cells]
  · intro i h1 h2
    simp [Value.cells, Nat.mod_one]
set_option maxRecDepth 100000 in
theorem grow_any (n : Nat) (h1 : 1 ≤ n) (h2 : n ≤ 1000000) (w : World) : Calls Try.prog 40 #[.slice none 0 0, .int .i64 n] w fun e w' => GrowPost w e w' := by
  obtain ⟨i0, hi, hz0, hz1, hz2⟩ := info_parts infoU8
  have hap : ∀ ty, (Builtin.append_ #[23, 3] ty #[.slice none 0 0, .int .i64 n]).run Try.prog w = .ok (.slice (some ⟨w.heap.size, 0, none⟩) n (grownCap w (0 + n) 0 5)) (w.drew.alloc (.cells (Array.replicate (grownCap w (0 + n) 0 5) (.int .u8 0)) 5)) := fun ty => by
    have h := Lib.run_append_grow_zeros (P := Try.prog) w 23 3 ty 5 i0 (.int .u8 0) .i64 .i64 Try.underlying23 Try.underlying3 hi hz0 none 0 0 [] (run_firstCells_none w.drew i0.size 0 0 0) n (by omega) (by rw [hz1]; decide) (by omega) (by omega) (by rw [hz2]; omega) (growslice_fits (by omega) (by rw [hz2]; omega))
    rw [h, Nat.zero_add]
    have hge := grownCap_ge w n 0 5
    congr 4
    rw [zero_cells, zero_cells]
    simp
    omega
  have hG := grownCap_le_maxLen w (0 + n) 0 5 (by unfold maxLen; omega)
  obtain ⟨G, hGe⟩ : ∃ G, grownCap w (0 + n) 0 5 = G := ⟨_, rfl⟩
  rw [hGe] at hG
  simp only [hGe] at hap
  have HO := Lib.hid (zeros_own w.drew G w.heap.size (Nat.le_refl _) hG)
  have HG := Lib.hid hG
  clear hGe hG
  have hn : (0 : Int) < n := by omega
  go_enter Try.func40, Try.ntmps40
  go_wp2_with (at_builtin; refine stop_here ?_)
  refine wpList_append_val rfl rfl rfl rfl (hap _) ?_
  go_wp2
  go_ret
  exact ⟨_, rfl, HO.out, ((Below.refl _ _).alloc (Nat.le_refl _) _).drew⟩
set_option maxRecDepth 100000 in
theorem grow_none (w : World) : Calls Try.prog 40 #[.slice none 0 0, .int .i64 0] w fun e w' => GrowPost w e w' := by
  go_enter Try.func40, Try.ntmps40
  go_wp2
  go_ret
  exact ⟨_, rfl, OwnB.nil _ _, Below.refl _ _⟩
theorem flat_succ {ls : List (List UInt8)} {k : Nat} (h : k < ls.length) : (ls.take (k + 1)).flatten = (ls.take k).flatten ++ ls.getD k [] := by
  rw [List.take_add_one, List.getElem?_eq_getElem h, List.flatten_append]; simp [List.getD, h]
/-- From the slice's address on lie these slices of bytes. -/
def BsAt (w : World) (a : Option Addr) (ls : List (List UInt8)) : Prop := ls ≠ [] → ∃ g, a = some ⟨g, 0, none⟩ ∧ g < w.heap.size ∧ ∀ j, j < ls.length → ∃ a' c', w.cell? ⟨g, j, none⟩ = some (.slice a' (ls.getD j []).length c') ∧ BytesAt w.heap.size w a' (ls.getD j []) ∧ (a' = none → c' = 0) ∧ (ls.getD j []).length ≤ c'
theorem BsAt.below {w w' : World} {a : Option Addr} {ls : List (List UInt8)} (h : BsAt w a ls) (hb : Below w.heap.size w w') : BsAt w' a ls := fun hne => by
  obtain ⟨g, rfl, hg, hc⟩ := h hne
  refine ⟨g, rfl, Nat.lt_of_lt_of_le hg hb.size, fun j hj => ?_⟩
  obtain ⟨a', c', h1, h2, h3, h4⟩ := hc j hj
  exact ⟨a', c', (hb.cell (p := ⟨g, j, none⟩) hg).trans h1, (h2.below hb).mono hb.size, h3, h4⟩
theorem OwnL.bs {w : World} {base : Nat} {v : Value} {ls : List (List UInt8)} (h : OwnL w base v ls) : ∃ a cap, v = .slice a ls.length cap ∧ BsAt w a ls ∧ ls.length ≤ cap := by
  obtain ⟨a, cap, rfl, hle, -, hr⟩ := h.form
  refine ⟨a, cap, rfl, fun hne => ?_, hle⟩
  obtain ⟨g, rfl, -, hg, hc⟩ := hr hne
  refine ⟨g, rfl, hg, fun j hj => ?_⟩
  obtain ⟨u, h1, h2⟩ := hc j hj
  obtain ⟨a', c', rfl, k2, k3, -, k5, -⟩ := h2.form
  exact ⟨a', c', h1, k2, k5, k3⟩
theorem BsAt.run {w : World} {a : Option Addr} {ls : List (List UInt8)} (h : BsAt w a ls) : RunAt w a ls := fun hne => by
  obtain ⟨g, rfl, hg, hc⟩ := h hne
  refine ⟨g, 0, rfl, hg, fun j hj => ?_⟩
  obtain ⟨a', c', h1, -⟩ := hc j hj
  exact ⟨a', c', by rw [Nat.zero_add]; exact h1⟩
def LaidPost (w : World) (l : List UInt8) (e : Ending) (w' : World) : Prop := ∃ v, e = .returned v ∧ OwnB w' w.heap.size v l ∧ Below w.heap.size w w'
set_option maxHeartbeats 1000000 in
set_option maxRecDepth 100000 in
theorem concat_any (w : World) (a : Option Addr) (c : Nat) (ls : List (List UInt8)) (hp : BsAt w a ls) (hf : ls.length ≤ 1000) (h2 : ls.flatten.length ≤ 1000000) :
    Calls Try.prog 23 #[.slice a ls.length c] w fun e w' => LaidPost w ls.flatten e w' := by
  have HP := Lib.hid hp
  have HL := Lib.hid h2
  clear hp h2
  go_enter Try.func23, Try.ntmps23
  go_wp2
  go_loop [3, 5, 11, 12, 13, 14, 15, 16, 17, 18, 19, 20, 21, 22] (fun z _ i _ _ _ _ _ _ _ _ _ _ _ => ∃ k : Nat, i = .int .i64 k ∧ k ≤ ls.length ∧ z = .int .i64 (ls.take k).flatten.length) (fun _ _ i _ _ _ _ _ _ _ _ _ _ _ => ls.length - (intOf i).toNat)
  case atStart => exact ⟨0, rfl, Nat.zero_le _, rfl⟩
  case round =>
    obtain ⟨k, rfl, hk, rfl⟩ := hrel
    by_cases hlt : k < ls.length
    · obtain ⟨g, rfl, hg, hcs⟩ := HP.out (by rintro rfl; simp at hlt)
      obtain ⟨a', cc, hcell, -, -, -⟩ := hcs k hlt
      have hfl : (ls.take (k + 1)).flatten.length = (ls.take k).flatten.length + (ls.getD k []).length := by rw [flat_succ hlt, List.length_append]
      have hle : (ls.take (k + 1)).flatten.length ≤ 1000000 := by
        have h2 := HL.out
        have : ls.flatten = (ls.take (k + 1)).flatten ++ (ls.drop (k + 1)).flatten := by rw [← List.flatten_append, List.take_append_drop]
        rw [this, List.length_append] at h2
        omega
      obtain ⟨m, hm⟩ : ∃ m, (ls.getD k []).length = m := ⟨_, rfl⟩
      obtain ⟨z, hz⟩ : ∃ z, (ls.take k).flatten.length = z := ⟨_, rfl⟩
      rw [hm, hz] at hfl
      rw [hm] at hcell
      rw [hfl] at hle
      have HF := Lib.hid hfl
      have HZ := Lib.hid hz
      rw [hz]
      clear hfl hm hz hcs
      have hkL : (k : Int) < (ls.length : Int) := by omega
      go_wp2
      exact ⟨⟨k + 1, by go_num, hlt, by rw [HF.out]; go_num⟩, by simp only [intOf]; omega⟩
    · obtain rfl : k = ls.length := by omega
      have hkL : ¬ ((ls.length : Int) < (ls.length : Int)) := by omega
      rw [List.take_length]
      obtain ⟨N, hN⟩ : ∃ N, ls.flatten.length = N := ⟨_, rfl⟩
      have hN2 := HL.out
      rw [hN] at hN2 ⊢
      have HN := Lib.hid hN
      have HG := Lib.hid (fun w => show Calls Try.prog 40 #[.slice none 0 0, .int .i64 N] w fun e w' => GrowPost w e w' from by
        rcases Nat.eq_zero_or_pos N with h0 | h0
        · subst h0; exact grow_none w
        · exact grow_any N h0 hN2 w)
      clear hN
      go_wp2_with (go_at_call 40; refine (HG.out _).mono ?_; rintro e w1 ⟨v1, rfl, hO1, hb1⟩)
      go_loopw [6, 8, 27, 28, 29, 30, 31, 32, 33, 34] (fun v _ i _ _ _ _ _ _ _ wr => ∃ k : Nat, i = .int .i64 k ∧ k ≤ ls.length ∧ OwnB wr w.heap.size v (ls.take k).flatten ∧ Below w.heap.size w wr) (fun _ _ i _ _ _ _ _ _ _ _ => ls.length - (intOf i).toNat)
      case atStart => exact ⟨0, rfl, Nat.zero_le _, hO1, hb1⟩
      case round =>
        obtain ⟨k, rfl, hk, hO, hbr⟩ := hrel
        by_cases hlt : k < ls.length
        · obtain ⟨g, rfl, hg, hcs⟩ := (HP.out.below hbr) (by rintro rfl; simp at hlt)
          obtain ⟨a', cc, hcell, hBt, hno, hle⟩ := hcs k hlt
          have hfl : (ls.take (k + 1)).flatten = (ls.take k).flatten ++ ls.getD k [] := flat_succ hlt
          have hle2 : (ls.take k).flatten.length + (ls.getD k []).length ≤ 1000000 := by
            have h2 := HL.out
            have : ls.flatten = (ls.take (k + 1)).flatten ++ (ls.drop (k + 1)).flatten := by rw [← List.flatten_append, List.take_append_drop]
            rw [this, List.length_append, hfl, List.length_append] at h2
            omega
          obtain ⟨m, hm⟩ : ∃ m, ls.getD k [] = m := ⟨_, rfl⟩
          rw [hm] at hcell hBt hle hfl hle2
          clear hm
          have HF := Lib.hid hfl
          have HX := Lib.hid (And.intro hBt (And.intro hno (And.intro hle (And.intro hle2 (And.intro hbr hO)))))
          clear hfl hBt hno hle hle2 hbr hO hcs
          have hkL : (k : Int) < (ls.length : Int) := by omega
          go_wp2_with (at_builtin; refine wpList_append_bytes rfl (.tmp 31) (.tmp 32) rfl w.heap.size wr.heap.size _ _ rfl HX.out.2.2.2.2.2 _ _ _ rfl HX.out.2.1 HX.out.2.2.1 HX.out.1 (by have := HX.out.2.2.2.1; omega) HX.out.2.2.2.2.1.size ?_; intro v' w' hO' hg'; rw [← HF.out] at hO'; have hb' := HX.out.2.2.2.2.2.grown hg' HX.out.2.2.2.2.1 (Nat.le_refl _) HX.out.2.2.2.2.1.size)
          exact ⟨⟨k + 1, by go_num, hlt, hO', hb'⟩, by simp only [intOf]; omega⟩
        · obtain rfl : k = ls.length := by omega
          have hkL : ¬ ((ls.length : Int) < (ls.length : Int)) := by omega
          rw [List.take_length] at hO
          have HX := Lib.hid (And.intro hO hbr)
          clear hO hbr
          go_wp2
          go_ret
          exact ⟨_, rfl, HX.out.1, HX.out.2⟩
end Go.Proofs.Ytaceebgcaghocaa
