/- Layer 13: ContainsAny of both signs: whatever bytes a text has. -/
import Derived.Test.YtgcfgheamaoceaaGreatDoorTopC
namespace Go.Proofs.YtgcfgheamaoceaaGreatDoor
open Go.RowKit Go.Lib

theorem decode_skip (s : ByteArray) (pos : Nat) (h : pos < s.size) (ha : 128 ≤ (s[pos]'h).toNat) (j : Nat) (h1 : 1 ≤ j) (h2 : j < (Utf8.decode s pos).2) : pos + j < s.size ∧ 128 ≤ (s.get! (pos + j)).toNat := by
  have hn : ¬ (s[pos]'h).toNat < 128 := by omega
  simp only [Utf8.decode, get_at s pos h, hn, if_false] at h2
  have hj : j = 1 ∨ j = 2 ∨ j = 3 ∨ 4 ≤ j := by omega
  split at h2
  · rename_i hc
    simp only [Bool.and_eq_true, decide_eq_true_eq, beq_iff_eq] at hc
    split at h2
    · rcases hj with rfl | rfl | rfl | hj
      · exact ⟨hc.2.1, by omega⟩
      all_goals simp only at h2; omega
    · simp only at h2; omega
  split at h2
  · rename_i hc
    simp only [Bool.and_eq_true, decide_eq_true_eq, beq_iff_eq] at hc
    split at h2
    · rcases hj with rfl | rfl | rfl | hj
      · exact ⟨hc.1.2.1, by omega⟩
      · exact ⟨hc.2.1, by omega⟩
      all_goals simp only at h2; omega
    · simp only at h2; omega
  split at h2
  · rename_i hc
    simp only [Bool.and_eq_true, decide_eq_true_eq, beq_iff_eq] at hc
    split at h2
    · rcases hj with rfl | rfl | rfl | hj
      · exact ⟨hc.1.1.2.1, by omega⟩
      · exact ⟨hc.1.2.1, by omega⟩
      · exact ⟨hc.2.1, by omega⟩
      · simp only at h2; omega
    · simp only at h2; omega
  · simp only at h2; omega
/-- Both signs. -/
def both : ByteArray := ⟨#[43, 35]⟩
theorem encode_high (r : Int) (h0 : 128 ≤ r) (hv : Utf8.valid r = true) : (∃ a b : UInt8, Utf8.encode r = ⟨#[a, b]⟩ ∧ 128 ≤ b.toNat) ∨ (3 ≤ (Utf8.encode r).size ∧ (Utf8.encode r).size ≤ 4) := by
  obtain ⟨n, rfl⟩ : ∃ n : Nat, r = n := ⟨r.toNat, by omega⟩
  have hn : ¬ n < 128 := by omega
  unfold Utf8.encode
  rw [if_pos hv]
  simp only [Int.toNat_natCast, hn, if_false]
  split
  · exact .inl ⟨_, _, rfl, by rw [UInt8.toNat_ofNat_of_lt' (by have : UInt8.size = 256 := rfl; omega)]; omega⟩
  split
  · exact .inr ⟨Nat.le_refl _, show 3 ≤ 4 by decide⟩
  · exact .inr ⟨show 3 ≤ 4 by decide, Nat.le_refl _⟩
theorem below_drewN1 (w : World) (a : Nat) : Below w.heap.size w (w.drewN a) := ⟨rfl, rfl, rfl, Nat.le_refl _, fun _ _ => rfl⟩
def NoPost (w : World) (e : Ending) (w' : World) : Prop := e = .returned (.int .i64 (-1)) ∧ Below w.heap.size w w'
set_option maxRecDepth 100000 in
set_option maxHeartbeats 4000000 in
theorem irune_err (w : World) : Calls Tryz.prog 136 #[.string both, .int .i32 65533] w fun e w' => NoPost w e w' := by
  have n0 := fun ty => run_next_any (P := Tryz.prog) w both 0 ty (by decide)
  have n1 := fun ty => run_next_any (P := Tryz.prog) w both 1 ty (by decide)
  have n2 := fun ty => run_next_end (P := Tryz.prog) w both 2 ty (by decide)
  have d0 : Utf8.decode both 0 = (43, 1) := by decide
  have d1 : Utf8.decode both 1 = (35, 1) := by decide
  rw [d0] at n0
  rw [d1] at n1
  clear d0 d1
  go_enter Tryz.func136, Tryz.ntmps136
  go_wp2
  refine wp_loop_rounds 4 ?_; rw [rounds_succ]
  go_wp2
  rw [rounds_succ]
  go_wp2
  rw [rounds_succ]
  go_wp2
  go_ret
  exact ⟨rfl, (Below.refl _ w).alloc (Nat.le_refl _) _⟩
set_option maxRecDepth 100000 in
set_option maxHeartbeats 4000000 in
theorem irune_bad (r : Int) (h0 : 128 ≤ r) (hv : Lib.validRune r = false) (he : r ≠ 65533) (w : World) : Calls Tryz.prog 136 #[.string both, .int .i32 r] w fun e w' => NoPost w e w' := by
  have he' : (r == 65533) = false := by simpa using he
  have hd : decide (r < 128) = false := by simp; omega
  have HV := Lib.hid (utf8_ValidRune r w)
  rw [hv] at HV
  clear hv he
  go_enter Tryz.func136, Tryz.ntmps136
  go_wp2_with (go_at_call 152; refine HV.out.mono ?_; rintro e w' ⟨rfl, rfl⟩)
  go_ret
  exact ⟨rfl, Below.refl _ _⟩
set_option maxRecDepth 100000 in
set_option maxHeartbeats 4000000 in
theorem irune_more (r : Int) (h0 : 128 ≤ r) (hv : Lib.validRune r = true) (he : r ≠ 65533) (w : World) (h3 : 3 ≤ (Utf8.encode r).size) (h4 : (Utf8.encode r).size ≤ 4) (hbs : both.size = 2) : Calls Tryz.prog 136 #[.string both, .int .i32 r] w fun e w' => NoPost w e w' := by
  have he' : (r == 65533) = false := by simpa using he
  have hd : decide (r < 128) = false := by simp; omega
  have HV := Lib.hid (utf8_ValidRune r w)
  rw [hv] at HV
  clear hv he
  go_enter Tryz.func136, Tryz.ntmps136
  go_wp2_with (go_at_call 152; refine HV.out.mono ?_; rintro e w' ⟨rfl, rfl⟩)
  refine wp_scope_straight ?_
  go_wp2
  refine wp_loop_once ?_
  go_wp2
  simp only [Exit.noGoto, Exit.inBlock]
  go_ret
  exact ⟨rfl, Below.refl _ _⟩
theorem index_both1 (w : World) : (Instr.index 9 (.string both) (.int .i64 1)).run Tryz.prog w = .ok (.int .u8 35) w := index_str both 1 1 rfl (by decide) w
theorem index_two (a b : UInt8) (w : World) : (Instr.index 9 (.string ⟨#[a, b]⟩) (.int .i64 1)).run Tryz.prog w = .ok (.int .u8 (b.toNat : Nat)) w := index_str ⟨#[a, b]⟩ 1 1 rfl (show 1 < 2 by decide) w
theorem slice_both2 (w : World) : (Instr.sliceAt 9 (.string both) (some (.int .i64 2)) none none).run Tryz.prog w = .ok (.string ⟨#[]⟩) w := str_hi both 2 (by decide) w
set_option maxRecDepth 100000 in
set_option maxHeartbeats 4000000 in
theorem irune_two (r : Int) (h0 : 128 ≤ r) (hv : Lib.validRune r = true) (he : r ≠ 65533) (w : World) (a b : UInt8) (hab : Utf8.encode r = ⟨#[a, b]⟩) (hb : 128 ≤ b.toNat) : Calls Tryz.prog 136 #[.string both, .int .i32 r] w fun e w' => NoPost w e w' := by
  have he' : (r == 65533) = false := by simpa using he
  have hd : decide (r < 128) = false := by simp; omega
  have HV := Lib.hid (utf8_ValidRune r w)
  rw [hv] at HV
  have hs2 : (⟨#[a, b]⟩ : ByteArray).size = 2 := rfl
  have i1 := index_both1
  have i2 := index_two a b
  have s2 := slice_both2
  have hne : ((35 : Int) != (b.toNat : Int)) = true := by simp; omega
  have hbs : both.size = 2 := rfl
  have HI : Hid (∀ W, Calls Tryz.prog 151 #[.string ⟨#[]⟩, .int .u8 (b.toNat : Int)] W fun e w' => e = .returned (.int .i64 (-1)) ∧ W = w') := Lib.hid (fun W => (strings_IndexByte ⟨#[]⟩ (b.toNat : Int) W).mono fun e w' h => ⟨h.1, h.2.symm⟩)
  clear hv he
  go_enter Tryz.func136, Tryz.ntmps136
  go_wp2_with (go_at_call 152; refine HV.out.mono ?_; rintro e w' ⟨rfl, rfl⟩)
  refine wp_scope_straight ?_
  go_wp2
  refine wp_loop_rounds 2 ?_; rw [rounds_succ]
  go_wp2
  refine wp_scope_straight ?_
  go_wp2
  go_quiet (fail)
  go_wp2
  have hw2 : IntKind.i64.wrap 2 = 2 := rfl
  go_quiet ((go_at_call 151; refine (HI.out _).mono ?_; rintro e w3 ⟨rfl, rfl⟩; exact ⟨rfl, _, rfl⟩))
  go_wp2
  simp only [Exit.noGoto, Exit.inBlock, Exit.then]
  go_ret
  exact ⟨rfl, below_drewN1 _ _⟩
theorem irune_high (r : Int) (h0 : 128 ≤ r) (w : World) : Calls Tryz.prog 136 #[.string both, .int .i32 r] w fun e w' => NoPost w e w' := by
  by_cases he : r = 65533
  · subst he; exact irune_err w
  · cases hv : Lib.validRune r with
    | false => exact irune_bad r h0 hv he w
    | true =>
      have hv2 : Utf8.valid r = true := by
        unfold Lib.validRune at hv
        unfold Utf8.valid
        simp at hv ⊢
        omega
      rcases encode_high r h0 hv2 with ⟨a, b, hab, hb⟩ | ⟨h3, h4⟩
      · exact irune_two r h0 hv he w a b hab hb
      · exact irune_more r h0 hv he w h3 h4 rfl
end Go.Proofs.YtgcfgheamaoceaaGreatDoor
