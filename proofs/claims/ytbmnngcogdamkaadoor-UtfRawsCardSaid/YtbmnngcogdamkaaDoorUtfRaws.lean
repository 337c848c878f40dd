/- Layer 12: the statement of any runes (printed by wip/tools/mkutfRaws.py). -/
import Derived.Test.YtbmnngcogdamkaaDoorUtfCuts
namespace Go.Proofs.YtbmnngcogdamkaaDoor
open Go.RowKit

theorem may_yes (q : Int) (h : mayZ q = true) (w : World) : Calls Tryd.prog 17 #[.int .i32 q] w fun e w' => e = .returned (.bool true) ∧ w = w' := by
  have := refMay_any q w
  rw [h] at this
  exact this
theorem may_no (q : Int) (h : mayZ q = false) (w : World) : Calls Tryd.prog 17 #[.int .i32 q] w fun e w' => e = .returned (.bool false) ∧ w = w' := by
  have := refMay_any q w
  rw [h] at this
  exact this
theorem mayZ_lt {q : Int} (h : mayZ q = true) : 0 ≤ q ∧ q < 1114112 := by
  unfold mayZ at h
  simp at h
  omega
theorem textR_four (rs : List Nat) : (textR rs).length ≤ 4 * rs.length := by
  induction rs with
  | nil => simp [textR]
  | cons r t ih =>
    have := lenB_le r
    rw [textR_len_cons, List.length_cons]
    omega
theorem raw_two (a : Option Addr) (rs : List Int) (c : Nat) (hc : rs.length ≤ 100000) (w : World) (hR : RnOn (Lt w.heap.size) w a rs) (hn : ¬ ∀ q ∈ rs, mayZ q = true) :
    Calls Tryd.prog 15 #[.slice a rs.length c] w fun e w' => e = .returned (.tuple #[.string ⟨#[]⟩, .int .i64 2]) ∧ Below w.heap.size w w' := raw_bad a rs c hc w hR hn
theorem raw_no (a : Option Addr) (ns : List Nat) (c : Nat) (hc : ns.length ≤ 100000) (w : World) (ht : Tabs w) (hR : RnOn (Lt w.heap.size) w a (natInts ns)) (hn : ∀ r ∈ ns, mayN r = true) (ho : ¬ okR ns) :
    Calls Tryd.prog 15 #[.slice a ns.length c] w fun e w' => e = .returned (.tuple #[.string ⟨#[]⟩, .int .i64 220]) ∧ Below w.heap.size w w' := by
  refine (raw_all a ns c hc w ht hR hn).mono ?_
  rintro e w' (⟨h, -⟩ | ⟨-, h⟩)
  · exact absurd h ho
  · exact h
theorem raw_good (a : Option Addr) (ns : List Nat) (c : Nat) (hc : ns.length ≤ 100000) (s : ByteArray) (hs : s.data.toList = textR ns) (w : World) (ht : Tabs w) (hR : RnOn (Lt w.heap.size) w a (natInts ns)) (hn : ∀ r ∈ ns, mayN r = true) (ho : okR ns) :
    Calls Tryd.prog 15 #[.slice a ns.length c] w fun e w' => e = .returned (.tuple #[.string s, .int .i64 0]) ∧ Below w.heap.size w w' := by
  refine (raw_all a ns c hc w ht hR hn).mono ?_
  rintro e w' (⟨-, rfl, hb⟩ | ⟨h, -⟩)
  · exact ⟨by rw [← hs], hb⟩
  · exact absurd ho h
set_option maxRecDepth 100000 in
set_option maxHeartbeats 4000000 in
theorem raws_long (a : Option Addr) (l : List Int) (c : Nat) (hl : 30000 < l.length) (hm : l.length ≤ maxLen) (w : World) (ht : Tabs w) :
    Calls Tryd.prog 4 #[.slice a l.length c] w fun e w' => BoolPost w true e w' := by
  have h2 := ht.two
  have HT := Lib.hid ht
  have hml := hm
  unfold maxLen at hml
  clear ht
  go_enter Tryd.func4, Tryd.ntmps4
  go_wp2_with fail
  refine (known_any w HT.out).mono ?_
  rintro e w1 ⟨rfl, hb1⟩
  have HB1 := Lib.hid hb1
  clear hb1
  go_wp2_with fail
  go_ret
  exact ⟨rfl, HB1.out⟩
set_option maxRecDepth 100000 in
set_option maxHeartbeats 4000000 in
theorem raws_bad (a : Option Addr) (l : List Int) (c : Nat) (hl : l.length ≤ 30000) (hn : ¬ ∀ q ∈ l, mayZ q = true) (w : World) (ht : Tabs w) (hR : RnOn (Lt w.heap.size) w a l) :
    Calls Tryd.prog 4 #[.slice a l.length c] w fun e w' => BoolPost w true e w' := by
  have h2 := ht.two
  have HW := Lib.hid (raw_two a l c (by omega) w hR hn)
  have HN := Lib.hid hn
  have HT := Lib.hid ht
  have HR0 := Lib.hid hR
  clear ht hR hn
  go_enter Tryd.func4, Tryd.ntmps4
  go_wp2_with fail
  refine (HW.out).mono ?_
  rintro e w1 ⟨rfl, hb1⟩
  have HB1 := Lib.hid hb1
  have HR := Lib.hid ((HR0.out.keeps (KeepsOn.of_below hb1 fun _ h => h)).mono fun b (hb : b < w.heap.size) => Nat.lt_of_lt_of_le hb hb1.size)
  clear hb1
  go_wp2_with fail
  go_loopw [5, 6, 7, 8, 20, 21, 22, 23, 24, 25, 26, 27, 28, 29, 30, 31, 32, 33, 34, 35, 36, 37, 38, 39, 40, 41, 42, 43, 44, 45, 46, 47] (fun n fi nb i _ _ _ _ _ _ _ _ _ _ _ _ _ _ _ _ _ _ _ _ _ _ _ _ _ _ _ _ wr => ∃ (k p : Nat) (b : Bool), n = .int .i64 p ∧ fi = .bool true ∧ nb = .bool b ∧ i = .int .i64 k ∧ k ≤ l.length ∧ p ≤ 4 * k ∧ (∀ q ∈ l.take k, mayZ q = true) ∧ Below w1.heap.size w1 wr)
    (fun n fi nb i _ _ _ _ _ _ _ _ _ _ _ _ _ _ _ _ _ _ _ _ _ _ _ _ _ _ _ _ _ => l.length - (intOf i).toNat)
  case atStart => exact ⟨0, 0, false, rfl, rfl, rfl, rfl, Nat.zero_le _, Nat.le_refl _, (fun _ h => by cases h), Below.refl _ _⟩
  case round =>
    obtain ⟨k, p, b, rfl, rfl, rfl, rfl, hk, hp, hq, hb⟩ := hrel
    by_cases hlt : k < l.length
    · obtain ⟨b0, o0, rfl, hb0, hc0⟩ := HR.out.keeps (KeepsOn.of_below (K := Lt w1.heap.size) hb fun _ h => h) (by intro e; rw [e] at hlt; simp at hlt)
      have hck := hc0 k hlt
      have hts := take_succ_int hlt
      have hlk : (k : Int) < l.length := by omega
      generalize l[k]?.getD 0 = q at *
      have HX := Lib.hid (And.intro hq (And.intro hts hb))
      clear hq hts hb hc0
      cases hm : mayZ q with
      | true =>
        obtain ⟨q0, q1⟩ := mayZ_lt hm
        obtain ⟨r, rfl⟩ : ∃ r : Nat, q = r := ⟨q.toNat, by omega⟩
        have HRW := Lib.hid (fun W => raw_len r (by omega) W)
        have hlr := lenB_le r
        have HM := Lib.hid hm
        generalize lenB r = lr at *
        clear hm
        go_wp2_with fail
        refine (may_yes _ HM.out wr).mono ?_
        rintro e w3 ⟨rfl, rfl⟩
        go_wp2_with fail
        refine (HRW.out wr).mono ?_
        rintro e w4 ⟨t1, rfl, ht1, hb4⟩
        have hck4 := (hb4.cell (Nat.lt_of_lt_of_le hb0 HX.out.2.2.size)).trans hck
        have HB4 := Lib.hid (HX.out.2.2.trans (hb4.mono HX.out.2.2.size))
        clear hb4 hck
        have ht1z : (t1.size : Int) = (lr : Int) + 1 := by omega
        cases b
        all_goals
          go_wp2_with fail
          go_roundw
          case rel =>
            refine ⟨k + 1, p + (lr + 1), _, by go_num, rfl, rfl, by go_num, by omega, by omega, ?_, HB4.out⟩
            intro q hq
            rw [HX.out.2.1] at hq
            rcases List.mem_append.1 hq with h | h
            · exact HX.out.1 q h
            · rw [List.mem_singleton.1 h]; exact HM.out
          case measure => simp [intOf]; omega
      | false =>
        have HM := Lib.hid hm
        have HB2 := Lib.hid (show Below w.heap.size w wr from HB1.out.trans (HX.out.2.2.mono HB1.out.size))
        clear hm
        go_wp2_with fail
        refine (may_no _ HM.out wr).mono ?_
        rintro e w3 ⟨rfl, rfl⟩
        go_wp2_with fail
        refine (known_any wr (HT.out.below HB2.out h2)).mono ?_
        rintro e w3 ⟨rfl, hb3⟩
        have HB3 := Lib.hid (show Below w.heap.size w w3 from HB2.out.trans (hb3.mono HB2.out.size))
        clear hb3
        go_wp2_with fail
        go_ret
        exact ⟨rfl, HB3.out⟩
    · obtain rfl : k = l.length := by omega
      rw [List.take_length] at hq
      exact absurd hq HN.out
set_option maxRecDepth 100000 in
set_option maxHeartbeats 4000000 in
theorem raws_no (a : Option Addr) (ns : List Nat) (c : Nat) (hl : ns.length ≤ 30000) (hn : ∀ r ∈ ns, mayN r = true) (ho : ¬ okR ns) (w : World) (ht : Tabs w) (hR : RnOn (Lt w.heap.size) w a (natInts ns)) :
    Calls Tryd.prog 4 #[.slice a ns.length c] w fun e w' => BoolPost w true e w' := by
  have h2 := ht.two
  have HN := Lib.hid hn
  have HT := Lib.hid ht
  have HR0 := Lib.hid hR
  have hln : (natInts ns).length = ns.length := List.length_map _
  have HL := Lib.hid (show ∀ k, k < ns.length → ns[k]! < 1114112 ∧ mayZ (ns[k]! : Int) = true ∧ (natInts ns)[k]?.getD 0 = (ns[k]! : Int) ∧ (textR (ns.take (k + 1))).length = (textR (ns.take k)).length + (lenB ns[k]! + 1) ∧ ns[k]! ∈ ns ∧ decide (0 ∈ ns.take (k + 1)) = (decide (0 ∈ ns.take k) || decide (ns[k]! = 0)) from fun k hk => by
    rw [getElem!_pos ns k hk]
    have h1 := hn _ (List.getElem_mem hk)
    refine ⟨?_, by rw [mayZ_nat]; exact h1, natInts_at ns hk, textR_take_succ ns hk, List.getElem_mem hk, ?_⟩
    · unfold mayN at h1
      simp at h1
      omega
    · rw [List.take_succ_eq_append_getElem hk, Bool.eq_iff_iff]
      simp only [Bool.or_eq_true, decide_eq_true_eq, List.mem_append, List.mem_singleton]
      exact ⟨fun h => h.imp id Eq.symm, fun h => h.imp id Eq.symm⟩)
  have H4 := Lib.hid (show ∀ k, k ≤ ns.length → (textR (ns.take k)).length ≤ 4 * k from fun k hk => by
    have := textR_four (ns.take k)
    rw [List.length_take] at this
    omega)
  have HW := Lib.hid (raw_no a ns c (by omega) w ht hR hn ho)
  have HO := Lib.hid (show 0 ∈ ns ∨ 65535 < (textR ns).length from by
    by_cases h0 : 0 ∈ ns
    · exact .inl h0
    · refine .inr (Nat.lt_of_not_le fun h => ho ⟨fun r hr => ?_, h⟩)
      rcases Nat.eq_zero_or_pos r with rfl | h
      · exact absurd hr h0
      · exact h)
  clear ht hR hn ho
  go_enter Tryd.func4, Tryd.ntmps4
  go_wp2_with fail
  refine (HW.out).mono ?_
  rintro e w1 ⟨rfl, hb1⟩
  have HB1 := Lib.hid hb1
  have HR := Lib.hid ((HR0.out.keeps (KeepsOn.of_below hb1 fun _ h => h)).mono fun b (hb : b < w.heap.size) => Nat.lt_of_lt_of_le hb hb1.size)
  clear hb1
  go_wp2_with fail
  go_loopw [5, 6, 7, 8, 20, 21, 22, 23, 24, 25, 26, 27, 28, 29, 30, 31, 32, 33, 34, 35, 36, 37, 38, 39, 40, 41, 42, 43, 44, 45, 46, 47] (fun n fi nb i _ _ _ _ _ _ _ _ _ _ _ _ _ _ _ _ _ _ _ _ _ _ _ _ _ _ _ _ wr => ∃ k : Nat, n = .int .i64 ((textR (ns.take k)).length : Nat) ∧ fi = .bool true ∧ nb = .bool (decide (0 ∈ ns.take k)) ∧ i = .int .i64 k ∧ k ≤ ns.length ∧ Below w1.heap.size w1 wr)
    (fun n fi nb i _ _ _ _ _ _ _ _ _ _ _ _ _ _ _ _ _ _ _ _ _ _ _ _ _ _ _ _ _ => ns.length - (intOf i).toNat)
  case atStart => exact ⟨0, rfl, rfl, rfl, rfl, Nat.zero_le _, Below.refl _ _⟩
  case round =>
    obtain ⟨k, rfl, rfl, rfl, rfl, hk, hb⟩ := hrel
    obtain ⟨p, hp⟩ : ∃ p, (textR (ns.take k)).length = p := ⟨_, rfl⟩
    have hp4 := H4.out k hk
    rw [hp] at hp4 ⊢
    obtain ⟨z, hz⟩ : ∃ z, decide (0 ∈ ns.take k) = z := ⟨_, rfl⟩
    rw [hz]
    by_cases hlt : k < ns.length
    · have HZ := Lib.hid hz
      clear hz
      obtain ⟨b0, o0, rfl, hb0, hc0⟩ := HR.out.keeps (KeepsOn.of_below (K := Lt w1.heap.size) hb fun _ h => h) (by intro e; rw [e] at hln; simp at hln; omega)
      have hck := hc0 k (by omega)
      obtain ⟨l1, l2, l3, l4, l5, l6⟩ := HL.out k hlt
      rw [l3] at hck
      rw [hp] at l4
      rw [HZ.out] at l6
      have hlk : (k : Int) < ns.length := by omega
      have HX := Lib.hid (And.intro l4 (And.intro l6 (And.intro hb l5)))
      generalize ns[k]! = r at *
      have HRW := Lib.hid (fun W => raw_len r l1 W)
      have HM := Lib.hid l2
      have hlr := lenB_le r
      generalize lenB r = lr at *
      clear hp hb hc0 l1 l2 l3 l4 l5 l6
      go_wp2_with fail
      refine (may_yes _ HM.out wr).mono ?_
      rintro e w3 ⟨rfl, rfl⟩
      go_wp2_with fail
      refine (HRW.out wr).mono ?_
      rintro e w4 ⟨t1, rfl, ht1, hb4⟩
      have hck4 := (hb4.cell (Nat.lt_of_lt_of_le hb0 HX.out.2.2.1.size)).trans hck
      have HB4 := Lib.hid (HX.out.2.2.1.trans (hb4.mono HX.out.2.2.1.size))
      clear hb4 hck
      have ht1z : (t1.size : Int) = (lr : Int) + 1 := by omega
      by_cases hr0 : r = 0
      · subst hr0
        cases z
        all_goals
          go_wp2_with fail
          go_roundw
          case rel => exact ⟨k + 1, by rw [HX.out.1]; go_num, by first | rfl | trivial, by rw [HX.out.2.1]; rfl, by go_num, by omega, HB4.out⟩
          case measure => simp [intOf]; omega
      · have hr1 : ((r : Int) == 0) = false := by simp; omega
        have hr2 : decide (r = 0) = false := by simpa using hr0
        have HR2 := Lib.hid hr2
        clear hr2
        cases z
        all_goals
          go_wp2_with fail
          go_roundw
          case rel => exact ⟨k + 1, by rw [HX.out.1]; go_num, by first | rfl | trivial, by rw [HX.out.2.1, HR2.out]; rfl, by go_num, by omega, HB4.out⟩
          case measure => simp [intOf]; omega
    · obtain rfl : k = ns.length := by omega
      rw [List.take_length] at hp hz
      have hlk : ¬ ((ns.length : Int) < ns.length) := by omega
      have HB2 := Lib.hid (show Below w.heap.size w wr from HB1.out.trans (hb.mono HB1.out.size))
      clear hb
      have ho := HO.out
      rw [hp] at ho
      have HP := Lib.hid hp
      clear hp
      cases z with
      | true =>
        clear hz ho
        go_wp2_with fail
        refine (known_any wr (HT.out.below HB2.out h2)).mono ?_
        rintro e w3 ⟨rfl, hb3⟩
        have HB3 := Lib.hid (show Below w.heap.size w w3 from HB2.out.trans (hb3.mono HB2.out.size))
        clear hb3
        go_wp2_with fail
        go_ret
        exact ⟨rfl, HB3.out⟩
      | false =>
        have ho2 : (65535 : Int) < p := by
          rcases ho with h | h
          · simp at hz; exact absurd h hz
          · omega
        clear hz ho
        go_wp2_with fail
        refine (known_any wr (HT.out.below HB2.out h2)).mono ?_
        rintro e w3 ⟨rfl, hb3⟩
        have HB3 := Lib.hid (show Below w.heap.size w w3 from HB2.out.trans (hb3.mono HB2.out.size))
        clear hb3
        go_wp2_with fail
        go_ret
        exact ⟨rfl, HB3.out⟩
set_option maxRecDepth 100000 in
set_option maxHeartbeats 4000000 in
theorem raws_ok (a : Option Addr) (ns : List Nat) (c : Nat) (hl : ns.length ≤ 30000) (hn : ∀ r ∈ ns, mayN r = true) (ho : okR ns) (w : World) (ht : Tabs w) (hR : RnOn (Lt w.heap.size) w a (natInts ns)) :
    Calls Tryd.prog 4 #[.slice a ns.length c] w fun e w' => BoolPost w true e w' := by
  have h2 := ht.two
  have HN := Lib.hid hn
  have HT := Lib.hid ht
  have HR0 := Lib.hid hR
  have hln : (natInts ns).length = ns.length := List.length_map _
  have HL := Lib.hid (show ∀ k, k < ns.length → ns[k]! < 1114112 ∧ mayZ (ns[k]! : Int) = true ∧ (natInts ns)[k]?.getD 0 = (ns[k]! : Int) ∧ (textR (ns.take (k + 1))).length = (textR (ns.take k)).length + (lenB ns[k]! + 1) ∧ ns[k]! ∈ ns ∧ decide (0 ∈ ns.take (k + 1)) = (decide (0 ∈ ns.take k) || decide (ns[k]! = 0)) from fun k hk => by
    rw [getElem!_pos ns k hk]
    have h1 := hn _ (List.getElem_mem hk)
    refine ⟨?_, by rw [mayZ_nat]; exact h1, natInts_at ns hk, textR_take_succ ns hk, List.getElem_mem hk, ?_⟩
    · unfold mayN at h1
      simp at h1
      omega
    · rw [List.take_succ_eq_append_getElem hk, Bool.eq_iff_iff]
      simp only [Bool.or_eq_true, decide_eq_true_eq, List.mem_append, List.mem_singleton]
      exact ⟨fun h => h.imp id Eq.symm, fun h => h.imp id Eq.symm⟩)
  have H4 := Lib.hid (show ∀ k, k ≤ ns.length → (textR (ns.take k)).length ≤ 4 * k from fun k hk => by
    have := textR_four (ns.take k)
    rw [List.length_take] at this
    omega)
  obtain ⟨s, hs⟩ : ∃ s : ByteArray, s.data.toList = textR ns := ⟨⟨(textR ns).toArray⟩, by simp⟩
  have hsz : s.size = (textR ns).length := by rw [← hs, ← Lib.size_eq]
  have hrd : Rd s ns := (Rd.small (by have := ho.2; omega)).2 ⟨fun r hr => ⟨ho.1 r hr, hn r hr⟩, [], by rw [hs, List.append_nil], rfl⟩
  have HW := Lib.hid (raw_good a ns c (by omega) s hs w ht hR hn ho)
  have HRN := Lib.hid (fun W hW => runes_any s ns hrd (by have := ho.2; unfold maxLen; omega) W hW)
  have HNX := Lib.hid (show ¬ (textR ns).length < s.data.toList.length by rw [hs]; omega)
  have H0 := Lib.hid ho.1
  have h65 : (s.size : Int) ≤ 65535 := by have := ho.2; omega
  have HSZ := Lib.hid hsz
  have HS := Lib.hid (fun v v' W hV hV' => same_yes v v' (natInts ns) (by omega) W hV hV')
  unfold RunesPost at HRN
  change Hid (∀ W hW, Calls _ _ _ W fun e w' => (_ ∧ ∃ v, e = _ ∧ OwnR w' W.heap.size v (natInts ns) ∧ _) ∨ _) at HRN
  clear ht hR hn ho hs hsz hrd
  go_enter Tryd.func4, Tryd.ntmps4
  go_wp2_with fail
  refine (HW.out).mono ?_
  rintro e w1 ⟨rfl, hb1⟩
  have HB1 := Lib.hid hb1
  have HR := Lib.hid ((HR0.out.keeps (KeepsOn.of_below hb1 fun _ h => h)).mono fun b (hb : b < w.heap.size) => Nat.lt_of_lt_of_le hb hb1.size)
  clear hb1
  go_wp2_with fail
  go_loopw [5, 6, 7, 8, 20, 21, 22, 23, 24, 25, 26, 27, 28, 29, 30, 31, 32, 33, 34, 35, 36, 37, 38, 39, 40, 41, 42, 43, 44, 45, 46, 47] (fun n fi nb i _ _ _ _ _ _ _ _ _ _ _ _ _ _ _ _ _ _ _ _ _ _ _ _ _ _ _ _ wr => ∃ k : Nat, n = .int .i64 ((textR (ns.take k)).length : Nat) ∧ fi = .bool true ∧ nb = .bool false ∧ i = .int .i64 k ∧ k ≤ ns.length ∧ Below w1.heap.size w1 wr)
    (fun n fi nb i _ _ _ _ _ _ _ _ _ _ _ _ _ _ _ _ _ _ _ _ _ _ _ _ _ _ _ _ _ => ns.length - (intOf i).toNat)
  case atStart => exact ⟨0, rfl, rfl, rfl, rfl, Nat.zero_le _, Below.refl _ _⟩
  case round =>
    obtain ⟨k, rfl, rfl, rfl, rfl, hk, hb⟩ := hrel
    obtain ⟨p, hp⟩ : ∃ p, (textR (ns.take k)).length = p := ⟨_, rfl⟩
    have hp4 := H4.out k hk
    rw [hp] at hp4 ⊢
    by_cases hlt : k < ns.length
    · skip
      obtain ⟨b0, o0, rfl, hb0, hc0⟩ := HR.out.keeps (KeepsOn.of_below (K := Lt w1.heap.size) hb fun _ h => h) (by intro e; rw [e] at hln; simp at hln; omega)
      have hck := hc0 k (by omega)
      obtain ⟨l1, l2, l3, l4, l5, l6⟩ := HL.out k hlt
      rw [l3] at hck
      rw [hp] at l4
      have hlk : (k : Int) < ns.length := by omega
      have HX := Lib.hid (And.intro l4 (And.intro l6 (And.intro hb l5)))
      generalize ns[k]! = r at *
      have HRW := Lib.hid (fun W => raw_len r l1 W)
      have HM := Lib.hid l2
      have hlr := lenB_le r
      generalize lenB r = lr at *
      clear hp hb hc0 l1 l2 l3 l4 l5 l6
      go_wp2_with fail
      refine (may_yes _ HM.out wr).mono ?_
      rintro e w3 ⟨rfl, rfl⟩
      go_wp2_with fail
      refine (HRW.out wr).mono ?_
      rintro e w4 ⟨t1, rfl, ht1, hb4⟩
      have hck4 := (hb4.cell (Nat.lt_of_lt_of_le hb0 HX.out.2.2.1.size)).trans hck
      have HB4 := Lib.hid (HX.out.2.2.1.trans (hb4.mono HX.out.2.2.1.size))
      clear hb4 hck
      have ht1z : (t1.size : Int) = (lr : Int) + 1 := by omega
      have hr1 : ((r : Int) == 0) = false := by have := H0.out r HX.out.2.2.2; simp; omega
      go_wp2_with fail
      go_roundw
      case rel => exact ⟨k + 1, by rw [HX.out.1]; go_num, by first | rfl | trivial, by first | rfl | trivial, by go_num, by omega, HB4.out⟩
      case measure => simp [intOf]; omega
    · obtain rfl : k = ns.length := by omega
      rw [List.take_length, ← HSZ.out] at hp
      subst hp
      have hlk : ¬ ((ns.length : Int) < ns.length) := by omega
      have HB2 := Lib.hid (show Below w.heap.size w wr from HB1.out.trans (hb.mono HB1.out.size))
      have HV := Lib.hid (show RnVal wr (.slice a ns.length c) (natInts ns) from ⟨a, c, by rw [hln], (HR.out.keeps (KeepsOn.of_below hb fun _ h => h)).mono fun b (h : b < w1.heap.size) => Nat.lt_of_lt_of_le h hb.size⟩)
      clear hb
      go_wp2_with fail
      refine (HRN.out wr (HT.out.below HB2.out h2)).mono ?_
      rintro e w3 (⟨-, v, rfl, hO, hb3⟩ | ⟨h0, -⟩)
      rotate_left
      · exact absurd h0 HNX.out
      have HB3 := Lib.hid (show Below w.heap.size w w3 from HB2.out.trans (hb3.mono HB2.out.size))
      have V3 := Lib.hid hO.val
      have U3 := Lib.hid (HV.out.below hb3)
      clear hO
      clear hb3
      go_wp2_with fail
      refine (HS.out _ _ w3 V3.out U3.out).mono ?_
      rintro e w4 ⟨rfl, hb4⟩
      have HB4 := Lib.hid (show Below w.heap.size w w4 from HB3.out.trans (hb4.mono HB3.out.size))
      clear hb4
      go_wp2_with fail
      refine (known_any w4 (HT.out.below HB4.out h2)).mono ?_
      rintro e w5 ⟨rfl, hb5⟩
      have HB5 := Lib.hid (show Below w.heap.size w w5 from HB4.out.trans (hb5.mono HB4.out.size))
      clear hb5
      go_wp2_with fail
      go_ret
      exact ⟨rfl, HB5.out⟩
theorem utfRaws_any (a : Option Addr) (l : List Int) (c : Nat) (hm : l.length ≤ maxLen) (w : World) (ht : Tabs w) (hR : RnOn (Lt w.heap.size) w a l) : Calls Tryd.prog 4 #[.slice a l.length c] w fun e w' => BoolPost w true e w' := by
  rcases Nat.lt_or_ge 30000 l.length with h | h
  · exact raws_long a l c h hm w ht
  by_cases hn : ∀ q ∈ l, mayZ q = true
  · obtain ⟨ns, rfl⟩ : ∃ ns : List Nat, l = natInts ns := ⟨l.map Int.toNat, by
      unfold natInts
      rw [List.map_map]
      conv => lhs; rw [← List.map_id l]
      refine List.map_congr_left fun q hq => ?_
      have := mayZ_lt (hn q hq)
      simp
      omega⟩
    have hln : (natInts ns).length = ns.length := List.length_map _
    have hn' : ∀ r ∈ ns, mayN r = true := fun r hr => by
      rw [← mayZ_nat]; exact hn _ (List.mem_map.2 ⟨r, hr, rfl⟩)
    rw [hln] at h ⊢
    by_cases ho : okR ns
    · exact raws_ok a ns c h hn' ho w ht hR
    · exact raws_no a ns c h hn' ho w ht hR
  · exact raws_bad a l c h hn w ht hR
end Go.Proofs.YtbmnngcogdamkaaDoor
