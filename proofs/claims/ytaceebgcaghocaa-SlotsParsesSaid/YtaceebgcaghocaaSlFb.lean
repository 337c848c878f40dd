/- Layer 5: the bytes of a branch's cells, one by one. -/
import Derived.Test.YtaceebgcaghocaaSlF
namespace Go.Proofs.Ytaceebgcaghocaa
open Go.RowKit

set_option maxRecDepth 100000 in
set_option maxHeartbeats 4000000 in
theorem laid_branch (w : World) (a : Option Addr) (L : List Cv) (cap : Nat) (hne : L ≠ []) (hcap : L.length ≤ 1000) (hm0 : CellsAt w.heap.size w a L) :
    Calls Try.prog 18 #[.int .i64 3, .slice a L.length cap] w fun e w' => LaidC w 3 L e w' := by
  have HM := Lib.hid hm0
  clear hm0
  have hne2 : ((L.length : Int) == 0) = false := by
    have : L.length ≠ 0 := fun e => hne (List.eq_nil_of_length_eq_zero e)
    simp; exact hne
  have HNE := Lib.hid hne
  clear hne
  go_enter Try.func18, Try.ntmps18
  go_wp2
  refine wp_scope_jumps 0 (fun a' w' => LaidJump w 3 (.slice a L.length cap) a' w' ∧ ¬ RightC 3 L) (fun _ _ => 0) rfl ?first ?pass
  case first =>
    go_wp2_with fail
    refine (kinds_any w).mono ?_
    rintro e w1 ⟨rfl, hm, hb⟩
    have HB := Lib.hid hb
    have hkf := kindF_3
    clear hb
    go_wp2_with (refine wpList_look rfl _ _ true rfl Try.underlying22 Try.underlying43 zeroPart hm rfl 3 (by omega) rfl ?_; rw [hkf]; simp only [Option.isSome_some, Option.getD_some, if_true]; clear hm hkf)
    go_loopw [4, 8, 9, 29, 30, 31, 32, 33, 34, 35, 36, 37, 38, 39, 40, 41, 42, 43, 44, 45, 46, 47, 48, 49, 50, 51, 52, 53, 54, 55, 56, 57, 58, 59, 60, 61, 62, 63, 64, 65, 66, 67, 68, 69, 70, 71, 72] (fun v _ _ y _ _ _ _ _ _ _ _ _ _ _ _ _ _ _ _ _ _ _ _ _ _ _ _ _ _ _ _ _ _ _ _ _ _ _ _ _ _ _ _ _ _ _ wr => Below w.heap.size w wr ∧ ∃ i : Nat, y = .int .i64 i ∧ i ≤ L.length ∧ OkUpto false L i ∧ OwnL wr w.heap.size v (bytesOf false (L.take i))) (fun _ _ _ y _ _ _ _ _ _ _ _ _ _ _ _ _ _ _ _ _ _ _ _ _ _ _ _ _ _ _ _ _ _ _ _ _ _ _ _ _ _ _ _ _ _ _ _ => L.length - (intOf y).toNat)
    case atStart => exact ⟨HB.out, 0, rfl, Nat.zero_le _, fun j hj => by omega, OwnL.nil _ _⟩
    case round =>
      obtain ⟨hb, i, rfl, hi, hok, hO⟩ := hrel
      by_cases hlt : i < L.length
      · have hiL : (i : Int) < (L.length : Int) := by omega
        obtain ⟨b, off, rfl, hbs, hcs⟩ := (HM.out.below hb) (by rintro rfl; simp at hlt)
        have hblt : b < wr.heap.size := Nat.lt_of_lt_of_le hbs hb.size
        obtain ⟨c, hcd⟩ : ∃ c, L.getD i default = c := ⟨_, rfl⟩
        have hci := hcs i hlt
        rw [hcd] at hci
        obtain ⟨k0, -, -, -, -⟩ := hci
        have HX := Lib.hid (And.intro hb (And.intro hok (And.intro hO (And.intro hcs hcd))))
        have HBS := Lib.hid hbs
        clear hb hok hO hcs
        go_wp2_with fail
        go_cut [47] (fun x wx => Below wr.heap.size wr wx ∧ ∃ nb : Bool, x = .bool nb ∧ (nb = false → Rises L i) ∧ (nb = true → ¬ Rises L i))
        case first =>
          by_cases h0 : i = 0
          · subst h0
            clear hcd
            go_quiet (fail)
            go_wp2_with fail
            go_meet
            case rel => exact ⟨below_drewN (Below.refl _ _) nq, false, rfl, fun _ h => absurd h (by omega), fun h => by cases h⟩
          · obtain ⟨j, rfl⟩ : ∃ j, i = j + 1 := ⟨i - 1, by omega⟩
            have hcj := HX.out.2.2.2.1 j (by omega)
            obtain ⟨p, hpd⟩ : ∃ p, L.getD j default = p := ⟨_, rfl⟩
            rw [hpd] at hcj
            obtain ⟨q0, -, -, -, -⟩ := hcj
            have HPD := Lib.hid (And.intro hcd hpd)
            clear hcd hpd
            go_quiet (fail)
            have hle := less_not c.key.toList p.key.toList
            obtain ⟨nb, hnb⟩ : ∃ nb, (Op.bytesLess c.key.toList p.key.toList || c.key.toList == p.key.toList) = nb := ⟨_, rfl⟩
            rw [hnb] at hle ⊢
            have HNB := Lib.hid hle
            clear hle hnb
            go_wp2_with fail
            go_meet
            case rel =>
              refine ⟨below_drewN (Below.refl _ _) nq, nb, rfl, fun h _ => ?_, fun h hr => ?_⟩
              · have := HNB.out
                rw [h] at this
                rw [Nat.add_sub_cancel, HPD.out.1, HPD.out.2]
                simpa using this.symm
              · have := HNB.out
                have h2 := hr (Nat.succ_pos _)
                rw [Nat.add_sub_cancel, HPD.out.1, HPD.out.2] at h2
                rw [h, h2] at this
                cases this
        case rest =>
          obtain ⟨hbx, nb, rfl, hn0, hn1⟩ := hcut
          cases nb
          case true =>
            have HJ := Lib.hid (And.intro (go_on HX.out.1 hbx) (show ¬ RightC 3 L from fun h => hn1 rfl (h.2.2 i hlt).2))
            clear hcd hn0 hn1 hbx hlt
            go_wp2
            go_step3
            exact ⟨rfl, ⟨HJ.out.1, _, _, _, _, _, _, _, _, _, _, _, _, _, _, _, _, _, _, _, _, _, _, _, _, _, _, _, _, _, _, _, _, _, _, _, _, _, _, _, _, _, _, _, _, _, _, _, _, _, _, _, _, _, _, _, _, _, _, _, _, _, _, _, _, _, _, _, _, _, _, _, _, rfl⟩, HJ.out.2⟩
          case false =>
            have hri := hn0 rfl
            have HR := Lib.hid (And.intro hri (And.intro hbx hlt))
            clear hn0 hn1 hri hbx
            go_wp2_with fail
            refine (newWriter_any wc).mono ?_
            rintro e w2 ⟨rfl, hW, hb2⟩
            have hA : Below w2.heap.size w2 (w2.alloc (.cells #[wptr wc.heap.size, .bool false] 82)) := (Below.refl _ _).alloc (Nat.le_refl _) _
            have hI : IsHand wc.heap.size (w2.alloc (.cells #[wptr wc.heap.size, .bool false] 82)) w2.heap.size wc.heap.size [] false := ⟨heap_alloc_new w2 _, hb2.size, _, hW.below hA⟩
            have HW := Lib.hid (And.intro hI (And.intro hb2 hA))
            clear hW hb2 hA hI
            go_wp2_with fail
            obtain ⟨d, hd⟩ : ∃ d, hasOf false c = d := ⟨_, rfl⟩
            obtain ⟨r, hr⟩ : ∃ r, handOf false c = r := ⟨_, rfl⟩
            have hRUN := Lib.hid (show ∀ w' : World, IsHand wc.heap.size w' w2.heap.size wc.heap.size [] false → Calls Try.prog 27 #[whand w2.heap.size, cellv c] w' fun e w'' => HandPost wc.heap.size w' w2.heap.size wc.heap.size (cellv d) r e w'' from fun w' h => by
              rw [← hd, ← hr]; exact branchW_any h c)
            go_cut [65] (fun x wx => Below wc.heap.size wc wx ∧ ((d.same c = true ∧ r.2 = false ∧ x = .bool false ∧ IsHand wc.heap.size wx w2.heap.size wc.heap.size r.1 false) ∨ (¬ (d.same c = true ∧ r.2 = false) ∧ x = .bool true)))
            case first =>
              obtain ⟨hI, hb2, hA⟩ := HW.out
              have hbA : Below wc.heap.size wc (w2.alloc (.cells #[wptr wc.heap.size, .bool false] 82)) := go_on hb2 hA
              have hcx := ((HX.out.2.2.2.1 i HR.out.2.2).below (HR.out.2.1.mono (Nat.le_refl _)) hblt).below hbA (Nat.lt_of_lt_of_le hblt HR.out.2.1.size)
              rw [HX.out.2.2.2.2] at hcx
              have hblt2 : b < wc.heap.size := Nat.lt_of_lt_of_le hblt HR.out.2.1.size
              revert hI hbA hcx
              generalize w2.alloc (.cells #[wptr wc.heap.size, .bool false] 82) = w3
              intro hI hbA hcx
              have hId := hI.below ((Below.refl w3.heap.size w3).drew)
              have hcd := hcx
              obtain ⟨k0, k1, k2, k3, k4⟩ := hcd
              have kd0 : w3.drew.cell? ⟨b, off + i * 5, none⟩ = some (.string c.key) := k0
              have kd1 : w3.drew.cell? ⟨b, off + i * 5 + 1, none⟩ = some (.string c.text) := k1
              have kd2 : w3.drew.cell? ⟨b, off + i * 5 + 2, none⟩ = some (.bool c.long) := k2
              have kd3 : w3.drew.cell? ⟨b, off + i * 5 + 3, none⟩ = some (.int .i64 c.page) := k3
              have kd4 : w3.drew.cell? ⟨b, off + i * 5 + 4, none⟩ = some (.int .i64 c.size) := k4
              have hneq := fun w => neq_cell d c w
              have hcxd : CellAt w3.drew b (off + i * 5) c := hcx.below ((Below.refl w3.heap.size w3).drew) (Nat.lt_of_lt_of_le hblt2 hbA.size)
              have HQ := Lib.hid (And.intro hId (And.intro hbA hcxd))
              clear hI hId hbA hcx hcxd hd hr hb2 hA
              by_cases hs : d.same c = true
              · simp only [hs, Bool.not_true] at hneq
                go_region_with (go_at_call 27; refine (hRUN.out _ HQ.out.1).mono ?_; rintro e w4 ⟨rfl, hI4, hb4, hc4⟩; have hcy := HQ.out.2.2.below hb4 hblt2; obtain ⟨m0, m1, m2, m3, m4⟩ := hcy; have hg1 := hI4.cell1; have HZ := Lib.hid (And.intro hI4 hb4); clear hI4 hb4 hc4)
                all_goals
                  go_wp2_with fail
                  go_meet
                all_goals
                  refine ⟨(HQ.out.2.1.drew).trans HZ.out.2, ?_⟩
                  have h4 := HZ.out.1
                  cases hr2 : r.2
                  · rw [hr2] at h4
                    exact .inl ⟨hs, rfl, rfl, h4⟩
                  · exact .inr ⟨fun h => (by cases h.2), rfl⟩
              · have hs2 : d.same c = false := by simpa using hs
                simp only [hs2, Bool.not_false] at hneq
                first | go_region_with (go_at_call 27; refine (hRUN.out _ HQ.out.1).mono ?_; rintro e w4 ⟨rfl, hI4, hb4, hc4⟩; have hcy := HQ.out.2.2.below hb4 hblt2; obtain ⟨m0, m1, m2, m3, m4⟩ := hcy; have hg1 := hI4.cell1; have HZ := Lib.hid (And.intro hI4 hb4); clear hI4 hb4 hc4) | fail
                all_goals
                  go_wp2_with fail
                  go_meet
                all_goals exact ⟨(HQ.out.2.1.drew).trans HZ.out.2, .inr ⟨fun h => hs h.1, rfl⟩⟩
            case rest =>
              obtain ⟨hbz, ⟨hs, hr2, rfl, hI⟩ | ⟨hno, rfl⟩⟩ := hcut
              · obtain ⟨v5, hW5⟩ := hI.wr
                have g0 := hI.cell0
                have H5 := Lib.hid (And.intro hbz (And.intro hW5 (And.intro (And.intro hs hr2) (And.intro hd hr))))
                clear hbz hI hs hr2 hd hr hRUN hlt hcd
                go_wp2_with fail
                refine (wbytes_any H5.out.2.1).mono ?_
                rintro e w6 ⟨v6, rfl, hO6, hb6⟩
                obtain ⟨a6, c6, he6, -⟩ := hO6.form
                obtain ⟨n6, hn6⟩ : ∃ n, r.1.length = n := ⟨_, rfl⟩
                rw [hn6] at he6
                clear hn6
                subst he6
                have hn0 := HX.out.1.size
                have hn1 := HR.out.2.1.size
                have hn2 := H5.out.1.size
                have hn3 := hb6.size
                have hbAll := go_on (go_on (HX.out.1) HR.out.2.1) ((H5.out.1).trans (hb6.mono hn2))
                have hA6 : Below w6.heap.size w6 (w6.alloc (.cells #[.slice a6 n6 c6] 23)) := (Below.refl _ _).alloc (Nat.le_refl _) _
                have hbAA := go_on hbAll hA6
                have hOL := HX.out.2.2.1.below (HR.out.2.1.trans (((H5.out.1).trans (hb6.mono hn2)).mono hn1 |>.trans (hA6.mono (Nat.le_trans hn1 (Nat.le_trans hn2 hn3)))))
                have hOB := (hO6.below hA6).mono (Nat.le_trans hn0 (Nat.le_trans hn1 hn2))
                have hcl : (w6.alloc (.cells #[.slice a6 n6 c6] 23)).cell? ⟨w6.heap.size, 0, none⟩ = some (.slice a6 n6 c6) := cell_of_row _ _ 0 _ _ _ (heap_alloc_new w6 _)
                have H6 := Lib.hid (And.intro hbAA (And.intro hOL (And.intro hOB hcl)))
                clear hO6 hb6 hbAll hA6 hbAA hOL hOB hcl hn0 hn1 hn2 hn3 g0
                go_wp2_with (at_builtin; refine wpList_append_run rfl (.tmp 66) (.tmp 70) rfl w.heap.size _ _ rfl H6.out.2.1 _ _ _ _ rfl H6.out.2.2.2 H6.out.2.2.1 (by unfold bytesOf; rw [List.length_map, List.length_take]; omega) H6.out.1.size ?_; intro v7 w7 hO7 hg7; refine stop_here ?_)
                have hb7 := H6.out.1.grown hg7 H6.out.1.size (fun k e => H6.out.2.1.block k e)
                have hok : OkUpto false L (i + 1) := fun j hj => by
                  by_cases hji : j < i
                  · exact HX.out.2.1 j hji
                  · obtain rfl : j = i := by omega
                    refine ⟨?_, HR.out.1⟩
                    rw [HX.out.2.2.2.2]
                    unfold CellOk
                    rw [H5.out.2.2.2.1, H5.out.2.2.2.2]
                    exact H5.out.2.2.1
                have htk : bytesOf false (L.take (i + 1)) = bytesOf false (L.take i) ++ [r.1] := by
                  unfold bytesOf
                  rw [take_map _ L i default HR.out.2.2, HX.out.2.2.2.2, H5.out.2.2.2.2]
                rw [← htk] at hO7
                have H7 := Lib.hid (And.intro hb7 (And.intro HR.out.2.2 (And.intro hok hO7)))
                clear hb7 hok htk hO7 hg7
                change wpList _ _ _ _ _ _
                go_wp2
                exact ⟨⟨H7.out.1, i + 1, by go_num, H7.out.2.1, H7.out.2.2⟩, by have := H7.out.2.1; simp only [intOf]; omega⟩
              · have HJ := Lib.hid (And.intro (go_on (go_on HX.out.1 HR.out.2.1) hbz) (show ¬ RightC 3 L from fun h => hno (by have := (h.2.2 i HR.out.2.2).1; rw [HX.out.2.2.2.2] at this; unfold CellOk at this; rw [← hd, ← hr]; exact this)))
                clear hcd hbz hlt hd hr hRUN hno
                go_wp2
                go_step3
                exact ⟨rfl, ⟨HJ.out.1, _, _, _, _, _, _, _, _, _, _, _, _, _, _, _, _, _, _, _, _, _, _, _, _, _, _, _, _, _, _, _, _, _, _, _, _, _, _, _, _, _, _, _, _, _, _, _, _, _, _, _, _, _, _, _, _, _, _, _, _, _, _, _, _, _, _, _, _, _, _, _, _, rfl⟩, HJ.out.2⟩
      · obtain rfl : i = L.length := by omega
        have hkL : ¬ ((L.length : Int) < (L.length : Int)) := by omega
        rw [List.take_length] at hO
        have HX := Lib.hid (And.intro hb (And.intro hok hO))
        clear hb hok hO
        go_wp2
        simp only [Exit.jump]
        go_ret2
        exact ⟨HX.out.1, .inl ⟨⟨.inr rfl, fun _ => HNE.out, HX.out.2.1⟩, _, rfl, HX.out.2.2⟩⟩
  case pass =>
    rintro a' w' ⟨⟨hb, u2, u3, u4, u5, u6, u7, u8, u9, u10, u11, u12, u13, u14, u15, u16, u17, u18, u19, u20, u21, u22, u23, u24, u25, u26, u27, u28, u29, u30, u31, u32, u33, u34, u35, u36, u37, u38, u39, u40, u41, u42, u43, u44, u45, u46, u47, u48, u49, u50, u51, u52, u53, u54, u55, u56, u57, u58, u59, u60, u61, u62, u63, u64, u65, u66, u67, u68, u69, u70, u71, u72, u73, rfl⟩, hno⟩
    have HB := Lib.hid hb
    have HN := Lib.hid hno
    clear hb hno
    go_wp2
    simp only [Exit.jump]
    go_ret2
    exact ⟨HB.out, .inr ⟨HN.out, rfl⟩⟩
end Go.Proofs.Ytaceebgcaghocaa
