/- Layer 13: are all of them filters? -/
import Derived.BigGuardPartIn
import Derived.Test.YtgcfgheamaoceaaGreatDoorTopJ
namespace Go.Proofs.YtgcfgheamaoceaaGreatDoor
open Go.RowKit Go.Shelf

attribute [local go_sem] Oper.semAt_some

/-- The frame ahead of a text, and what has come of those ahead of it. -/
def FiRel (w : World) (b c : Nat) (l : List ByteArray) (a' : Act) (w' : World) : Prop := ∃ (k : Nat) (Ds : List Nat) (u3 u4 u5 u6 u7 u11 u12 u13 u14 u15 u16 u17 u18 u19 u20 u21 u22 u23 u24 u25 u26 u27 u28 u29 u30 u31 u32 u33 : Value),
  a' = { tmps := #[.slice (some ⟨b, 0, none⟩) l.length c, undef, .bool false, u3, u4, u5, u6, u7, .slice (some ⟨b, 0, none⟩) l.length c, .int .i64 l.length, .int .i64 k, u11, u12, u13, u14, u15, u16, u17, u18, u19, u20, u21, u22, u23, u24, u25, u26, u27, u28, u29, u30, u31, u32, u33], defers := Ds.map markD } ∧
  k ≤ l.length ∧ (∀ x ∈ l.take k, filtL x.data.toList = true) ∧ Marks w.heap.size Ds w' ∧ Below w.heap.size w w'
def FiJump (w : World) (l : List ByteArray) (a' : Act) (w' : World) : Prop := allF l = false ∧ a'.tmps.size = 34 ∧ ∃ Ds, a'.defers = Ds.map markD ∧ Marks w.heap.size Ds w' ∧ Below w.heap.size w w'
set_option maxRecDepth 100000 in
set_option maxHeartbeats 8000000 in
theorem filters_wide (n : Nat) (hn : 4 ≤ n) (b c : Nat) (l : List ByteArray) (hl : ∀ x ∈ l, x.size ≤ 1000) (hlen : l.length ≤ 1000) (w : World) (ht : Tabs w) (hS : StrsAt w b l) :
    CallsIn Fence.wide n Tryz.prog 69 #[.slice (some ⟨b, 0, none⟩) l.length c] w fun e w' => BPost w (allF l) e w' := by
  have h1 : 1 ≤ n := by omega
  have hdp : Fence.wide.depth.isSome = true → 1 ≤ n - 1 - 1 := fun _ => by omega
  have h2 := ht.two
  refine callsIn_of_wp_marks Tryz.func69 rfl trivial ?_ rfl
  simp only [Tryz.ntmps69, List.size_toArray, List.length_cons, List.length_nil, Nat.reduceAdd, Nat.reduceSub, Array.replicate_succ, Array.replicate_zero, List.push_toArray, List.append_toArray, List.nil_append, List.cons_append]
  have HT := Lib.hid (And.intro ht (And.intro hS hl))
  clear ht hS hl
  gi_wp2
  refine wpIn_scope_jumps 0 (FiJump w l) (fun _ _ => 0) rfl ?first ?pass
  case first =>
    gi_wp2
    refine wpIn_loop (FiRel w b c l) (fun a' _ => l.length - (intOf (a'.tmps.getD 10 undef)).toNat) ⟨0, [], undef, undef, undef, undef, undef, undef, undef, undef, undef, undef, undef, undef, undef, undef, undef, undef, undef, undef, undef, undef, undef, undef, undef, undef, undef, undef, undef, undef, rfl, Nat.zero_le _, (fun _ h => by simp at h), ⟨List.nodup_nil, fun _ h => by cases h⟩, Below.refl _ _⟩ ?round
    case round =>
      rintro a' wr ⟨k, Ds, u3, u4, u5, u6, u7, u11, u12, u13, u14, u15, u16, u17, u18, u19, u20, u21, u22, u23, u24, u25, u26, u27, u28, u29, u30, u31, u32, u33, rfl, hk, hok, hm, hb⟩
      have HX := Lib.hid (And.intro hok (And.intro hm hb))
      clear hok hm hb
      by_cases hlt : k < l.length
      · obtain ⟨x, hx⟩ : ∃ x, l[k] = x := ⟨_, rfl⟩
        have hxm : x ∈ l := hx ▸ List.getElem_mem hlt
        have hxk : l[k]? = some x := by rw [List.getElem?_eq_getElem hlt, hx]
        have hx1 := HT.out.2.2 x hxm
        have hcell : wr.cell? ⟨b, k, none⟩ = some (.string x) := (HT.out.2.1.below HX.out.2.2 HT.out.2.1.1).2 k x hxk
        obtain ⟨E, hE⟩ : ∃ E, wr.heap.size = E := ⟨_, rfl⟩
        obtain ⟨w1, hw1⟩ : ∃ w1, wr.alloc (.cells #[.bool false] 4) = w1 := ⟨_, rfl⟩
        have bE : Boxed w1 E 4 (.bool false) := by rw [← hw1, ← hE]; exact Boxed.new wr _ _
        have hb1 : Below E wr w1 := by rw [← hw1, ← hE]; exact (Below.refl _ wr).alloc (Nat.le_refl _) _
        have hNE : w.heap.size ≤ E := hE ▸ HX.out.2.2.size
        have hE1 : E ≤ w1.heap.size := by have := hb1.size; omega
        have hF := fits_any x hx1 w1 ((HT.out.1.below HX.out.2.2 h2).below hb1 (by omega))
        have HE := Lib.hid hE
        have HW1 := Lib.hid hw1
        clear hw1 hx hxm hE
        cases hft : fitL x.data.toList with
        | false =>
          rw [hft] at hF
          have HF := Lib.hid hF
          clear hF
          gi_wp2
          rw [HE.out, HW1.out]
          refine ⟨trivial, (callsIn_wide.2 HF.out).mono ?_⟩
          rintro en w4 ⟨rfl, hb4⟩
          have HB4 := Lib.hid hb4
          clear hb4
          gi_wp2
          refine wpIn_goto ?_
          have hb5 : Below E wr w4 := hb1.trans (HB4.out.mono hE1)
          refine ⟨rfl, ?_, rfl, Ds, rfl, HX.out.2.1.below hb5 (Nat.le_of_eq HE.out), HX.out.2.2.trans (hb5.mono hNE)⟩
          unfold allF
          rw [List.all_eq_false]
          refine ⟨x, List.mem_of_getElem? hxk, ?_⟩
          simp [filtL, hft]
        | true =>
          rw [hft] at hF
          have HF := Lib.hid hF
          clear hF
          gi_wp2
          rw [HE.out, HW1.out]
          refine ⟨trivial, (callsIn_wide.2 HF.out).mono ?_⟩
          rintro en w4 ⟨rfl, hb4⟩
          have bE4 := bE.kept (below_grown hb4) (by nofun)
          have hb5 : Below E wr w4 := hb1.trans (hb4.mono hE1)
          obtain ⟨S, hS⟩ : ∃ S, w4.heap.size = S := ⟨_, rfl⟩
          obtain ⟨w5, hw5⟩ : ∃ w5, w4.alloc (.cells #[.string x] 9) = w5 := ⟨_, rfl⟩
          have bS5 : Boxed w5 S 9 (.string x) := by rw [← hw5, ← hS]; exact Boxed.new w4 _ _
          have bE5 : Boxed w5 E 4 (.bool false) := by rw [← hw5]; exact bE4.alloc _
          have hs5 : w5.heap.size = S + 1 := by rw [← hw5, ← hS]; simp
          have hES : E < S := by rw [← hS]; exact (Array.getElem?_eq_some_iff.1 (show w4.heap[E]? = _ from bE4)).1
          have hb6 : Below E wr w5 := by rw [← hw5]; exact hb5.alloc (by omega) _
          have HS := Lib.hid (And.intro hS hw5)
          clear hS hw5 hb4
          gi_wp2
          refine ⟨trivial, (levels_in Fence.wide _ trivial rfl x _).mono ?_⟩
          rintro en w' ⟨rfl, rfl⟩
          gi_wp2
          rw [HS.out.1, HS.out.2]
          refine wpIn_rangeFunc_ownF rfl h1 (gf := 89) (lb := #[.pointer (some ⟨S, 0, none⟩)]) rfl trivial (enters_of Tryz.func89 (by kernel_rfl) rfl)
            (levels_stops (n - 1) (by omega) S x hx1 w5 (by omega) bS5.cell) (fun _ _ => trivial) (fun _ _ _ _ _ _ _ _ => trivial) (Below.refl _ _) (fun _ => rfl)
            (fun pre W => (∃ e, goes false (byts pre) = some e ∧ Boxed W E 4 (.bool e)) ∧ Below E wr W)
            (fun c pre W => (c = .goto 0 ∧ goes false (byts pre) = none) ∧ Below E wr W)
            (OwnFrom.and (fun pre X Y row hs hg hr => by
              obtain ⟨e, h3, h4⟩ := hs
              exact ⟨e, h3, boxed_own E 4 (fun (_ : Unit) => Value.bool e) () X Y row h4 hg (fun r e => (hr r e).2)⟩) (ownFrom_below (by rw [HE.out]; exact Nat.le_refl _) (by omega)))
            (fun c => OwnFrom.and (ownFrom_pure _ _) (ownFrom_below (by rw [HE.out]; exact Nat.le_refl _) (by omega)))
            ⟨⟨false, rfl, bE5⟩, hb6⟩
            (fun y => { tmps := #[.slice (some ⟨b, 0, none⟩) l.length c, undef, .bool false, u3, .string x, .pointer (some ⟨E, 0, none⟩), u6, .string y.2.1, .slice (some ⟨b, 0, none⟩) l.length c, .int .i64 l.length, .int .i64 k, .bool true, .pointer (some ⟨b, k, none⟩), .string x, .string x, .bool true, .bool false, .string x, .func (.func 89) #[] #[.pointer (some ⟨S, 0, none⟩)], .int .i64 y.1, .string y.2.1, u21, u22, u23, u24, u25, u26, u27, u28, u29, u30, u31, u32, u33], defers := [] }) ?assign ?body ?done ?stop
          case assign =>
            intro l x W K hK
            simp only [encL]
            gi_wp2
            exact hK
          case body =>
            rintro lp pre ⟨y1, y2⟩ W ⟨⟨e, hg, hv⟩, hB⟩ hlp
            have hcv := hv.cell
            have hfv := hv.frozen
            have hgs := goes_snoc false (byts pre) (byt y2)
            rw [← byts_snoc pre (y1, y2), hg] at hgs
            simp only [Option.bind_some] at hgs
            have HY := Lib.hid (And.intro hv (And.intro hB hgs))
            clear hv hB hgs hg
            cases e with
            | true =>
              gi_wp2
              · rename_i h1 h2
                simp [undef] at h1
              · rename_i h1 h2
                simp [undef] at h1
              refine ⟨trivial, ?_⟩
              go_at_K
              gi_wp2
              refine wpIn_goto ?_
              exact ⟨KeepsOthers.refl _, ⟨rfl, by rw [HY.out.2.2]; rfl⟩, HY.out.2.1⟩
            | false =>
              by_cases hl1 : 1 < y2.1.size
              · have d1 : decide ((1 : Int) < (y2.1.size : Int)) = true := by simp; omega
                have HC := Lib.hid (contains_any y2.1 (by have := y2.2; omega) W)
                cases hh : hasS y2.1.data.toList with
                | true =>
                  rw [hh] at HC
                  gi_wp2
                  refine ⟨trivial, hdp, ?_⟩
                  refine (CallsIn.inRound lp (callsIn_wide.2 HC.out)).mono ?_
                  rintro e w7 ⟨rfl, hb7⟩
                  have HB7 := Lib.hid hb7
                  clear hb7
                  gi_wp2
                  refine wpIn_goto ?_
                  have h5 := HY.out.2.2
                  rw [show hasS (byt y2) = true from hh, show decide (1 < (byt y2).length) = true by unfold byt; rw [← Lib.size_eq]; simpa using hl1] at h5
                  exact ⟨KeepsOthers.of_grownBy (below_grown HB7.out) (by nofun), ⟨rfl, by rw [h5]; rfl⟩, HY.out.2.1.trans (HB7.out.mono (by have := HY.out.2.1.size; have := HE.out; omega))⟩
                | false =>
                  rw [hh] at HC
                  gi_wp2
                  refine ⟨trivial, hdp, ?_⟩
                  refine (CallsIn.inRound lp (callsIn_wide.2 HC.out)).mono ?_
                  rintro e w7 ⟨rfl, hb7⟩
                  have hv7 := HY.out.1.kept (below_grown hb7) (by nofun)
                  have hc7 := hv7.cell
                  have hf7 := hv7.frozen
                  have HB7 := Lib.hid (And.intro hb7 hv7)
                  clear hb7 hv7
                  gi_wp2
                  have h5 := HY.out.2.2
                  rw [show hasS (byt y2) = false from hh, Bool.and_false] at h5
                  have hbE : Below E wr w7 := HY.out.2.1.trans (HB7.out.1.mono (by have := HY.out.2.1.size; have := HE.out; omega))
                  exact ⟨(KeepsOthers.of_grownBy (below_grown HB7.out.1) (by nofun)).trans (KeepsOthers.setCell _ _ _), trivial, ⟨_, h5, by rw [ByteArray.toList_eq]; exact HB7.out.2.set _⟩, hbE.setCell (p := ⟨E, 0, none⟩) (Nat.le_refl _) _⟩
              · have d1 : decide ((1 : Int) < (y2.1.size : Int)) = false := by simp; omega
                gi_wp2
                refine ⟨trivial, ?_⟩
                go_at_K
                gi_wp2
                have h5 := HY.out.2.2
                rw [show decide (1 < (byt y2).length) = false by unfold byt; rw [← Lib.size_eq]; simpa using hl1, Bool.false_and] at h5
                exact ⟨KeepsOthers.setCell _ _ _, trivial, ⟨_, h5, by rw [ByteArray.toList_eq]; exact HY.out.1.set _⟩, HY.out.2.1.setCell (p := ⟨E, 0, none⟩) (Nat.le_refl _) _⟩
          case done =>
            rintro D ys W hD rfl ⟨⟨e, hg, hv⟩, hB⟩ hK
            rw [byts_all hx1] at hg
            have hfx : filtL x.data.toList = true := by unfold filtL; rw [hft, okF_of_goes hg]; rfl
            have HZ := Lib.hid (And.intro hfx (And.intro hB hK))
            clear hfx hB hK hg hv
            gi_wp2
            obtain ⟨hfx, hB, hK⟩ := HZ.out
            refine ⟨⟨k + 1, D :: Ds, _, _, _, _, _, _, _, _, _, _, _, _, _, _, _, _, _, _, _, _, _, _, _, _, _, _, _, _, rfl, by omega, fun z hz => ?_, (HX.out.2.1.below hB (Nat.le_of_eq HE.out)).cons (by omega) (fun F hF => ?_) hK, HX.out.2.2.trans (hB.mono hNE)⟩, ?_⟩
            · rw [List.take_succ_eq_append_getElem hlt] at hz
              rcases List.mem_append.1 hz with hz | hz
              · exact HX.out.1 z hz
              · simp at hz
                rw [List.getElem?_eq_getElem hlt] at hxk
                rw [hz, Option.some.inj hxk]; exact hfx
            · have := (HX.out.2.1.2 F hF).2.1
              have := HE.out
              omega
            · simp [intOf]; omega
          case stop =>
            rintro D c pre W hD hpr ⟨⟨rfl, hg⟩, hB⟩ hK
            refine wpIn_goto ?_
            have hno : okF (lv x.data.toList) = false := okF_of_not hg (by rw [← byts_all hx1]; exact hpr.map _)
            refine ⟨rfl, ?_, rfl, D :: Ds, rfl, (HX.out.2.1.below hB (Nat.le_of_eq HE.out)).cons (by omega) (fun F hF => ?_) hK, HX.out.2.2.trans (hB.mono hNE)⟩
            · unfold allF
              rw [List.all_eq_false]
              refine ⟨x, List.mem_of_getElem? hxk, ?_⟩
              simp [filtL, hno]
            · have := (HX.out.2.1.2 F hF).2.1
              have := HE.out
              omega
      · obtain rfl : k = l.length := by omega
        gi_wp2
        simp only [Exit.jump]
        obtain ⟨hok, hm, hb⟩ := HX.out
        rw [List.take_length] at hok
        refine marks_leave (Nat.le_refl _) (fun w2 hb2 => ?_) Ds _ hm hb
        refine ⟨_, results_tmp rfl _ _ _, ?_, hb2⟩
        have hall : allF l = true := by unfold allF; rw [List.all_eq_true]; exact hok
        rw [hall]; rfl
  case pass =>
    rintro ⟨T, D⟩ w' ⟨hno, hT, Ds, hd, hm, hb⟩
    simp only at hT hd
    subst hd
    have HX := Lib.hid (And.intro hno (And.intro hT (And.intro hm hb)))
    clear hno hT hm hb
    gi_wp2
    simp only [Exit.jump]
    obtain ⟨hno, hT, hm, hb⟩ := HX.out
    refine marks_leave (Nat.le_refl _) (fun w2 hb2 => ?_) Ds _ hm hb
    refine ⟨_, results_tmp rfl _ _ _, ?_⟩
    refine ⟨?_, hb2⟩
    simp [Array.getD_eq_getD_getElem?, hT, hno]
theorem filters_any (b c : Nat) (l : List ByteArray) (hl : ∀ x ∈ l, x.size ≤ 1000) (hlen : l.length ≤ 1000) (w : World) (ht : Tabs w) (hS : StrsAt w b l) :
    Calls Tryz.prog 69 #[.slice (some ⟨b, 0, none⟩) l.length c] w fun e w' => BPost w (allF l) e w' := callsIn_wide.1 (filters_wide 4 (by decide) b c l hl hlen w ht hS)
end Go.Proofs.YtgcfgheamaoceaaGreatDoor
