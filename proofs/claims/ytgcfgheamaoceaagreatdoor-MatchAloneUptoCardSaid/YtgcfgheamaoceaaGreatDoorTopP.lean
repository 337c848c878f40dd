/- Layer 13: every exported call of the program. -/
import Derived.Test.YtgcfgheamaoceaaGreatDoorTopO
namespace Go.Proofs.YtgcfgheamaoceaaGreatDoor
open Go.RowKit Go.Shelf

theorem covers_any (f t : ByteArray) (hf : f.size ≤ 1000) (ht : t.size ≤ 1000) (w : World) : Calls Tryz.prog 71 #[.string f, .string t] w fun e w' => BPost w (covL f.data.toList t.data.toList) e w' := callsIn_wide.1 (covers_wide 4 (by decide) f t hf ht w)
def SpPost (w : World) (l : List UInt8) (e : Ending) (w' : World) : Prop := e = .returned (.string ⟨(spL l).toArray⟩) ∧ Below w.heap.size w w'
theorem strs_one (w : World) (s : ByteArray) : StrsAt (w.alloc (.cells #[.string s] 9)) w.heap.size [s] := ⟨by simp, fun j x hj => by
  cases j with
  | zero =>
    simp at hj; subst hj
    have := cell_one_new w (.string s) 9 0 _ rfl
    rwa [addr_add] at this
  | succ j => simp at hj⟩
theorem strs_two (w : World) (s t : ByteArray) : StrsAt (w.alloc (.cells #[.string s, .string t] 9)) w.heap.size [s, t] := by
  have hr : (w.alloc (.cells #[.string s, .string t] 9)).heap[w.heap.size]? = some (.cells #[.string s, .string t] 9 (0, 0)) := World.alloc_heap_new w _
  refine ⟨by simp, fun j x hj => ?_⟩
  have c := cell_of_row _ w.heap.size j _ _ _ hr
  rw [c]
  rcases j with _ | _ | j
  · simp at hj; subst hj; rfl
  · simp at hj; subst hj; rfl
  · simp at hj
set_option maxRecDepth 100000 in
theorem filter_any (s : ByteArray) (hs : s.size ≤ 1000) (w : World) (ht : Tabs w) : Calls Tryz.prog 66 #[.string s] w fun e w' => BPost w (filtL s.data.toList) e w' := by
  have h2 := ht.two
  have hb : Below w.heap.size w (w.alloc (.cells #[.string s] 9)) := (Below.refl _ w).alloc (Nat.le_refl _) _
  have hF := filters_any w.heap.size 1 [s] (by simpa using hs) (by simp) _ (ht.below hb h2) (strs_one w s)
  have ha : allF [s] = filtL s.data.toList := by simp [allF]
  rw [ha] at hF
  have HF := Lib.hid hF
  have HB := Lib.hid hb
  clear hF hb ht ha
  go_enter Tryz.func66, Tryz.ntmps66
  go_wp2_with (go_at_call 69; refine HF.out.mono ?_; rintro e w' ⟨rfl, hb⟩; have HB2 := Lib.hid hb; clear hb)
  go_ret
  exact ⟨rfl, HB.out.trans (HB2.out.mono HB.out.size)⟩
/-- What Meets and Within leave: whether both texts may be, and the answer. -/
def MePost (w : World) (ok b : Bool) (e : Ending) (w' : World) : Prop := e = .returned (.tuple #[.bool (ok && b), .int .i64 (if ok then 0 else 230)]) ∧ Below w.heap.size w w'
set_option maxRecDepth 100000 in
theorem meets_any (f n : ByteArray) (hf : f.size ≤ 1000) (hn : n.size ≤ 1000) (w : World) (ht : Tabs w) : Calls Tryz.prog 42 #[.string f, .string n] w fun e w' => MePost w (filtL f.data.toList && nameL n.data.toList) (covL f.data.toList n.data.toList) e w' := by
  have h2 := ht.two
  have hb : Below w.heap.size w (w.alloc (.cells #[.string f] 9)) := (Below.refl _ w).alloc (Nat.le_refl _) _
  have hF := filters_any w.heap.size 1 [f] (by simpa using hf) (by simp) _ (ht.below hb h2) (strs_one w f)
  have ha : allF [f] = filtL f.data.toList := by simp [allF]
  rw [ha] at hF
  have HB := Lib.hid (And.intro hb ht)
  have HN := Lib.hid (fun W hT => name_any n hn W hT)
  have HC := Lib.hid (fun W => covers_any f n hf hn W)
  clear hb ht ha
  rcases Bool.eq_false_or_eq_true (filtL f.data.toList) with hq | hq
  · rcases Bool.eq_false_or_eq_true (nameL n.data.toList) with hm | hm
    · have HP := Lib.hid (And.intro hq hm)
      rw [hq] at hF
      rw [hm] at HN
      have HF := Lib.hid hF
      clear hF hq hm
      go_enter Tryz.func42, Tryz.ntmps42
      go_wp2_with fail
      refine HF.out.mono ?_
      rintro e w4 ⟨rfl, hb4⟩
      have HB5 := Lib.hid (show Below w.heap.size w w4 from HB.out.1.trans (hb4.mono HB.out.1.size))
      clear hb4
      go_wp2_with fail
      refine (HN.out w4 (HB.out.2.below HB5.out h2)).mono ?_
      rintro e w6 ⟨rfl, hb6⟩
      have HB6 := Lib.hid (show Below w.heap.size w w6 from HB5.out.trans (hb6.mono HB5.out.size))
      clear hb6
      go_wp2_with fail
      refine (HC.out w6).mono ?_
      rintro e w8 ⟨rfl, hb8⟩
      have HB8 := Lib.hid (show Below w.heap.size w w8 from HB6.out.trans (hb8.mono HB6.out.size))
      clear hb8
      go_wp2
      go_ret2
      exact ⟨by rw [HP.out.1, HP.out.2]; rfl, HB8.out⟩
    · have HP := Lib.hid (And.intro hq hm)
      rw [hq] at hF
      rw [hm] at HN
      have HF := Lib.hid hF
      clear hF hq hm
      go_enter Tryz.func42, Tryz.ntmps42
      go_wp2_with fail
      refine HF.out.mono ?_
      rintro e w4 ⟨rfl, hb4⟩
      have HB5 := Lib.hid (show Below w.heap.size w w4 from HB.out.1.trans (hb4.mono HB.out.1.size))
      clear hb4
      go_wp2_with fail
      refine (HN.out w4 (HB.out.2.below HB5.out h2)).mono ?_
      rintro e w6 ⟨rfl, hb6⟩
      have HB6 := Lib.hid (show Below w.heap.size w w6 from HB5.out.trans (hb6.mono HB5.out.size))
      clear hb6
      go_wp2
      go_ret2
      exact ⟨by rw [HP.out.1, HP.out.2]; rfl, HB6.out⟩
  · have HP := Lib.hid hq
    rw [hq] at hF
    have HF := Lib.hid hF
    clear hF hq
    go_enter Tryz.func42, Tryz.ntmps42
    go_wp2_with fail
    refine HF.out.mono ?_
    rintro e w4 ⟨rfl, hb4⟩
    have HB5 := Lib.hid (show Below w.heap.size w w4 from HB.out.1.trans (hb4.mono HB.out.1.size))
    clear hb4
    go_wp2
    go_ret2
    exact ⟨by rw [HP.out]; rfl, HB5.out⟩
theorem spL_len (l : List UInt8) : (spL l).length ≤ l.length + 2 := by
  unfold spL
  split
  · rename_i h
    rcases h with rfl | rfl <;> decide
  · omega
end Go.Proofs.YtgcfgheamaoceaaGreatDoor
