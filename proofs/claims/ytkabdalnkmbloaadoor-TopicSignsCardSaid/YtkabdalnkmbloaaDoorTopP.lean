/- Layer 13: every exported call of the program. -/
import Derived.Test.YtkabdalnkmbloaaDoorTopO
namespace Go.Proofs.YtkabdalnkmbloaaDoor
open Go.RowKit Go.Shelf

theorem covers_any (f t : ByteArray) (hf : f.size ≤ 1000) (ht : t.size ≤ 1000) (w : World) : Calls Tryd.prog 23 #[.string f, .string t] w fun e w' => BPost w (covL f.data.toList t.data.toList) e w' := callsIn_wide.1 (covers_wide 4 (by decide) f t hf ht w)
def SpPost (w : World) (l : List UInt8) (e : Ending) (w' : World) : Prop := e = .returned (.string ⟨(spL l).toArray⟩) ∧ Below w.heap.size w w'
set_option maxRecDepth 100000 in
theorem spelt_any (s : ByteArray) (hs : s.size ≤ 1000) (w : World) : Calls Tryd.prog 31 #[.string s] w fun e w' => SpPost w s.data.toList e w' := by
  have hbs : ∀ l : List UInt8, s.data.toList = l → s = ⟨l.toArray⟩ := fun l h => ByteArray.ext (Array.toList_inj.1 (by rw [h]))
  by_cases h1 : s.data.toList = [35]
  · obtain rfl := hbs _ h1
    have HT := Lib.hid (trim_any ⟨#[35]⟩ (by decide) w)
    clear h1 hbs
    go_enter Tryd.func31, Tryd.ntmps31
    go_wp2_with (go_at_call 42; refine HT.out.mono ?_; rintro e w' ⟨rfl, rfl⟩; rw [show (Lib.trimSuffix (⟨#[35]⟩ : ByteArray).data.toList [35]).toArray = #[] by decide])
    go_ret
    refine ⟨?_, Below.refl _ _⟩
    show Ending.returned (Value.string ((⟨#[]⟩ : ByteArray) ++ ⟨#[43]⟩ ++ ⟨#[47]⟩ ++ ⟨#[35]⟩)) = _
    rw [show ((⟨#[]⟩ : ByteArray) ++ ⟨#[43]⟩ ++ ⟨#[47]⟩ ++ ⟨#[35]⟩) = ⟨(spL [35]).toArray⟩ by decide]
  · by_cases h2 : s.data.toList = [47, 35]
    · obtain rfl := hbs _ h2
      have HT := Lib.hid (trim_any ⟨#[47, 35]⟩ (by decide) w)
      clear h1 h2 hbs
      go_enter Tryd.func31, Tryd.ntmps31
      go_wp2_with (go_at_call 42; refine HT.out.mono ?_; rintro e w' ⟨rfl, rfl⟩; rw [show (Lib.trimSuffix (⟨#[47, 35]⟩ : ByteArray).data.toList [35]).toArray = #[47] by decide])
      go_ret
      refine ⟨?_, Below.refl _ _⟩
      show Ending.returned (Value.string ((⟨#[47]⟩ : ByteArray) ++ ⟨#[43]⟩ ++ ⟨#[47]⟩ ++ ⟨#[35]⟩)) = _
      rw [show ((⟨#[47]⟩ : ByteArray) ++ ⟨#[43]⟩ ++ ⟨#[47]⟩ ++ ⟨#[35]⟩) = ⟨(spL [47, 35]).toArray⟩ by decide]
    · have e1 : (s.toList == [35]) = false := by rw [ByteArray.toList_eq]; simpa using h1
      have e2 : (s.toList == [47, 35]) = false := by rw [ByteArray.toList_eq]; simpa using h2
      have hsp : (⟨(spL s.data.toList).toArray⟩ : ByteArray) = s := by
        rw [show spL s.data.toList = s.data.toList by unfold spL; rw [if_neg (by simp [h1, h2])]]
      have HS := Lib.hid hsp
      clear h1 h2 hbs hsp
      go_enter Tryd.func31, Tryd.ntmps31
      go_wp2
      go_ret
      exact ⟨by rw [HS.out]; rfl, Below.refl _ _⟩
theorem strs_one (w : World) (s : ByteArray) : StrsAt (w.alloc (.cells #[.string s] 9)) w.heap.size [s] := ⟨by simp, fun j x hj => by
  cases j with
  | zero =>
    simp at hj; subst hj
    have := cell_one_new w (.string s) 9 0 _ rfl
    rwa [addr_add] at this
  | succ j => simp at hj⟩
theorem strs_two (w : World) (s t : ByteArray) : StrsAt (w.alloc (.cells #[.string s, .string t] 9)) w.heap.size [s, t] := by
  have hr : (w.alloc (.cells #[.string s, .string t] 9)).heap[w.heap.size]? = some (.cells #[.string s, .string t] 9 (0, 0)) := World.alloc_heap_new w _
  refine ⟨by simp, fun j x hj => ?_⟩
  have c := cell_of_row _ w.heap.size j _ _ _ hr
  rw [c]
  rcases j with _ | _ | j
  · simp at hj; subst hj; rfl
  · simp at hj; subst hj; rfl
  · simp at hj
set_option maxRecDepth 100000 in
theorem filter_any (s : ByteArray) (hs : s.size ≤ 1000) (w : World) (ht : Tabs w) : Calls Tryd.prog 14 #[.string s] w fun e w' => BPost w (filtL s.data.toList) e w' := by
  have h2 := ht.two
  have hb : Below w.heap.size w (w.alloc (.cells #[.string s] 9)) := (Below.refl _ w).alloc (Nat.le_refl _) _
  have hF := filters_any w.heap.size 1 [s] (by simpa using hs) (by simp) _ (ht.below hb h2) (strs_one w s)
  have ha : allF [s] = filtL s.data.toList := by simp [allF]
  rw [ha] at hF
  have HF := Lib.hid hF
  have HB := Lib.hid hb
  clear hF hb ht ha
  go_enter Tryd.func14, Tryd.ntmps14
  go_wp2_with (go_at_call 22; refine HF.out.mono ?_; rintro e w' ⟨rfl, hb⟩; have HB2 := Lib.hid hb; clear hb)
  go_ret
  exact ⟨rfl, HB.out.trans (HB2.out.mono HB.out.size)⟩
set_option maxRecDepth 100000 in
theorem plain_top (s : ByteArray) (hs : s.size ≤ 1000) (w : World) (ht : Tabs w) : Calls Tryd.prog 15 #[.string s] w fun e w' => BPost w (filtL s.data.toList && nameL s.data.toList) e w' := by
  have h2 := ht.two
  have hb : Below w.heap.size w (w.alloc (.cells #[.string s] 9)) := (Below.refl _ w).alloc (Nat.le_refl _) _
  have hF := filters_any w.heap.size 1 [s] (by simpa using hs) (by simp) _ (ht.below hb h2) (strs_one w s)
  have ha : allF [s] = filtL s.data.toList := by simp [allF]
  rw [ha] at hF
  have HB := Lib.hid (And.intro hb ht)
  have HN := Lib.hid (fun W hT => name_any s hs W hT)
  clear hb ht ha
  rcases Bool.eq_false_or_eq_true (filtL s.data.toList) with hf | hf
  · rw [hf, Bool.true_and]
    rw [hf] at hF
    have HF := Lib.hid hF
    clear hF hf
    go_enter Tryd.func15, Tryd.ntmps15
    go_wp2_with fail
    refine HF.out.mono ?_
    rintro e w4 ⟨rfl, hb4⟩
    have hb5 : Below w.heap.size w w4 := HB.out.1.trans (hb4.mono HB.out.1.size)
    have HB5 := Lib.hid hb5
    clear hb4 hb5
    go_wp2_with fail
    refine (HN.out w4 (HB.out.2.below HB5.out h2)).mono ?_
    rintro e w6 ⟨rfl, hb6⟩
    have HB6 := Lib.hid hb6
    clear hb6
    go_wp2
    go_ret
    exact ⟨rfl, HB5.out.trans (HB6.out.mono HB5.out.size)⟩
  · rw [hf, Bool.false_and]
    rw [hf] at hF
    have HF := Lib.hid hF
    clear hF hf
    go_enter Tryd.func15, Tryd.ntmps15
    go_wp2_with fail
    refine HF.out.mono ?_
    rintro e w4 ⟨rfl, hb4⟩
    have hb5 : Below w.heap.size w w4 := HB.out.1.trans (hb4.mono HB.out.1.size)
    have HB5 := Lib.hid hb5
    clear hb4 hb5
    go_wp2
    go_ret
    exact ⟨rfl, HB5.out⟩
/-- What Meets and Within leave: whether both texts may be, and the answer. -/
def MePost (w : World) (ok b : Bool) (e : Ending) (w' : World) : Prop := e = .returned (.tuple #[.bool (ok && b), .int .i64 (if ok then 0 else 230)]) ∧ Below w.heap.size w w'
set_option maxRecDepth 100000 in
theorem meets_any (f n : ByteArray) (hf : f.size ≤ 1000) (hn : n.size ≤ 1000) (w : World) (ht : Tabs w) : Calls Tryd.prog 9 #[.string f, .string n] w fun e w' => MePost w (filtL f.data.toList && nameL n.data.toList) (covL f.data.toList n.data.toList) e w' := by
  have h2 := ht.two
  have hb : Below w.heap.size w (w.alloc (.cells #[.string f] 9)) := (Below.refl _ w).alloc (Nat.le_refl _) _
  have hF := filters_any w.heap.size 1 [f] (by simpa using hf) (by simp) _ (ht.below hb h2) (strs_one w f)
  have ha : allF [f] = filtL f.data.toList := by simp [allF]
  rw [ha] at hF
  have HB := Lib.hid (And.intro hb ht)
  have HN := Lib.hid (fun W hT => name_any n hn W hT)
  have HC := Lib.hid (fun W => covers_any f n hf hn W)
  clear hb ht ha
  rcases Bool.eq_false_or_eq_true (filtL f.data.toList) with hq | hq
  · rcases Bool.eq_false_or_eq_true (nameL n.data.toList) with hm | hm
    · have HP := Lib.hid (And.intro hq hm)
      rw [hq] at hF
      rw [hm] at HN
      have HF := Lib.hid hF
      clear hF hq hm
      go_enter Tryd.func9, Tryd.ntmps9
      go_wp2_with fail
      refine HF.out.mono ?_
      rintro e w4 ⟨rfl, hb4⟩
      have HB5 := Lib.hid (show Below w.heap.size w w4 from HB.out.1.trans (hb4.mono HB.out.1.size))
      clear hb4
      go_wp2_with fail
      refine (HN.out w4 (HB.out.2.below HB5.out h2)).mono ?_
      rintro e w6 ⟨rfl, hb6⟩
      have HB6 := Lib.hid (show Below w.heap.size w w6 from HB5.out.trans (hb6.mono HB5.out.size))
      clear hb6
      go_wp2_with fail
      refine (HC.out w6).mono ?_
      rintro e w8 ⟨rfl, hb8⟩
      have HB8 := Lib.hid (show Below w.heap.size w w8 from HB6.out.trans (hb8.mono HB6.out.size))
      clear hb8
      go_wp2
      go_ret2
      exact ⟨by rw [HP.out.1, HP.out.2]; rfl, HB8.out⟩
    · have HP := Lib.hid (And.intro hq hm)
      rw [hq] at hF
      rw [hm] at HN
      have HF := Lib.hid hF
      clear hF hq hm
      go_enter Tryd.func9, Tryd.ntmps9
      go_wp2_with fail
      refine HF.out.mono ?_
      rintro e w4 ⟨rfl, hb4⟩
      have HB5 := Lib.hid (show Below w.heap.size w w4 from HB.out.1.trans (hb4.mono HB.out.1.size))
      clear hb4
      go_wp2_with fail
      refine (HN.out w4 (HB.out.2.below HB5.out h2)).mono ?_
      rintro e w6 ⟨rfl, hb6⟩
      have HB6 := Lib.hid (show Below w.heap.size w w6 from HB5.out.trans (hb6.mono HB5.out.size))
      clear hb6
      go_wp2
      go_ret2
      exact ⟨by rw [HP.out.1, HP.out.2]; rfl, HB6.out⟩
  · have HP := Lib.hid hq
    rw [hq] at hF
    have HF := Lib.hid hF
    clear hF hq
    go_enter Tryd.func9, Tryd.ntmps9
    go_wp2_with fail
    refine HF.out.mono ?_
    rintro e w4 ⟨rfl, hb4⟩
    have HB5 := Lib.hid (show Below w.heap.size w w4 from HB.out.1.trans (hb4.mono HB.out.1.size))
    clear hb4
    go_wp2
    go_ret2
    exact ⟨by rw [HP.out]; rfl, HB5.out⟩
theorem spL_len (l : List UInt8) : (spL l).length ≤ l.length + 2 := by
  unfold spL
  split
  · rename_i h
    rcases h with rfl | rfl <;> decide
  · omega
set_option maxRecDepth 100000 in
theorem within_any (a b : ByteArray) (ha : a.size ≤ 900) (hb : b.size ≤ 900) (w : World) (ht : Tabs w) : Calls Tryd.prog 19 #[.string a, .string b] w fun e w' => MePost w (filtL a.data.toList && filtL b.data.toList) (covL b.data.toList (spL a.data.toList)) e w' := by
  have h2 := ht.two
  have hal : Below w.heap.size w (w.alloc (.cells #[.string a, .string b] 9)) := (Below.refl _ w).alloc (Nat.le_refl _) _
  have hF := filters_any w.heap.size 2 [a, b] (fun x hx => by simp at hx; rcases hx with rfl | rfl <;> omega) (by simp) _ (ht.below hal h2) (strs_two w a b)
  have he : allF [a, b] = (filtL a.data.toList && filtL b.data.toList) := by simp [allF]
  rw [he] at hF
  have HB := Lib.hid (And.intro hal ht)
  have HS := Lib.hid (fun W => spelt_any a (by omega) W)
  have HC := Lib.hid (fun W => covers_any b ⟨(spL a.data.toList).toArray⟩ (by omega) (by have := spL_len a.data.toList; rw [← Lib.size_eq] at this; show (spL a.data.toList).toArray.size ≤ 1000; simp; omega) W)
  clear hal ht he
  rcases Bool.eq_false_or_eq_true (filtL a.data.toList && filtL b.data.toList) with hq | hq
  · have HP := Lib.hid hq
    rw [hq] at hF
    have HF := Lib.hid hF
    clear hF hq
    go_enter Tryd.func19, Tryd.ntmps19
    go_wp2_with fail
    refine HF.out.mono ?_
    rintro e w4 ⟨rfl, hb4⟩
    have HB5 := Lib.hid (show Below w.heap.size w w4 from HB.out.1.trans (hb4.mono HB.out.1.size))
    clear hb4
    go_wp2_with fail
    refine (HS.out w4).mono ?_
    rintro e w6 ⟨rfl, hb6⟩
    have HB6 := Lib.hid (show Below w.heap.size w w6 from HB5.out.trans (hb6.mono HB5.out.size))
    clear hb6
    go_wp2_with fail
    refine (HC.out w6).mono ?_
    rintro e w8 ⟨rfl, hb8⟩
    have HB8 := Lib.hid (show Below w.heap.size w w8 from HB6.out.trans (hb8.mono HB6.out.size))
    clear hb8
    go_wp2
    go_ret2
    exact ⟨by rw [HP.out]; rfl, HB8.out⟩
  · have HP := Lib.hid hq
    rw [hq] at hF
    have HF := Lib.hid hF
    clear hF hq
    go_enter Tryd.func19, Tryd.ntmps19
    go_wp2_with fail
    refine HF.out.mono ?_
    rintro e w4 ⟨rfl, hb4⟩
    have HB5 := Lib.hid (show Below w.heap.size w w4 from HB.out.1.trans (hb4.mono HB.out.1.size))
    clear hb4
    go_wp2
    go_ret2
    exact ⟨by rw [HP.out]; rfl, HB5.out⟩
end Go.Proofs.YtkabdalnkmbloaaDoor
