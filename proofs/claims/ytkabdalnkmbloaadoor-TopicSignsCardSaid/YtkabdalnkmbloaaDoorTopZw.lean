/- Layer 13: one filter within another. -/
import Derived.Test.YtkabdalnkmbloaaDoorTopZb
import Derived.Test.YtkabdalnkmbloaaDoorTopW
import Derived.Test.YtkabdalnkmbloaaDoorTopT
namespace Go.Proofs.YtkabdalnkmbloaaDoor
open Go.RowKit Go.Shelf

def tot (L : List (List UInt8)) : Nat := (L.map fun x => x.length + 1).sum
theorem tot_app (A C : List (List UInt8)) : tot (A ++ C) = tot A + tot C := by unfold tot; rw [List.map_append, List.sum_append]
theorem tot_join {L : List (List UInt8)} (h : L ≠ []) : (joinL L).length + 1 = tot L := by
  induction L with
  | nil => exact absurd rfl h
  | cons x r ih =>
    by_cases hr : r = []
    · subst hr; simp [joinL, tot]
    · rw [joinL_cons _ hr]
      have := ih hr
      simp only [List.length_append, List.length_cons]
      simp only [tot, List.map_cons, List.sum_cons] at this ⊢
      omega
theorem tot_le (L : List (List UInt8)) : (joinL L).length ≤ tot L := by
  by_cases h : L = []
  · subst h; simp [joinL]
  · have := tot_join h; omega
theorem tot_bsF (Y : List (List UInt8)) (i : Nat) (P : List (List UInt8)) : tot (bsF Y i P) ≤ tot P := by
  induction P generalizing i with
  | nil => simp [bsF]
  | cons y P ih =>
    have h1 := ih (i + 1)
    have h2 : tot (bsT Y i y) ≤ y.length + 1 := by
      unfold bsT
      split
      · simp [tot]
      · split
        · rename_i h; subst h; simp [tot, unlL_len]
        · simp [tot]
    rw [bsF]
    change tot (bsT Y i y ++ bsF Y (i + 1) P) ≤ _
    rw [tot_app]
    have h3 : tot (y :: P) = y.length + 1 + tot P := by simp [tot]
    omega
theorem names_short {a b : List UInt8} (ha : a.length ≤ 300) : (namesL a b).length ≤ 3 ∧ ∀ x ∈ namesL a b, x.length ≤ 400 := by
  rw [names_eq]
  have h1 := tot_bsF (lv b) 0 (lv a)
  have h2 := tot_join (lv_ne a)
  rw [joinL_lv] at h2
  generalize bsF (lv b) 0 (lv a) = F at *
  have hg : ∀ j, tot (gN (lv b) F j) ≤ 301 + 2 * j := by
    intro j
    induction j with
    | zero => show tot F ≤ _; omega
    | succ j ih =>
      rw [gN, tot_app]
      have : tot [unlL (lv b) (gN (lv b) F j).length] = 2 := by simp [tot, unlL_len]
      omega
  have ho : ∀ j, j ≤ 2 → ∀ x ∈ oN (lv b) F j, x.length ≤ 400 := by
    intro j
    induction j with
    | zero =>
      intro _ x hx
      rw [List.mem_singleton.1 hx]
      have := tot_le F
      omega
    | succ j ih =>
      intro hj x hx
      rw [oN] at hx
      rcases List.mem_append.1 hx with h | h
      · exact ih (by omega) x h
      · rw [List.mem_singleton.1 h]
        have h3 := tot_le (gN (lv b) F (j + 1))
        have h4 := hg (j + 1)
        omega
  constructor
  · rw [oN_len]; split <;> omega
  · intro x hx
    refine ho _ ?_ x hx
    split <;> omega
noncomputable def onlyP (a b x : List UInt8) : Bool := nameL x && (meetsL a x && !meetsL b x)
theorem only_eq {a b n : List UInt8} (ha : filtL a = true) (hb : filtL b = true) : (namesL a b ++ [n]).any (onlyP a b) = !covL b (spL a) := by
  cases h : covL b (spL a) with
  | true =>
    rw [Bool.not_true, List.any_eq_false]
    intro x _ hx
    unfold onlyP at hx
    simp only [Bool.and_eq_true, Bool.not_eq_true'] at hx
    rw [within_sound h hx.1 hx.2.1] at hx
    exact absurd hx.2.2 (by simp)
  | false =>
    rw [Bool.not_false, List.any_eq_true]
    obtain ⟨x, hx, h1, h2, h3⟩ := within_apart ha hb h
    exact ⟨x, List.mem_append_left _ hx, by unfold onlyP; rw [h1, h2, h3]; rfl⟩
theorem filt_head {f : ByteArray} (h : filtL f.data.toList = true) : ∃ b t, f.data.toList = b :: t ∧ okF (lv (b :: t)) = true := by
  have hne : f.data.toList ≠ [] := by
    intro e; rw [e] at h
    unfold filtL at h; rw [fitL_nil] at h; cases h
  obtain ⟨b, t, hb⟩ := List.exists_cons_of_ne_nil hne
  refine ⟨b, t, hb, ?_⟩
  rw [← hb]; unfold filtL at h; simp only [Bool.and_eq_true] at h; exact h.2
theorem rmeets_nm (f : ByteArray) (hf : f.size ≤ 1000) (h : filtL f.data.toList = true) (x : List UInt8) (hx : x.length ≤ 1000) (hn : nameL x = true) (w : World) :
    Calls Tryd.prog 12 #[.string f, .string ⟨x.toArray⟩] w fun e w' => BPost w (meetsL f.data.toList x) e w' := by
  obtain ⟨b, t, hb, hok⟩ := filt_head h
  have hnn : x ≠ [] := by intro e; rw [e, nameL_nil] at hn; cases hn
  obtain ⟨d, u, hd⟩ := List.exists_cons_of_ne_nil hnn
  exact rmeets_any f ⟨x.toArray⟩ hf (by show x.toArray.size ≤ 1000; simpa using hx) b d t u hb hd hok w
set_option maxRecDepth 100000 in
theorem within_bad (a b n : ByteArray) (ha : a.size ≤ 300) (hb : b.size ≤ 300) (hn : n.size ≤ 300) (h : (filtL a.data.toList && filtL b.data.toList) = false) (w : World) (ht : Tabs w) :
    Calls Tryd.prog 5 #[.string a, .string b, .string n] w fun e w' => BPost w true e w' := by
  have g1 : ¬ (300 : Int) < (a.size : Int) := by omega
  have g2 : ¬ (300 : Int) < (b.size : Int) := by omega
  have g3 : ¬ (300 : Int) < (n.size : Int) := by omega
  have HT := Lib.hid (And.intro ht ht.two)
  have C1 := Lib.hid (fun W => within_any a b (by omega) (by omega) W)
  have C2 := Lib.hid (fun W => rfilter_any a (by omega) W)
  have C3 := Lib.hid (fun W => rfilter_any b (by omega) W)
  rw [h] at C1
  simp only [Bool.false_and, MePost, Bool.false_eq_true, if_false] at C1
  rcases Bool.eq_false_or_eq_true (filtL a.data.toList) with hA | hA
  · have hB : filtL b.data.toList = false := by rw [hA] at h; simpa using h
    rw [hA] at C2
    rw [hB] at C3
    clear h hA hB ht
    go_enter Tryd.func5, Tryd.ntmps5
    go_wp2_with fail
    refine (C1.out w HT.out.1).mono ?_
    rintro e w1 ⟨rfl, hb1⟩
    have HB1 := Lib.hid hb1
    clear hb1
    go_wp2_with fail
    refine (C2.out w1).mono ?_
    rintro e w2 ⟨rfl, hbx⟩
    have HB2 := Lib.hid (show Below w.heap.size w w2 from HB1.out.trans (hbx.mono HB1.out.size))
    clear hbx
    go_wp2_with fail
    refine (C3.out w2).mono ?_
    rintro e w3 ⟨rfl, hbx⟩
    have HB3 := Lib.hid (show Below w.heap.size w w3 from HB2.out.trans (hbx.mono HB2.out.size))
    clear hbx
    go_wp2_with fail
    refine (known_top w3 (HT.out.1.below HB3.out HT.out.2)).mono ?_
    rintro e w4 ⟨rfl, hbx⟩
    have HB4 := Lib.hid (show Below w.heap.size w w4 from HB3.out.trans (hbx.mono HB3.out.size))
    clear hbx
    go_wp2
    go_ret
    exact ⟨rfl, HB4.out⟩
  · rw [hA] at C2
    clear h hA ht
    go_enter Tryd.func5, Tryd.ntmps5
    go_wp2_with fail
    refine (C1.out w HT.out.1).mono ?_
    rintro e w1 ⟨rfl, hb1⟩
    have HB1 := Lib.hid hb1
    clear hb1
    go_wp2_with fail
    refine (C2.out w1).mono ?_
    rintro e w2 ⟨rfl, hbx⟩
    have HB2 := Lib.hid (show Below w.heap.size w w2 from HB1.out.trans (hbx.mono HB1.out.size))
    clear hbx
    go_wp2_with fail
    refine (known_top w2 (HT.out.1.below HB2.out HT.out.2)).mono ?_
    rintro e w4 ⟨rfl, hbx⟩
    have HB4 := Lib.hid (show Below w.heap.size w w4 from HB2.out.trans (hbx.mono HB2.out.size))
    clear hbx
    go_wp2
    go_ret
    exact ⟨rfl, HB4.out⟩
set_option maxRecDepth 100000 in
theorem within_known (a b c : ByteArray) (h : 300 < a.size ∨ 300 < b.size ∨ 300 < c.size) (w : World) (ht : Tabs w) :
    Calls Tryd.prog 5 #[.string a, .string b, .string c] w fun e w' => BPost w true e w' := by
  have HT := Lib.hid ht
  clear ht
  obtain ⟨x, hx⟩ : ∃ x : Bool, decide ((300 : Int) < (a.size : Int)) = x := ⟨_, rfl⟩
  obtain ⟨y, hy⟩ : ∃ y : Bool, decide ((300 : Int) < (b.size : Int)) = y := ⟨_, rfl⟩
  have g : x = true ∨ x = false ∧ y = true ∨ x = false ∧ y = false ∧ (300 : Int) < (c.size : Int) := by
    subst hx hy
    simp only [decide_eq_true_eq, decide_eq_false_iff_not]
    omega
  rcases g with rfl | ⟨rfl, rfl⟩ | ⟨rfl, rfl, g3⟩ <;>
  · simp only [decide_eq_true_eq, decide_eq_false_iff_not] at hx hy
    go_enter Tryd.func5, Tryd.ntmps5
    go_wp2_with fail
    refine (known_top w HT.out).mono ?_
    rintro e w4 ⟨rfl, hb4⟩
    have HB4 := Lib.hid hb4
    clear hb4
    go_wp2
    go_ret
    exact ⟨rfl, HB4.out⟩
set_option maxRecDepth 100000 in
set_option maxHeartbeats 4000000 in
theorem within_good (a b n : ByteArray) (ha : a.size ≤ 300) (hb : b.size ≤ 300) (hn : n.size ≤ 300) (hA : filtL a.data.toList = true) (hB : filtL b.data.toList = true) (w : World) (ht : Tabs w) :
    Calls Tryd.prog 5 #[.string a, .string b, .string n] w fun e w' => BPost w true e w' := by
  obtain ⟨i0, hi, hz0, hz1, hz2⟩ := info_parts infoStr
  have g1 : ¬ (300 : Int) < (a.size : Int) := by omega
  have g2 : ¬ (300 : Int) < (b.size : Int) := by omega
  have g3 : ¬ (300 : Int) < (n.size : Int) := by omega
  have HT := Lib.hid (And.intro ht ht.two)
  have C1 := Lib.hid (fun W => within_any a b (by omega) (by omega) W)
  have C2 := Lib.hid (fun W => rfilter_any a (by omega) W)
  have C3 := Lib.hid (fun W => rfilter_any b (by omega) W)
  have C4 := Lib.hid (fun W => within_any a a (by omega) (by omega) W)
  have C5 := Lib.hid (fun W => names_any a b (by omega) (by omega) W)
  have C6 := Lib.hid (fun (x : List UInt8) (hx : x.length ≤ 1000) W => rname_any ⟨x.toArray⟩ (by show x.toArray.size ≤ 1000; simpa using hx) W)
  have C7 := Lib.hid (fun (x : List UInt8) (hx : x.length ≤ 1000) (hnm : nameL x = true) W => rmeets_nm a (by omega) hA x hx hnm W)
  have C8 := Lib.hid (fun (x : List UInt8) (hx : x.length ≤ 1000) (hnm : nameL x = true) W => rmeets_nm b (by omega) hB x hx hnm W)
  have hON := only_eq (n := n.data.toList) hA hB
  have hself := within_self hA
  have hsh := names_short (b := b.data.toList) (show a.data.toList.length ≤ 300 by rw [← Lib.size_eq]; exact ha)
  rw [hA, hB] at C1
  rw [hself, hA] at C4
  rw [hA] at C2
  rw [hB] at C3
  simp only [Bool.true_and, Bool.and_true, MePost, if_true] at C1 C4
  have hsl : ∀ x ∈ namesL a.data.toList b.data.toList ++ [n.data.toList], x.length ≤ 1000 := by
    intro x hx
    rcases List.mem_append.1 hx with h | h
    · have := hsh.2 x h; omega
    · rw [List.mem_singleton.1 h, ← Lib.size_eq]; omega
  have hnl : (namesL a.data.toList b.data.toList).length ≤ 3 := hsh.1
  obtain ⟨NL, hNL⟩ : ∃ NL, namesL a.data.toList b.data.toList = NL := ⟨_, rfl⟩
  rw [hNL] at hON hsl hnl C5
  obtain ⟨is, his⟩ : ∃ is, covL b.data.toList (spL a.data.toList) = is := ⟨_, rfl⟩
  rw [his] at hON C1
  obtain ⟨L, hL⟩ : ∃ L, NL ++ [n.data.toList] = L := ⟨_, rfl⟩
  rw [hL] at hON hsl
  obtain ⟨p, hp⟩ : ∃ p, onlyP a.data.toList b.data.toList = p := ⟨_, rfl⟩
  rw [hp] at hON
  have HL := Lib.hid (And.intro hL (And.intro hON (And.intro hsl (And.intro hnl hp))))
  clear hA hB hself hsh hsl hNL his hL hON ht hp
  go_enter Tryd.func5, Tryd.ntmps5
  go_wp2_with fail
  refine (C1.out w HT.out.1).mono ?_
  rintro e w1 ⟨rfl, hb1⟩
  have HB1 := Lib.hid hb1
  clear hb1
  go_wp2_with fail
  refine (C2.out w1).mono ?_
  rintro e w2 ⟨rfl, hbx⟩
  have HB2 := Lib.hid (show Below w.heap.size w w2 from HB1.out.trans (hbx.mono HB1.out.size))
  clear hbx
  go_wp2_with fail
  refine (C3.out w2).mono ?_
  rintro e w3 ⟨rfl, hbx⟩
  have HB3 := Lib.hid (show Below w.heap.size w w3 from HB2.out.trans (hbx.mono HB2.out.size))
  clear hbx
  go_wp2_with fail
  refine (C4.out w3 (HT.out.1.below HB3.out HT.out.2)).mono ?_
  rintro e w4 ⟨rfl, hbx⟩
  have HB4 := Lib.hid (show Below w.heap.size w w4 from HB3.out.trans (hbx.mono HB3.out.size))
  clear hbx
  go_wp2_with fail
  refine (C5.out w4).mono ?_
  rintro e w5 ⟨v5, rfl, ho5, hb5⟩
  have hB45 : w4.heap.size ≤ w5.heap.size := hb5.size
  obtain ⟨va, vc, rfl⟩ := row_slice ho5
  have HR := Lib.hid (World.ownsRow.alloc ho5 (.cells #[.string n] 9))
  have HO5 := Lib.hid (And.intro ho5 hb5)
  have hmx : NL.length + 1 ≤ maxLen := by unfold maxLen; omega
  clear ho5 hb5
  go_wp2_with (at_builtin; refine wpList_append_own _ rfl _ _ 29 rfl w4.heap.size 9 i0 (.string ⟨#[]⟩) 1 16 Tryd.underlying29 hi hz0 hz1 hz2 rfl (by decide) _ _ _ rfl HR.out ⟨w5.heap.size, 0, none⟩ 1 1 [.string n] rfl rfl (cell_one_new _ _ _) (by simp [Value.oneCell']) hmx (by omega) (by simp; omega) ?_; intro v6 w6 hown6 hgrow6 _)
  replace hgrow6 : (w5.alloc (.cells #[.string n] 9)).grownBy w6 (Value.slice va NL.length vc).ownBlock := hgrow6
  have hO6 : OwnT w6 w4.heap.size v6 (NL ++ [n.data.toList]) := own_snoc (x := n.data.toList) hown6
  have hB6 : Below w.heap.size w w6 := HB4.out.trans ((text_below HO5.out.2 hB45 HO5.out.1 hgrow6).mono HB4.out.size)
  rw [HL.out.1] at hO6
  have hll : L.length ≤ 4 := by rw [← HL.out.1]; simp; omega
  obtain ⟨la, lc, rfl, htl, -, -, -⟩ := TxAt.own hO6
  have HW := Lib.hid (And.intro hB6 htl)
  clear hown6 hgrow6 hO6 hB6 htl hmx
  obtain ⟨N, hN⟩ : ∃ N, L.length = N := ⟨_, rfl⟩
  rw [hN] at hll
  have HN := Lib.hid hN
  rw [hN]
  clear hN
  go_wp2
  go_loopw [12, 13, 73, 74, 75, 76, 77, 78, 79, 80, 81, 82, 83, 84, 85, 86, 87, 88, 89, 90, 91, 92, 93, 94, 95, 96, 97, 98, 99, 100] (fun o i _ _ _ _ _ _ _ _ _ _ _ _ _ _ _ _ _ _ _ _ _ _ _ _ _ _ _ _ wr => ∃ k : Nat, i = .int .i64 k ∧ k ≤ N ∧ o = .bool ((L.take k).any p) ∧ Below w6.heap.size w6 wr)
    (fun _ i _ _ _ _ _ _ _ _ _ _ _ _ _ _ _ _ _ _ _ _ _ _ _ _ _ _ _ _ _ => N - (intOf i).toNat)
  case atStart => exact ⟨0, rfl, Nat.zero_le _, rfl, Below.refl _ _⟩
  case round =>
    obtain ⟨k, rfl, hk, rfl, hbq⟩ := hrel
    have HQ := Lib.hid hbq
    clear hbq
    by_cases hlt : k < N
    · have hkl : k < L.length := by have := HN.out; omega
      have hne1 : L ≠ [] := fun e => by rw [e] at hkl; simp at hkl
      obtain ⟨x, hx⟩ : ∃ x, L[k]? = some x := ⟨_, List.getElem?_eq_getElem hkl⟩
      have hxl := HL.out.2.2.1 x (List.mem_of_getElem? hx)
      obtain ⟨b1, o1, rfl, hlt1, hc1⟩ := HW.out.2 hne1
      have hcx := hc1 k x hx
      have HC := Lib.hid (fun W (h : Below w6.heap.size w6 W) => (show W.cell? ⟨b1, o1 + k, none⟩ = some (.string ⟨x.toArray⟩) from (h.cell hlt1).trans hcx))
      have hany : (L.take (k + 1)).any p = ((L.take k).any p || p x) := by
        rw [List.take_succ_eq_append_getElem hkl]
        rw [List.getElem?_eq_getElem hkl] at hx
        rw [Option.some.inj hx, List.any_append]; simp
      have hpx : p x = (nameL x && (meetsL a.data.toList x && !meetsL b.data.toList x)) := by rw [← HL.out.2.2.2.2]; rfl
      have HA := Lib.hid hany
      have D1 := Lib.hid (C6.out x hxl)
      have hd1 := HC.out wr HQ.out
      clear hany hc1 hcx hx hkl hne1
      generalize (L.take k).any p = q at *
      rcases Bool.eq_false_or_eq_true (nameL x) with h1 | h1
      · have D2 := Lib.hid (C7.out x hxl h1)
        have D3 := Lib.hid (C8.out x hxl h1)
        rw [h1, Bool.true_and] at hpx
        rw [h1] at D1
        rcases Bool.eq_false_or_eq_true (meetsL a.data.toList x) with h2 | h2
        · rw [h2, Bool.true_and] at hpx
          rw [h2] at D2
          rcases Bool.eq_false_or_eq_true (meetsL b.data.toList x) with h3 | h3
          · rw [h3] at hpx D3
            rw [show (!true) = false from rfl] at hpx
            have HP := Lib.hid hpx
            clear hpx h1 h2 h3
            go_wp2_with fail
            refine (D1.out wr).mono ?_
            rintro e wr1 ⟨rfl, hbx⟩
            have HQ1 := Lib.hid (show Below w6.heap.size w6 wr1 from HQ.out.trans (hbx.mono HQ.out.size))
            have hd2 := HC.out wr1 HQ1.out
            clear hbx
            go_wp2_with fail
            refine (D2.out wr1).mono ?_
            rintro e wr2 ⟨rfl, hbx⟩
            have HQ2 := Lib.hid (show Below w6.heap.size w6 wr2 from HQ1.out.trans (hbx.mono HQ1.out.size))
            have hd3 := HC.out wr2 HQ2.out
            clear hbx
            go_wp2_with fail
            refine (D3.out wr2).mono ?_
            rintro e wr3 ⟨rfl, hbx⟩
            have HQ3 := Lib.hid (show Below w6.heap.size w6 wr3 from HQ2.out.trans (hbx.mono HQ2.out.size))
            clear hbx
            go_wp2
            go_roundw
            case rel => exact ⟨k + 1, by go_num, by omega, by rw [HA.out, HP.out, Bool.or_false], HQ3.out⟩
            case measure => simp [intOf]; omega
          · rw [h3] at hpx D3
            rw [show (!false) = true from rfl] at hpx
            have HP := Lib.hid hpx
            clear hpx h1 h2 h3
            go_wp2_with fail
            refine (D1.out wr).mono ?_
            rintro e wr1 ⟨rfl, hbx⟩
            have HQ1 := Lib.hid (show Below w6.heap.size w6 wr1 from HQ.out.trans (hbx.mono HQ.out.size))
            have hd2 := HC.out wr1 HQ1.out
            clear hbx
            go_wp2_with fail
            refine (D2.out wr1).mono ?_
            rintro e wr2 ⟨rfl, hbx⟩
            have HQ2 := Lib.hid (show Below w6.heap.size w6 wr2 from HQ1.out.trans (hbx.mono HQ1.out.size))
            have hd3 := HC.out wr2 HQ2.out
            clear hbx
            go_wp2_with fail
            refine (D3.out wr2).mono ?_
            rintro e wr3 ⟨rfl, hbx⟩
            have HQ3 := Lib.hid (show Below w6.heap.size w6 wr3 from HQ2.out.trans (hbx.mono HQ2.out.size))
            clear hbx
            go_wp2
            go_roundw
            case rel => exact ⟨k + 1, by go_num, by omega, by rw [HA.out, HP.out, Bool.or_true], HQ3.out⟩
            case measure => simp [intOf]; omega
        · rw [h2, Bool.false_and] at hpx
          rw [h2] at D2
          have HP := Lib.hid hpx
          clear hpx h1 h2 D3
          go_wp2_with fail
          refine (D1.out wr).mono ?_
          rintro e wr1 ⟨rfl, hbx⟩
          have HQ1 := Lib.hid (show Below w6.heap.size w6 wr1 from HQ.out.trans (hbx.mono HQ.out.size))
          have hd2 := HC.out wr1 HQ1.out
          clear hbx
          go_wp2_with fail
          refine (D2.out wr1).mono ?_
          rintro e wr2 ⟨rfl, hbx⟩
          have HQ2 := Lib.hid (show Below w6.heap.size w6 wr2 from HQ1.out.trans (hbx.mono HQ1.out.size))
          have hd3 := HC.out wr2 HQ2.out
          clear hbx
          go_wp2
          go_roundw
          case rel => exact ⟨k + 1, by go_num, by omega, by rw [HA.out, HP.out, Bool.or_false], HQ2.out⟩
          case measure => simp [intOf]; omega
      · rw [h1, Bool.false_and] at hpx
        rw [h1] at D1
        have HP := Lib.hid hpx
        clear hpx h1
        go_wp2_with fail
        refine (D1.out wr).mono ?_
        rintro e wr1 ⟨rfl, hbx⟩
        have HQ1 := Lib.hid (show Below w6.heap.size w6 wr1 from HQ.out.trans (hbx.mono HQ.out.size))
        have hd2 := HC.out wr1 HQ1.out
        clear hbx
        go_wp2
        go_roundw
        case rel => exact ⟨k + 1, by go_num, by omega, by rw [HA.out, HP.out, Bool.or_false], HQ1.out⟩
        case measure => simp [intOf]; omega
    · obtain rfl : k = N := by omega
      have htk : L.take k = L := by rw [← HN.out]; exact List.take_length
      have ho : L.any p = !is := HL.out.2.1
      rw [htk, ho]
      clear htk ho
      go_wp2_with fail
      refine (known_top wr (HT.out.1.below (HW.out.1.trans (HQ.out.mono HW.out.1.size)) HT.out.2)).mono ?_
      rintro e w9 ⟨rfl, hb9⟩
      have HB9 := Lib.hid (show Below w.heap.size w w9 from (HW.out.1.trans (HQ.out.mono HW.out.1.size)).trans (hb9.mono (HW.out.1.trans (HQ.out.mono HW.out.1.size)).size))
      clear hb9
      go_wp2
      go_ret
      exact ⟨rfl, HB9.out⟩
theorem within_law (a b n : ByteArray) (w : World) (ht : Tabs w) : Calls Tryd.prog 5 #[.string a, .string b, .string n] w fun e w' => BPost w true e w' := by
  by_cases h : 300 < a.size ∨ 300 < b.size ∨ 300 < n.size
  · exact within_known a b n h w ht
  · rcases Bool.eq_false_or_eq_true (filtL a.data.toList && filtL b.data.toList) with hq | hq
    · have hq2 := hq
      simp only [Bool.and_eq_true] at hq2
      exact within_good a b n (by omega) (by omega) (by omega) hq2.1 hq2.2 w ht
    · exact within_bad a b n (by omega) (by omega) (by omega) hq w ht
end Go.Proofs.YtkabdalnkmbloaaDoor
