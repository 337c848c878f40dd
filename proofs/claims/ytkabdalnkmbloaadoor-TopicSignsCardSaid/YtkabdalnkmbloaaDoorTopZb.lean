/- Layer 13: names that a filter meets. -/
import Derived.Test.YtkabdalnkmbloaaDoorTopZ
import Derived.Test.YtkabdalnkmbloaaDoorTopO
import Derived.Maps.AppendAt
namespace Go.Proofs.YtkabdalnkmbloaaDoor
open Go.RowKit Go.Shelf

def bsT (Y : List (List UInt8)) (i : Nat) (x : List UInt8) : List (List UInt8) := if x = [35] then [] else if x = [43] then [unlL Y i] else [x]
theorem bsF_snoc (Y : List (List UInt8)) (i : Nat) (P : List (List UInt8)) (x : List UInt8) : bsF Y i (P ++ [x]) = bsF Y i P ++ bsT Y (i + P.length) x := by
  induction P generalizing i with
  | nil => simp [bsF, bsT]
  | cons y P ih =>
    rw [List.cons_append, bsF, bsF, ih (i + 1), List.length_cons, List.append_assoc, show i + 1 + P.length = i + (P.length + 1) by omega]
theorem unlL_len (Y : List (List UInt8)) (i : Nat) : (unlL Y i).length = 1 := by rcases unlL_or Y i with h | h <;> rw [h] <;> rfl
theorem bsF_short (Y : List (List UInt8)) (i : Nat) {P : List (List UInt8)} (h : ∀ x ∈ P, x.length ≤ 1000) : (bsF Y i P).length ≤ P.length ∧ ∀ x ∈ bsF Y i P, x.length ≤ 1000 := by
  induction P generalizing i with
  | nil => simp [bsF]
  | cons y P ih =>
    have h1 := ih (i + 1) fun x hx => h x (by simp [hx])
    have h2 : (bsT Y i y).length ≤ 1 ∧ ∀ x ∈ bsT Y i y, x.length ≤ 1000 := by
      unfold bsT
      split
      · simp
      · split
        · simp [unlL_len]
        · exact ⟨by simp, fun x hx => by rw [List.mem_singleton.1 hx]; exact h y (by simp)⟩
    rw [bsF]
    change (bsT Y i y ++ bsF Y (i + 1) P).length ≤ _ ∧ ∀ x ∈ bsT Y i y ++ bsF Y (i + 1) P, _
    refine ⟨by rw [List.length_append, List.length_cons]; omega, fun x hx => ?_⟩
    rcases List.mem_append.1 hx with h3 | h3
    · exact h2.2 x h3
    · exact h1.2 x h3
def gN (Y F : List (List UInt8)) : Nat → List (List UInt8)
  | 0 => F
  | j + 1 => gN Y F j ++ [unlL Y (gN Y F j).length]
def oN (Y F : List (List UInt8)) : Nat → List (List UInt8)
  | 0 => [joinL F]
  | j + 1 => oN Y F j ++ [joinL (gN Y F (j + 1))]
theorem names_eq (a b : List UInt8) : namesL a b = oN (lv b) (bsF (lv b) 0 (lv a)) (if (lv a).contains [35] then 2 else 0) := by
  unfold namesL
  split <;> simp [oN, gN]
theorem gN_short {Y F : List (List UInt8)} {n : Nat} (h : F.length ≤ n) (hF : ∀ x ∈ F, x.length ≤ 1000) (j : Nat) : (gN Y F j).length ≤ n + j ∧ ∀ x ∈ gN Y F j, x.length ≤ 1000 := by
  induction j with
  | zero => exact ⟨h, hF⟩
  | succ j ih =>
    rw [gN]
    refine ⟨by simp only [List.length_append, List.length_singleton]; omega, fun x hx => ?_⟩
    rcases List.mem_append.1 hx with h3 | h3
    · exact ih.2 x h3
    · rw [List.mem_singleton.1 h3, unlL_len]; omega
theorem oN_len (Y F : List (List UInt8)) (j : Nat) : (oN Y F j).length = j + 1 := by
  induction j with
  | zero => rfl
  | succ j ih => rw [oN, List.length_append, ih]; rfl
theorem own_far {w w' : World} {base : Nat} {v : Value} {L : List (List UInt8)} {row : Option Nat} (h : OwnT w base v L) (hg : w.grownBy w' row) (hne : ∀ k, v.ownBlock = some k → some k ≠ row) : OwnT w' base v L := by
  obtain ⟨h1, ⟨rfl, h0⟩ | ⟨g, cap, cur, rfl, hb, hh, hr⟩⟩ := h
  · exact ⟨h1, .inl ⟨rfl, h0⟩⟩
  · exact ⟨h1, .inr ⟨g, cap, cur, rfl, hb, (hg.block g (Array.getElem?_eq_some_iff.1 hh).1 (hne g rfl)).trans hh, hr⟩⟩
theorem own_base {w : World} {base base' : Nat} {v : Value} {L : List (List UInt8)} (h : OwnT w base v L) (hb' : base' ≤ base) : OwnT w base' v L := by
  obtain ⟨h1, ⟨rfl, h0⟩ | ⟨g, cap, cur, rfl, hb, hr⟩⟩ := h
  · exact ⟨h1, .inl ⟨rfl, h0⟩⟩
  · exact ⟨h1, .inr ⟨g, cap, cur, rfl, Nat.le_trans hb' hb, hr⟩⟩
theorem own_nil (w : World) (base : Nat) : OwnT w base (.slice none 0 0) [] := ⟨rfl, .inl ⟨rfl, rfl⟩⟩
theorem own_snoc {w : World} {base : Nat} {v : Value} {L : List (List UInt8)} {x : List UInt8} (h : w.ownsRow base 9 1 v (L.length + 1) (strVals L ++ [.string ⟨x.toArray⟩])) : OwnT w base v (L ++ [x]) := by
  unfold OwnT; rw [strVals_snoc, List.length_append]; exact h
set_option maxRecDepth 100000 in
set_option maxHeartbeats 4000000 in
theorem names_any (a b : ByteArray) (ha : a.size ≤ 900) (hb : b.size ≤ 900) (w : World) : Calls Tryd.prog 20 #[.string a, .string b] w fun e w' => LvPost w (namesL a.data.toList b.data.toList) e w' := by
  obtain ⟨i0, hi, hz0, hz1, hz2⟩ := info_parts infoStr
  have hxl : (lv a.data.toList).length ≤ 901 := by have := lv_len_le a.data.toList; rw [← Lib.size_eq] at this; omega
  have hyl : (lv b.data.toList).length ≤ 901 := by have := lv_len_le b.data.toList; rw [← Lib.size_eq] at this; omega
  have HXS := Lib.hid (lv_short (s := a) (by omega))
  have C1 := Lib.hid (fun W => rlevels_any a (by omega) W)
  have C2 := Lib.hid (fun W => rlevels_any b (by omega) W)
  rw [names_eq]
  generalize lv a.data.toList = X at *
  generalize lv b.data.toList = Y at *
  obtain ⟨F, hFF⟩ : ∃ F, bsF Y 0 X = F := ⟨_, rfl⟩
  obtain ⟨mo, hmo⟩ : ∃ m, X.contains [35] = m := ⟨_, rfl⟩
  rw [hFF, hmo]
  have HFF := Lib.hid (And.intro hFF hmo)
  clear hFF hmo
  go_enter Tryd.func20, Tryd.ntmps20
  go_wp2_with fail
  refine (C1.out w).mono ?_
  rintro e w1 ⟨v1, rfl, ho1, hb1⟩
  obtain ⟨a1, c1, rfl, htx1, -, -, -⟩ := TxAt.own ho1
  have HB1 := Lib.hid (And.intro hb1 htx1)
  clear hb1 ho1 htx1
  go_wp2_with fail
  refine (C2.out w1).mono ?_
  rintro e w2 ⟨v2, rfl, ho2, hb2⟩
  obtain ⟨a2, c2, rfl, htx2, -, -, -⟩ := TxAt.own ho2
  have HB2 := Lib.hid (And.intro (show Below w.heap.size w w2 from HB1.out.1.trans (hb2.mono HB1.out.1.size)) (And.intro (HB1.out.2.below hb2) htx2))
  clear hb2 ho2 htx2
  obtain ⟨B, hB⟩ : ∃ B, w2.heap.size = B := ⟨_, rfl⟩
  have HBs := Lib.hid hB
  obtain ⟨N, hN⟩ : ∃ N, X.length = N := ⟨_, rfl⟩
  have HN := Lib.hid hN
  rw [hN]
  rw [hN] at hxl
  clear hN
  go_wp2
  go_loopw [7, 8, 9, 16, 17, 18, 19, 20, 21, 22, 23, 24, 25, 26, 27, 28, 29, 30, 31, 32, 33, 34, 35, 36, 37, 38, 39, 40, 41, 42] (fun v m i _ _ _ _ _ _ _ _ _ _ _ _ _ _ _ _ _ _ _ _ _ _ _ _ _ _ _ wr => ∃ k : Nat, i = .int .i64 k ∧ k ≤ N ∧ OwnT wr B v (bsF Y 0 (X.take k)) ∧ m = .bool ((X.take k).contains [35]) ∧ Below B w2 wr)
    (fun _ _ i _ _ _ _ _ _ _ _ _ _ _ _ _ _ _ _ _ _ _ _ _ _ _ _ _ _ _ _ => N - (intOf i).toNat)
  case atStart => exact ⟨0, rfl, Nat.zero_le _, own_nil _ _, rfl, Below.refl _ _⟩
  case round =>
    obtain ⟨k, rfl, hk, hO, rfl, hbw⟩ := hrel
    have hBs : B ≤ wr.heap.size := by have := hbw.size; omega
    by_cases hlt : k < N
    · have hkl : k < X.length := by have := HN.out; omega
      have hne1 : X ≠ [] := fun e => by rw [e] at hkl; simp at hkl
      obtain ⟨b1, o1, rfl, hlt1, hc1⟩ := (show TxAt wr a1 X from HB2.out.2.1.below (by rw [hB]; exact hbw)) hne1
      obtain ⟨x, hx⟩ : ∃ x, X[k]? = some x := ⟨_, List.getElem?_eq_getElem hkl⟩
      have d1 := hc1 k x hx
      have htk : X.take (k + 1) = X.take k ++ [x] := by
        rw [List.take_succ_eq_append_getElem hkl]
        rw [List.getElem?_eq_getElem hkl] at hx
        rw [Option.some.inj hx]
      have hlk : (X.take k).length = k := by rw [List.length_take]; omega
      have hbl := (bsF_short Y 0 (P := X.take k) fun y hy => HXS.out y (List.mem_of_mem_take hy)).1
      rw [hlk] at hbl
      have hsn : bsF Y 0 (X.take (k + 1)) = bsF Y 0 (X.take k) ++ bsT Y k x := by rw [htk, bsF_snoc, hlk, Nat.zero_add]
      have hct : (X.take (k + 1)).contains [35] = ((X.take k).contains [35] || x == [35]) := by
        rw [htk, List.contains_eq_any_beq, List.contains_eq_any_beq, List.any_append]
        simp only [List.any_cons, List.any_nil, Bool.or_false]
        rw [show ([35] == x) = (x == [35]) from Bool.eq_iff_iff.2 (by simp only [beq_iff_eq]; exact eq_comm)]
      obtain ⟨P, hP⟩ : ∃ P, bsF Y 0 (X.take k) = P := ⟨_, rfl⟩
      rw [hP] at hsn hbl hO
      obtain ⟨va, vc, rfl⟩ := row_slice hO
      have HS := Lib.hid (And.intro hsn (And.intro hct (And.intro hO hbw)))
      have HTY := Lib.hid (show TxAt wr a2 Y from HB2.out.2.2.below (by rw [hB]; exact hbw))
      clear hsn hct hbw hc1 hx htk hlk hne1 hkl hP
      generalize (X.take k).contains [35] = m at *
      rcases Bool.eq_false_or_eq_true (x == [35]) with h1 | h1
      · have ht : bsT Y k x = [] := by unfold bsT; rw [if_pos (eq_of_beq h1)]
        have HT := Lib.hid (And.intro ht h1)
        clear ht
        go_wp2
        go_roundw
        case rel => exact ⟨k + 1, by go_num, by omega, by rw [HS.out.1, HT.out.1, List.append_nil]; exact HS.out.2.2.1, by rw [HS.out.2.1, HT.out.2, Bool.or_true], HS.out.2.2.2⟩
        case measure => simp [intOf]; omega
      · have hn35 : x ≠ [35] := fun e => by rw [e] at h1; simp at h1
        rcases Bool.eq_false_or_eq_true (x == [43]) with h2 | h2
        · have ht : bsT Y k x = [unlL Y k] := by unfold bsT; rw [if_neg hn35, if_pos (eq_of_beq h2)]
          have HT := Lib.hid (And.intro ht h1)
          have HR := Lib.hid (World.ownsRow.alloc hO (.cells #[.string ⟨(unlL Y k).toArray⟩] 9))
          have hmx : P.length + 1 ≤ maxLen := by unfold maxLen; omega
          clear ht hO
          go_wp2_with fail
          refine (unlike_any a2 c2 Y k wr HTY.out).mono ?_
          rintro e w' ⟨rfl, rfl⟩
          go_wp2_with (at_builtin; refine wpList_append_own _ rfl _ _ 29 rfl B 9 i0 (.string ⟨#[]⟩) 1 16 Tryd.underlying29 hi hz0 hz1 hz2 rfl (by decide) _ _ _ rfl HR.out ⟨wr.heap.size, 0, none⟩ 1 1 [.string ⟨(unlL Y k).toArray⟩] rfl rfl (cell_one_new _ _ _) (by simp [Value.oneCell']) hmx (by omega) (by simp; omega) ?_; intro v' w5 hown' hgrow _)
          go_roundw
          case rel => exact ⟨k + 1, by go_num, by omega, by rw [HS.out.1, HT.out.1]; exact own_snoc hown', by rw [HS.out.2.1, HT.out.2, Bool.or_false], text_below HS.out.2.2.2 hBs HS.out.2.2.1 hgrow⟩
          case measure => simp [intOf]; omega
        · have ht : bsT Y k x = [x] := by unfold bsT; rw [if_neg hn35, if_neg (fun e => by rw [e] at h2; simp at h2)]
          have HT := Lib.hid (And.intro ht h1)
          have HR := Lib.hid (World.ownsRow.alloc hO (.cells #[.string ⟨x.toArray⟩] 9))
          have hmx : P.length + 1 ≤ maxLen := by unfold maxLen; omega
          clear ht hO
          go_wp2_with (at_builtin; refine wpList_append_own _ rfl _ _ 29 rfl B 9 i0 (.string ⟨#[]⟩) 1 16 Tryd.underlying29 hi hz0 hz1 hz2 rfl (by decide) _ _ _ rfl HR.out ⟨wr.heap.size, 0, none⟩ 1 1 [.string ⟨x.toArray⟩] rfl rfl (cell_one_new _ _ _) (by simp [Value.oneCell']) hmx (by omega) (by simp; omega) ?_; intro v' w5 hown' hgrow _)
          go_roundw
          case rel => exact ⟨k + 1, by go_num, by omega, by rw [HS.out.1, HT.out.1]; exact own_snoc hown', by rw [HS.out.2.1, HT.out.2, Bool.or_false], text_below HS.out.2.2.2 hBs HS.out.2.2.1 hgrow⟩
          case measure => simp [intOf]; omega
    · obtain rfl : k = N := by omega
      have htl : X.take k = X := by rw [← HN.out]; exact List.take_length
      rw [htl, HFF.out.1] at hO
      rw [htl, HFF.out.2]
      have hF := bsF_short Y 0 (P := X) HXS.out
      rw [HN.out, HFF.out.1] at hF
      have HG := Lib.hid (fun j => gN_short (Y := Y) hF.1 hF.2 j)
      have HH := Lib.hid (And.intro hO hbw)
      obtain ⟨va, vc, rfl, htv, -, -, -⟩ := TxAt.own hO
      have HTV := Lib.hid (And.intro htv hF)
      clear htl hO hbw htv hF
      go_wp2_with fail
      refine (join_any va vc F (by have := HTV.out.2.1; omega) HTV.out.2.2 wr HTV.out.1).mono ?_
      rintro e w' ⟨rfl, rfl⟩
      obtain ⟨w3, hw3⟩ : ∃ w3, w3 = wr := ⟨_, rfl⟩
      subst hw3
      have hne0 : ∀ k, (Value.slice va F.length vc).ownBlock = some k → (Value.slice (some ⟨w3.heap.size, 0, none⟩) 1 1).ownBlock ≠ some k := fun k hk e => by
        have h1 := (own_lt HH.out.1 k hk).2.1
        have h2 : w3.heap.size = k := Option.some.inj e
        omega
      have HO1 := Lib.hid (And.intro (own_base (base' := B) (own_one w3 (joinL F)) hBs) (And.intro (show OwnT (w3.alloc (.cells #[.string ⟨(joinL F).toArray⟩] 9)) B (.slice va F.length vc) F from World.ownsRow.alloc HH.out.1 _) (And.intro hne0 (HH.out.2.alloc hBs (.cells #[.string ⟨(joinL F).toArray⟩] 9)))))
      clear hne0
      have HWB := Lib.hid (show w.heap.size ≤ B by have := HB2.out.1.size; omega)
      go_wp2
      go_loopw [7, 10, 11, 46, 47, 48, 49, 50, 51, 52, 53, 54, 55, 56, 57, 58, 59, 60, 61, 62, 63, 64] (fun v o i _ _ _ _ _ _ _ _ _ _ _ _ _ _ _ _ _ _ _ wr => ∃ j : Nat, i = .int .i64 j ∧ j ≤ 2 ∧ (j = 0 ∨ mo = true) ∧ OwnT wr B v (gN Y F j) ∧ OwnT wr B o (oN Y F j) ∧ (∀ k, v.ownBlock = some k → o.ownBlock ≠ some k) ∧ Below B w2 wr)
        (fun _ _ i _ _ _ _ _ _ _ _ _ _ _ _ _ _ _ _ _ _ _ _ => 2 - (intOf i).toNat)
      case atStart => exact ⟨0, rfl, by omega, .inl rfl, HO1.out.2.1, HO1.out.1, HO1.out.2.2.1, HO1.out.2.2.2⟩
      case round =>
        obtain ⟨j, rfl, hj, hmo, hOv, hOo, hne, hbq⟩ := hrel
        have hBq : B ≤ wr.heap.size := by have := hbq.size; omega
        obtain ⟨vb, vd, rfl⟩ := row_slice hOv
        obtain ⟨ob, od, rfl⟩ := row_slice hOo
        have HQ := Lib.hid (And.intro hOv (And.intro hOo (And.intro hne hbq)))
        clear hOv hOo hne hbq
        have HTY := Lib.hid (show TxAt wr a2 Y from HB2.out.2.2.below (by rw [hB]; exact HQ.out.2.2.2))
        by_cases hj2 : j = 2
        · subst hj2
          obtain rfl : mo = true := by simpa using hmo
          go_wp2
          go_ret
          exact ⟨_, rfl, own_base HQ.out.2.1 HWB.out, HB2.out.1.trans (HQ.out.2.2.2.mono HWB.out)⟩
        · have hj3 : (j : Int) < 2 := by omega
          have hj4 : j < 2 := by omega
          rcases Bool.eq_false_or_eq_true mo with rfl | rfl
          · have hgs := HG.out j
            have hgs1 := HG.out (j + 1)
            have hol := oN_len Y F j
            obtain ⟨G, hG⟩ : ∃ G, gN Y F j = G := ⟨_, rfl⟩
            obtain ⟨O, hO⟩ : ∃ O, oN Y F j = O := ⟨_, rfl⟩
            have hG1 : gN Y F (j + 1) = G ++ [unlL Y G.length] := by rw [gN, hG]
            have hO1 : oN Y F (j + 1) = O ++ [joinL (G ++ [unlL Y G.length])] := by rw [oN, hG1, hO]
            rw [hG1] at hgs1
            rw [hG] at hgs HQ
            rw [hO] at hol HQ
            have hOv := HQ.out.1
            have hOo := HQ.out.2.1
            have HGO := Lib.hid (And.intro hG1 (And.intro hO1 hgs1))
            clear hG1 hO1 hgs1
            rw [hG, hO]
            have HR := Lib.hid (World.ownsRow.alloc hOv (.cells #[.string ⟨(unlL Y G.length).toArray⟩] 9))
            have hmx : G.length + 1 ≤ maxLen := by unfold maxLen; omega
            have HMY := Lib.hid (show O.length + 1 ≤ maxLen ∧ O.length + 1 ≤ 1000 by unfold maxLen; omega)
            clear hOv hG hO hol hmo
            go_wp2_with fail
            refine (unlike_any a2 c2 Y G.length wr HTY.out).mono ?_
            rintro e w' ⟨rfl, rfl⟩
            go_wp2_with (at_builtin; refine wpList_append_own_at _ rfl _ _ 29 rfl B 9 i0 (.string ⟨#[]⟩) 1 16 Tryd.underlying29 hi hz0 hz1 hz2 rfl (by decide) _ _ _ rfl HR.out ⟨wr.heap.size, 0, none⟩ 1 1 [.string ⟨(unlL Y G.length).toArray⟩] rfl rfl (cell_one_new _ _ _) (by simp [Value.oneCell']) hmx (by omega) (by simp; omega) ?_; intro v' w5 hown' hgrow _ hblk)
            replace hgrow : (wr.alloc (.cells #[.string ⟨(unlL Y G.length).toArray⟩] 9)).grownBy w5 (Value.slice vb G.length vd).ownBlock := hgrow
            replace hblk : v'.ownBlock = (Value.slice vb G.length vd).ownBlock ∨ v'.ownBlock = some (wr.heap.size + 1) := by
              rcases hblk with h | h
              · exact .inl h
              · exact .inr (by rw [h]; simp)
            have hO5 := own_snoc hown'
            have hBb : Below B w2 w5 := text_below HQ.out.2.2.2 hBq HQ.out.1 hgrow
            have hB5 : B ≤ w5.heap.size := by have := hBb.size; omega
            have hOo5 : OwnT w5 B (.slice ob O.length od) O := own_far (World.ownsRow.alloc hOo _) hgrow (fun k hk e => HQ.out.2.2.1 k e.symm hk)
            have hne5 : ∀ k, v'.ownBlock = some k → (Value.slice ob O.length od).ownBlock ≠ some k := fun k hk e => by
              rcases hblk with h | h
              · rw [h] at hk; exact HQ.out.2.2.1 k hk e
              · have h1 := (own_lt HQ.out.2.1 k e).2.1
                rw [h] at hk
                have := Option.some.inj hk
                omega
            obtain ⟨a', c', rfl, htx', -, -, -⟩ := TxAt.own hO5
            have hjn := Lib.hid (join_any a' c' _ (by have := HGO.out.2.2.1; omega) HGO.out.2.2.2 w5 htx')
            have H5 := Lib.hid (And.intro hO5 (And.intro hBb (And.intro hOo5 hne5)))
            have HR2 := Lib.hid (World.ownsRow.alloc hOo5 (.cells #[.string ⟨(joinL (G ++ [unlL Y G.length])).toArray⟩] 9))
            have hmy := HMY.out.1
            have hmy2 := HMY.out.2
            clear hO5 hBb hOo5 hne5 htx' hown' hgrow hblk hOo
            generalize hG' : G ++ [unlL Y G.length] = G' at *
            refine hjn.out.mono ?_
            rintro e w6 ⟨rfl, rfl⟩
            go_wp2_with (at_builtin; refine wpList_append_own_at _ rfl _ _ 29 rfl B 9 i0 (.string ⟨#[]⟩) 1 16 Tryd.underlying29 hi hz0 hz1 hz2 rfl (by decide) _ _ _ rfl HR2.out ⟨w5.heap.size, 0, none⟩ 1 1 [.string ⟨(joinL G').toArray⟩] rfl rfl (cell_one_new _ _ _) (by simp [Value.oneCell']) hmy (by omega) (by simp; omega) ?_; intro v7 w7 hown7 hgrow7 _ hblk7)
            replace hgrow7 : (w5.alloc (.cells #[.string ⟨(joinL G').toArray⟩] 9)).grownBy w7 (Value.slice ob O.length od).ownBlock := hgrow7
            replace hblk7 : v7.ownBlock = (Value.slice ob O.length od).ownBlock ∨ v7.ownBlock = some (w5.heap.size + 1) := by
              rcases hblk7 with h | h
              · exact .inl h
              · exact .inr (by rw [h]; simp)
            have h5 := H5.out
            refine ⟨⟨j + 1, by go_num, by omega, .inr trivial, ?_, ?_, ?_, text_below h5.2.1 hB5 h5.2.2.1 hgrow7⟩, by simp only [intOf]; omega⟩
            · rw [HGO.out.1]
              exact own_far (World.ownsRow.alloc h5.1 _) hgrow7 (fun k hk e => h5.2.2.2 k hk e.symm)
            · rw [HGO.out.2.1]
              exact own_snoc hown7
            · intro k hk e
              rcases hblk7 with h | h
              · rw [h] at e; exact h5.2.2.2 k hk e
              · have h1 := (own_lt h5.1 k hk).2.1
                rw [h] at e
                have := Option.some.inj e
                omega
          · obtain rfl : j = 0 := by simpa using hmo
            go_wp2
            go_ret
            exact ⟨_, rfl, own_base HQ.out.2.1 HWB.out, HB2.out.1.trans (HQ.out.2.2.2.mono HWB.out)⟩
end Go.Proofs.YtkabdalnkmbloaaDoor
