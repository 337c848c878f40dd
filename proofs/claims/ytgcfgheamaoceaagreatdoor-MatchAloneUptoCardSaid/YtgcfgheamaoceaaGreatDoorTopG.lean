/- Layer 13: the iterator over the levels of a text. -/
import Derived.Test.YtgcfgheamaoceaaGreatDoorTopF
namespace Go.Proofs.YtgcfgheamaoceaaGreatDoor
open Go.RowKit Go.Shelf

attribute [local go_sem] Oper.semAt_some

/-- A level as the iterator hands it over. -/
abbrev Lvl := {b : ByteArray // b.size ≤ 1000}
def lvl (l : List UInt8) : Lvl := if h : l.length ≤ 1000 then ⟨⟨l.toArray⟩, by show l.toArray.size ≤ 1000; simpa using h⟩ else ⟨⟨#[]⟩, by decide⟩
def byt (x : Lvl) : List UInt8 := x.1.data.toList
theorem byt_lvl {l : List UInt8} (h : l.length ≤ 1000) : byt (lvl l) = l := by unfold byt lvl; rw [dif_pos h]
theorem lvl_str {b : ByteArray} (h : b.size ≤ 1000) : (lvl b.data.toList).1 = b := by
  unfold lvl; rw [dif_pos (by rw [← Lib.size_eq]; exact h)]
def itm : Nat → List (List UInt8) → List (Nat × Lvl)
  | _, [] => []
  | k, x :: r => (k, lvl x) :: itm (k + 1) r
theorem itm_app (k : Nat) (a b : List (List UInt8)) : itm k (a ++ b) = itm k a ++ itm (k + a.length) b := by
  induction a generalizing k with
  | nil => rfl
  | cons x r ih => simp only [List.cons_append, itm, ih, List.length_cons, Nat.add_assoc, Nat.add_comm 1]
theorem itm_len (k : Nat) (a : List (List UInt8)) : (itm k a).length = a.length := by
  induction a generalizing k with
  | nil => rfl
  | cons x r ih => simp [itm, ih]
theorem itm_byt (k : Nat) {a : List (List UInt8)} (h : ∀ x ∈ a, x.length ≤ 1000) : (itm k a).map (fun x => byt x.2) = a := by
  induction a generalizing k with
  | nil => rfl
  | cons x r ih => simp only [itm, List.map_cons]; rw [byt_lvl (h x (by simp)), ih (k + 1) fun y hy => h y (by simp [hy])]
theorem lv_short {s : ByteArray} (h : s.size ≤ 1000) : ∀ x ∈ lv s.data.toList, x.length ≤ 1000 := fun x hx => by
  have := joinL_len_le hx
  rw [joinL_lv, ← Lib.size_eq] at this
  omega
def encL (x : Nat × Lvl) : Array Value := #[.int .i64 x.1, .string x.2.1]
theorem cut_lv (t : ByteArray) (ht : t.size ≤ 1000) : ∃ x y : ByteArray, ∃ m : Bool, (∀ w : World, Calls Tryz.prog 90 #[.string t, .string ⟨#[47]⟩] w fun e w' => e = .returned (.tuple #[.string x, .string y, .bool m]) ∧ ∃ n, w.drewN n = w') ∧
    lv t.data.toList = x.data.toList :: (if m then lv y.data.toList else []) ∧ x.size ≤ 1000 ∧ y.size ≤ 1000 := by
  rcases slash_cut t.data.toList with h | ⟨x, y, he, hx⟩
  · exact ⟨t, ⟨#[]⟩, false, fun w => cut_no t w h, lv_plain h, ht, by decide⟩
  · have hl := congrArg List.length he
    rw [← Lib.size_eq, List.length_append, List.length_cons] at hl
    refine ⟨⟨x.toArray⟩, ⟨y.toArray⟩, true, fun w => cut_yes t ⟨x.toArray⟩ ⟨y.toArray⟩ he hx (by omega) w, by rw [he]; exact lv_cut hx y, ?_, ?_⟩
    · show x.toArray.size ≤ 1000; simp; omega
    · show y.toArray.size ≤ 1000; simp; omega
theorem take_step {α : Type} {L R : List α} {k : Nat} {x : α} (h : L = L.take k ++ x :: R) (hk : k < L.length) : L.take (k + 1) = L.take k ++ [x] ∧ L = L.take (k + 1) ++ R := by
  have hl : (L.take k).length = k := by rw [List.length_take]; omega
  have h1 : L[k]? = some x := by
    rw [h, List.getElem?_append_right (by omega), hl, Nat.sub_self]; rfl
  have h2 : L[k] = x := by rw [List.getElem?_eq_getElem hk] at h1; exact Option.some.inj h1
  have h3 : L.take (k + 1) = L.take k ++ [x] := by rw [List.take_succ_eq_append_getElem hk, h2]
  exact ⟨h3, by rw [h3, List.append_assoc]; exact h⟩
theorem itm_step {L : List (List UInt8)} {k : Nat} {x : List UInt8} (h : L.take (k + 1) = L.take k ++ [x]) (hk : k < L.length) : itm 0 (L.take (k + 1)) = itm 0 (L.take k) ++ [(k, lvl x)] := by
  rw [h, itm_app, List.length_take, show 0 + min k L.length = k by omega]; rfl
theorem itm_prefix (L : List (List UInt8)) (k : Nat) : itm 0 (L.take k) <+: itm 0 L := by
  conv => rhs; rw [← List.take_append_drop k L, itm_app]
  exact List.prefix_append _ _
/-- levels: what it is called on is boxed. -/
theorem levels_in (F : Fence) (n : Nat) (hf : F.fn 67) (hro : F.round = none) (s : ByteArray) (w : World) :
    CallsIn F n Tryz.prog 67 #[.string s] w fun en w' => en = .returned (.func (.func 89) #[] #[.pointer (some ⟨w.heap.size, 0, none⟩)]) ∧
      w.alloc (.cells #[.string s] 9) = w' := by
  refine callsIn_of_wp Tryz.func67 rfl hf ?_ hro
  simp only [Tryz.ntmps67, List.size_toArray, List.length_cons, List.length_nil, Nat.reduceAdd, Nat.reduceSub, Array.replicate_succ, Array.replicate_zero, List.push_toArray, List.append_toArray, List.nil_append, List.cons_append]
  gi_wp2
  go_ret
  exact ⟨by simp, rfl⟩
set_option maxRecDepth 100000 in
set_option maxHeartbeats 2000000 in
theorem levels1_in (n : Nat) (hn : 1 ≤ n) (l S : Nat) (s : ByteArray) (hs : s.size ≤ 1000) (J Jx : List (Nat × Lvl) → World → Prop)
    (hY : ∀ pre (x : Nat × Lvl) W, J pre W → pre.length < 1001 → YieldAt Fence.wide (n - 1) Tryz.prog l (encL x) W fun en W' =>
      (en = .returned (.bool true) ∧ J (pre ++ [x]) W' ∧ True) ∨ (en = .returned (.bool false) ∧ Jx (pre ++ [x]) W'))
    (W : World) (hJ : AbidesFrom W.heap.size J) (hS : W.cell? ⟨S, 0, none⟩ = some (.string s)) (h0 : J [] W) :
    CallsIn Fence.wide n Tryz.prog 89 #[.func (.yield l) #[] #[], .pointer (some ⟨S, 0, none⟩)] W fun en W' => (∃ v, en = .returned v) ∧
      ((∃ ys, ys = itm 0 (lv s.data.toList) ∧ J ys W') ∨ (∃ pre, pre <+: itm 0 (lv s.data.toList) ∧ Jx pre W')) := by
  refine callsIn_of_wp Tryz.func89 rfl trivial ?_ rfl
  simp only [Tryz.ntmps89, List.size_toArray, List.length_cons, List.length_nil, Nat.reduceAdd, Nat.reduceSub, Array.replicate_succ, Array.replicate_zero, List.push_toArray, List.append_toArray, List.nil_append, List.cons_append]
  obtain ⟨x, y, m, hC, hlv, hx, hy⟩ := cut_lv s hs
  have hll := lv_len_le s.data.toList
  rw [← Lib.size_eq] at hll
  obtain ⟨LS, hLS⟩ : ∃ LS, lv s.data.toList = LS := ⟨_, rfl⟩
  rw [hLS] at hlv hll
  rw [hLS]
  have HC := Lib.hid hC
  have HLV := Lib.hid hlv
  have hal : ∀ pre V k, J pre V → J pre (V.drewN k) := fun pre V k h => hJ _ V (V.drewN k) none h ⟨rfl, rfl, rfl, Nat.le_refl _, fun _ _ _ => rfl⟩ (fun _ e => by cases e)
  have HAL := Lib.hid hal
  have HY := Lib.hid hY
  clear hC hlv hLS hal hY hJ
  gi_wp2_with (refine ⟨trivial, ?_⟩; gi_at_call 90; refine (callsIn_wide.2 (HC.out _)).mono ?_; rintro en w2 ⟨rfl, q, rfl⟩)
  gi_loopw [3, 4, 5, 6, 13, 14, 15, 16, 17, 18, 19, 20, 21, 22, 23, 24, 25, 26, 27] (fun u v b c _ _ _ _ _ _ _ _ _ _ _ _ _ _ _ wr => ∃ (k : Nat) (x y : ByteArray) (m : Bool), u = .string x ∧ v = .string y ∧ b = .bool m ∧ c = .int .i64 k ∧ (LS = LS.take k ++ x.data.toList :: (if m then lv y.data.toList else []) ∧ k < LS.length) ∧ J (itm 0 (LS.take k)) wr ∧ x.size ≤ 1000 ∧ y.size ≤ 1000)
    (fun _ _ _ c _ _ _ _ _ _ _ _ _ _ _ _ _ _ _ _ => 1001 - (intOf c).toNat)
  case atStart => exact ⟨0, x, y, m, rfl, rfl, rfl, rfl, ⟨by rw [List.take_zero, List.nil_append]; exact HLV.out, by rw [HLV.out]; simp⟩, HAL.out _ _ _ h0, hx, hy⟩
  case round =>
    obtain ⟨k, x', y', m', rfl, rfl, rfl, rfl, hL, hJr, hx', hy'⟩ := hrel
    have hkl := hL.2
    have HL := Lib.hid hL
    have hpl := itm_len 0 (LS.take k)
    rw [List.length_take] at hpl
    obtain ⟨fn, tmps, assign, body, hyd, hR⟩ := HY.out _ (k, lvl x'.data.toList) wr hJr (by omega)
    simp only [encL, lvl_str hx'] at hyd
    clear hJr hpl
    obtain ⟨x2, y2, m2, hC2, hlv2, hx2, hy2⟩ := cut_lv y' hy'
    have HC2 := Lib.hid (And.intro hC2 hlv2)
    have hH := take_step hL.1 hkl
    have HT := Lib.hid (And.intro hH.1 (And.intro hH.2 (itm_step hH.1 hkl)))
    clear hL hC2 hlv2 hH
    have hk6 : k + 1 ≤ 1001 := by omega
    cases m' with
    | true =>
      gi_wp2
      refine hR.mono ?_
      rintro en W3 (⟨rfl, hJ3, -⟩ | ⟨rfl, hJx3⟩)
      · gi_wp2_with (refine ⟨trivial, ?_⟩; gi_at_call 90; refine (callsIn_wide.2 (HC2.out.1 _)).mono ?_; rintro en w5 ⟨rfl, q5, rfl⟩)
        go_roundw
        case rel =>
          have h1 := HT.out.2.1
          simp only [if_true] at h1
          rw [HC2.out.2] at h1
          refine ⟨k + 1, x2, y2, m2, rfl, rfl, rfl, by go_num, ⟨h1, ?_⟩, HAL.out _ _ _ (by rw [HT.out.2.2]; exact hJ3), hx2, hy2⟩
          have h2 := congrArg List.length h1
          rw [List.length_append, List.length_take, List.length_cons] at h2
          omega
        case measure => simp only [intOf]; go_num
      · gi_wp2
        go_end0
        exact ⟨⟨_, rfl⟩, .inr ⟨_, by rw [← HT.out.2.2]; exact itm_prefix _ _, hJx3⟩⟩
    | false =>
      gi_wp2
      refine hR.mono ?_
      rintro en W3 (⟨rfl, hJ3, -⟩ | ⟨rfl, hJx3⟩)
      · gi_wp2
        go_end0
        have h1 := HT.out.2.1
        simp only [Bool.false_eq_true, if_false, List.append_nil] at h1
        exact ⟨⟨_, rfl⟩, .inl ⟨_, by rw [← HT.out.2.2, ← h1], hJ3⟩⟩
      · gi_wp2
        go_end0
        exact ⟨⟨_, rfl⟩, .inr ⟨_, by rw [← HT.out.2.2]; exact itm_prefix _ _, hJx3⟩⟩
theorem levels_stops (n : Nat) (hn : 1 ≤ n) (S : Nat) (s : ByteArray) (hs : s.size ≤ 1000) (w : World) (hSw : S < w.heap.size) (hS : w.cell? ⟨S, 0, none⟩ = some (.string s)) :
    SeqStopsK Fence.wide n Tryz.prog 89 #[.pointer (some ⟨S, 0, none⟩)] encL (fun _ _ => True) (fun ys => ys = itm 0 (lv s.data.toList)) (fun pre => pre <+: itm 0 (lv s.data.toList)) 1001 w := fun l J Jx W hW hJ _ hY h0 =>
  levels1_in n hn l S s hs J Jx hY W hJ ((World.cell?_of_block (hW.block S hSw)).trans hS) h0
end Go.Proofs.YtgcfgheamaoceaaGreatDoor
