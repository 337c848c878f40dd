/- Layer 5: laid, of any kind; taken; Check and Size. -/
import Derived.Test.YtaceebgcaghocaaSlFl
import Derived.Test.YtaceebgcaghocaaSlFb
namespace Go.Proofs.Ytaceebgcaghocaa
open Go.RowKit

theorem laid_any (k : Int) (hw : (Lit.int .i64 k).wf = true) (w : World) (a : Option Addr) (L : List Cv) (cap : Nat) (hcap : L.length ≤ 1000) (hm : CellsAt w.heap.size w a L) :
    Calls Try.prog 18 #[.int .i64 k, .slice a L.length cap] w fun e w' => LaidC w k L e w' := by
  by_cases h2 : k = 2
  · subst h2; exact laid_leaf w a L cap hcap hm
  by_cases h3 : k = 3
  · subst h3
    by_cases hn : L = []
    · subst hn; exact laid_empty w a cap
    · exact laid_branch w a L cap hn hcap hm
  · exact laid_none k hw h2 h3 w a L cap
theorem handOf_len (leaf : Bool) (c : Cv) : (handOf leaf c).1.length ≤ 900 := by
  unfold handOf
  split
  · unfold leafHand
    have h1 := hText_len (r := ([], false)) (s := c.key) (lo := 1) (hi := 48) (by omega)
    simp only [List.length_nil] at h1
    split
    · have h2 := hTruth_len (r := hText ([], false) c.key 1 48) (b := true)
      have h3 := hNum_len (r := hTruth (hText ([], false) c.key 1 48) true) (n := c.page) (lo := 1) (hi := 4095)
      have h4 := hNum_len (r := hNum (hTruth (hText ([], false) c.key 1 48) true) c.page 1 4095) (n := c.size) (lo := 61) (hi := 4096)
      omega
    · have h2 := hTruth_len (r := hText ([], false) c.key 1 48) (b := false)
      have h3 := hText_len (r := hTruth (hText ([], false) c.key 1 48) false) (s := c.text) (lo := 0) (hi := 60) (by omega)
      omega
  · unfold branchHand
    have h1 := hText_len (r := ([], false)) (s := c.key) (lo := 0) (hi := 48) (by omega)
    simp only [List.length_nil] at h1
    have h3 := hNum_len (r := hText ([], false) c.key 0 48) (n := c.page) (lo := 1) (hi := 4095)
    omega
/-- From the slice's address on lie slices of these lengths. -/
def RunAt (w : World) (a : Option Addr) (ls : List (List UInt8)) : Prop := ls ≠ [] → ∃ g off, a = some ⟨g, off, none⟩ ∧ g < w.heap.size ∧ ∀ j, j < ls.length → ∃ a' c', w.cell? ⟨g, off + j, none⟩ = some (.slice a' (ls.getD j []).length c')
theorem OwnL.form {w : World} {base : Nat} {v : Value} {ls : List (List UInt8)} (h : OwnL w base v ls) : ∃ a cap, v = .slice a ls.length cap ∧ ls.length ≤ cap ∧ (a = none → cap = 0) ∧ (ls ≠ [] → ∃ g, a = some ⟨g, 0, none⟩ ∧ base ≤ g ∧ g < w.heap.size ∧ ∀ j, j < ls.length → ∃ u, w.cell? ⟨g, j, none⟩ = some u ∧ OwnB w base u (ls.getD j [])) := by
  obtain ⟨xs, ⟨hlen, ⟨rfl, h0⟩ | ⟨g, cap, cur, rfl, hg, hh, hn, hcap, hsz, htk⟩⟩, h2⟩ := h
  · have : ls = [] := List.eq_nil_of_length_eq_zero h0
    subst this
    exact ⟨none, 0, rfl, Nat.le_refl _, fun _ => rfl, fun h => absurd rfl h⟩
  · refine ⟨_, cap, rfl, hn, fun e => by (cases e), fun _ => ⟨g, rfl, hg, (Array.getElem?_eq_some_iff.1 hh).1, fun j hj => ⟨xs.getD j undef, ?_, h2 j hj⟩⟩⟩
    rw [cell_of_row w g _ _ _ _ hh]
    have h1 : (cur.toList.take (ls.length * 1))[j]? = some (xs.getD j undef) := by
      rw [htk, List.getD, List.getElem?_eq_getElem (show j < xs.length by omega)]; rfl
    rw [List.getElem?_take, if_pos (by omega), Array.getElem?_toList] at h1
    exact h1
theorem OwnL.run {w : World} {base : Nat} {v : Value} {ls : List (List UInt8)} (h : OwnL w base v ls) : ∃ a cap, v = .slice a ls.length cap ∧ RunAt w a ls ∧ ls.length ≤ cap := by
  obtain ⟨a, cap, rfl, hle, -, hr⟩ := h.form
  refine ⟨a, cap, rfl, fun hne => ?_, hle⟩
  obtain ⟨g, rfl, -, hg, hc⟩ := hr hne
  refine ⟨g, 0, rfl, hg, fun j hj => ?_⟩
  obtain ⟨u, h1, h2⟩ := hc j hj
  obtain ⟨a', c', rfl, -⟩ := h2.form
  exact ⟨a', c', by rw [Nat.zero_add]; exact h1⟩
def takenN (ls : List (List UInt8)) : Nat := (ls.map fun l => 2 + l.length).sum
theorem takenN_snoc (ls : List (List UInt8)) (k : Nat) (h : k < ls.length) : takenN (ls.take (k + 1)) = takenN (ls.take k) + (2 + (ls.getD k []).length) := by
  unfold takenN
  rw [List.take_add_one, List.getElem?_eq_getElem h, List.map_append, List.sum_append]
  simp [List.getD, h]
theorem takenN_le (ls : List (List UInt8)) (h : ∀ l ∈ ls, l.length ≤ 900) : takenN ls ≤ ls.length * 902 := by
  induction ls with
  | nil => simp [takenN]
  | cons l ls ih =>
    have h1 := ih fun x hx => h x (by simp [hx])
    have h2 := h l (by simp)
    have e : takenN (l :: ls) = 2 + l.length + takenN ls := by simp [takenN]
    rw [e, List.length_cons]; omega
theorem bytesOf_le (leaf : Bool) (L : List Cv) : ∀ l ∈ bytesOf leaf L, l.length ≤ 900 := fun l hl => by
  obtain ⟨c, -, rfl⟩ := List.mem_map.1 hl
  exact handOf_len leaf c
theorem bytesOf_len (leaf : Bool) (L : List Cv) : (bytesOf leaf L).length = L.length := by unfold bytesOf; rw [List.length_map]
set_option maxRecDepth 100000 in
set_option maxHeartbeats 1000000 in
theorem taken_any (ls : List (List UInt8)) (a : Option Addr) (cap : Nat) (w : World) (hm : RunAt w a ls) (hn : ls.length ≤ 1000) (hl : ∀ l ∈ ls, l.length ≤ 900) :
    Calls Try.prog 19 #[.slice a ls.length cap] w fun e w' => e = .returned (.int .i64 (takenN ls : Nat)) ∧ w = w' := by
  have HM := Lib.hid hm
  have HL := Lib.hid hl
  clear hm hl
  go_enter Try.func19, Try.ntmps19
  go_wp2
  go_loopw [3, 4, 7, 8, 9, 10, 11, 12, 13, 14, 15, 16, 17, 18] (fun s _ y _ _ _ _ _ _ _ _ _ _ _ wr => wr = w ∧ ∃ k : Nat, y = .int .i64 k ∧ k ≤ ls.length ∧ s = .int .i64 (takenN (ls.take k) : Nat)) (fun _ _ y _ _ _ _ _ _ _ _ _ _ _ _ => ls.length - (intOf y).toNat)
  case atStart => exact ⟨rfl, 0, rfl, Nat.zero_le _, by simp [takenN]⟩
  case round =>
    obtain ⟨rfl, k, rfl, hk, rfl⟩ := hrel
    by_cases hlt : k < ls.length
    · have hkL : (k : Int) < (ls.length : Int) := by omega
      obtain ⟨g, off, rfl, hg, hc⟩ := HM.out (by rintro rfl; simp at hlt)
      obtain ⟨a', c', hcell⟩ := hc k hlt
      have hsn := takenN_snoc ls k hlt
      have h900 : (ls.getD k []).length ≤ 900 := HL.out _ (by simp [List.getD, hlt])
      have hle := takenN_le (ls.take k) (fun l hl => HL.out l (List.mem_of_mem_take hl))
      rw [List.length_take] at hle
      obtain ⟨m, hm⟩ : ∃ m, (ls.getD k []).length = m := ⟨_, rfl⟩
      obtain ⟨s, hs⟩ : ∃ s, takenN (ls.take k) = s := ⟨_, rfl⟩
      rw [hm] at hcell hsn h900
      rw [hs] at hsn hle ⊢
      have hs2 : s ≤ 1000000 := by have : min k ls.length ≤ 1000 := by omega
                                   omega
      have HS := Lib.hid hsn
      clear hc hm hs hsn hle
      go_wp2
      exact ⟨⟨trivial, k + 1, by go_num, hlt, by rw [HS.out]; go_num⟩, by simp only [intOf]; omega⟩
    · obtain rfl : k = ls.length := by omega
      have hkL : ¬ ((ls.length : Int) < (ls.length : Int)) := by omega
      rw [List.take_length]
      obtain ⟨s, hs⟩ : ∃ s, takenN ls = s := ⟨_, rfl⟩
      rw [hs]
      go_wp2
      go_ret
      subst hs
      exact ⟨rfl, rfl⟩
def CheckC (w : World) (k : Int) (L : List Cv) (e : Ending) (w' : World) : Prop := Below w.heap.size w w' ∧ ((RightC k L ∧ e = .returned (.int .i64 0)) ∨ (¬ RightC k L ∧ e = .returned (.int .i64 2)))
set_option maxRecDepth 100000 in
set_option maxHeartbeats 1000000 in
theorem checkC_any (k : Int) (hw : (Lit.int .i64 k).wf = true) (w : World) (a : Option Addr) (L : List Cv) (cap : Nat) (hcap : L.length ≤ 1000) (hm : CellsAt w.heap.size w a L) :
    Calls Try.prog 31 #[.int .i64 k, .slice a L.length cap] w fun e w' => CheckC w k L e w' := by
  have HC := Lib.hid (laid_any k hw w a L cap hcap hm)
  clear hm
  go_enter Try.func31, Try.ntmps31
  go_wp2_with fail
  refine HC.out.mono ?_
  rintro e w1 ⟨hb, ⟨hr, v, rfl, -⟩ | ⟨hr, rfl⟩⟩
  · have H := Lib.hid (And.intro hb hr)
    clear hb hr HC
    go_wp2
    go_ret
    exact ⟨H.out.1, .inl ⟨H.out.2, rfl⟩⟩
  · have H := Lib.hid (And.intro hb hr)
    clear hb hr HC
    go_wp2
    go_ret
    exact ⟨H.out.1, .inr ⟨H.out.2, rfl⟩⟩
def SizeC (w : World) (k : Int) (L : List Cv) (e : Ending) (w' : World) : Prop := Below w.heap.size w w' ∧ ((RightC k L ∧ e = .returned (.tuple #[.int .i64 (2 + takenN (bytesOf (k == 2) L) : Nat), .int .i64 0])) ∨ (¬ RightC k L ∧ e = .returned (.tuple #[.int .i64 0, .int .i64 2])))
set_option maxRecDepth 100000 in
set_option maxHeartbeats 1000000 in
theorem sizeC_any (k : Int) (hw : (Lit.int .i64 k).wf = true) (w : World) (a : Option Addr) (L : List Cv) (cap : Nat) (hcap : L.length ≤ 1000) (hm : CellsAt w.heap.size w a L) :
    Calls Try.prog 9 #[.int .i64 k, .slice a L.length cap] w fun e w' => SizeC w k L e w' := by
  have HC := Lib.hid (laid_any k hw w a L cap hcap hm)
  clear hm
  go_enter Try.func9, Try.ntmps9
  go_wp2_with fail
  refine HC.out.mono ?_
  rintro e w1 ⟨hb, ⟨hr, v, rfl, hO⟩ | ⟨hr, rfl⟩⟩
  · obtain ⟨a1, c1, rfl, hR, -⟩ := hO.run
    have hT := taken_any (bytesOf (k == 2) L) a1 c1 w1 hR (by rw [bytesOf_len]; exact hcap) (bytesOf_le _ _)
    have hle := takenN_le (bytesOf (k == 2) L) (bytesOf_le _ _)
    rw [bytesOf_len] at hT hle ⊢
    obtain ⟨t, ht⟩ : ∃ t, takenN (bytesOf (k == 2) L) = t := ⟨_, rfl⟩
    rw [ht] at hT hle
    have H := Lib.hid (And.intro hb (And.intro hr (And.intro hT ht)))
    clear hb hr HC hR hT ht hO
    go_wp2_with fail
    refine H.out.2.2.1.mono ?_
    rintro e w2 ⟨rfl, rfl⟩
    have ht2 : t ≤ 1000000 := by omega
    go_wp2
    go_ret2
    exact ⟨H.out.1, .inl ⟨H.out.2.1, by rw [H.out.2.2.2]; rfl⟩⟩
  · have H := Lib.hid (And.intro hb hr)
    clear hb hr HC
    go_wp2
    go_ret2
    exact ⟨H.out.1, .inr ⟨H.out.2, rfl⟩⟩
end Go.Proofs.Ytaceebgcaghocaa
