/- Texts of the proof in one file, in build order: MatKK, MatLL, MatOO, MatPP. -/
import Derived.Test.YtgcfgheamaoceaaGreatDoorP3
import Derived.Test.YtgcfgheamaoceaaGreatDoorP6
import Derived.Test.YtgcfgheamaoceaaGreatDoorP5
import Derived.Laws.OwnMore
import Derived.Maps.AppendAt
import Derived.Test.YtgcfgheamaoceaaGreatDoorTopU
/- Layer 14: the document's Client, ahead; where an entry stands in a list. -/
namespace Go.Proofs.YtgcfgheamaoceaaGreatDoor
open Go.RowKit Go.MapKept Go.ChangeMaps Go.Maps

/-- Before which place, and is one of its key there? -/
def fnd (s : Sb) : List Sb → Nat × Bool
  | [] => (0, false)
  | x :: r => if ahd x s then ((fnd s r).1 + 1, (fnd s r).2) else (0, decide (sameK x s))
theorem fnd_le (s : Sb) : ∀ g : List Sb, (fnd s g).1 ≤ g.length
  | [] => Nat.le_refl _
  | x :: r => by
    unfold fnd
    split
    · have := fnd_le s r
      simp only [List.length_cons]
      omega
    · exact Nat.zero_le _
/-- A new list of what is before, it, and what is behind. -/
theorem insG_fnd (s : Sb) : ∀ g : List Sb, insG s g = g.take (fnd s g).1 ++ (s :: g.drop ((fnd s g).1 + if (fnd s g).2 then 1 else 0))
  | [] => rfl
  | x :: r => by
    unfold insG fnd
    by_cases h : ahd x s
    · rw [if_pos h, if_pos h, insG_fnd s r]
      show x :: (_ ++ _) = x :: (_ ++ _)
      rw [show (fnd s r).1 + 1 + (if (fnd s r).2 then 1 else 0) = ((fnd s r).1 + if (fnd s r).2 then 1 else 0) + 1 by omega]
      rfl
    · rw [if_neg h, if_neg h]
      by_cases k : sameK x s
      · rw [if_pos k]
        simp [k]
      · rw [if_neg k]
        simp [k]
/-- In a list in order it is there, if it is there where it would stand. -/
theorem hasK_fnd (s : Sb) : ∀ g : List Sb, Rise g → hasK s g = (fnd s g).2
  | [], _ => rfl
  | x :: r, h => by
    have hx := (List.pairwise_cons.1 h).1
    have hr := hasK_fnd s r (List.pairwise_cons.1 h).2
    have e : hasK s (x :: r) = (decide (sameK x s) || hasK s r) := rfl
    rw [e]
    unfold fnd
    by_cases ha : ahd x s
    · rw [if_pos ha, hr]
      have : ¬ sameK x s := fun k => ahd_irr k ha
      simp [this]
    · rw [if_neg ha]
      by_cases k : sameK x s
      · simp [k]
      · have : hasK s r = false := by
          rw [Bool.eq_false_iff]
          intro h1
          obtain ⟨y, hy, k1⟩ := hasK_iff.1 h1
          exact ha (ahd_same (hx y hy) k1)
        simp [k, this]
/-- What stands ahead of it, what at its place. -/
theorem fnd_ahd (s : Sb) : ∀ (g : List Sb) (i : Nat) (x : Sb), g[i]? = some x → i < (fnd s g).1 → ahd x s
  | [], i, x, h, _ => by cases h
  | y :: r, i, x, h, hi => by
    unfold fnd at hi
    by_cases ha : ahd y s
    · rw [if_pos ha] at hi
      match i, h with
      | 0, h => cases h; exact ha
      | i + 1, h => exact fnd_ahd s r i x h (by simpa using hi)
    · rw [if_neg ha] at hi
      exact absurd hi (Nat.not_lt_zero _)
theorem fnd_at (s : Sb) : ∀ (g : List Sb) (x : Sb), g[(fnd s g).1]? = some x → ¬ ahd x s ∧ (fnd s g).2 = decide (sameK x s)
  | [], x, h => by cases h
  | y :: r, x, h => by
    unfold fnd at h ⊢
    by_cases ha : ahd y s
    · rw [if_pos ha] at h ⊢
      exact fnd_at s r x h
    · rw [if_neg ha] at h ⊢
      cases h
      exact ⟨ha, rfl⟩
theorem fnd_end (s : Sb) : ∀ g : List Sb, g[(fnd s g).1]? = none → (fnd s g).2 = false
  | [], _ => rfl
  | y :: r, h => by
    unfold fnd at h ⊢
    by_cases ha : ahd y s
    · rw [if_pos ha] at h ⊢
      exact fnd_end s r h
    · rw [if_neg ha] at h
      cases h
/-- The model's order of texts is the lists'. -/
theorem less_iff : ∀ a b : List UInt8, Op.bytesLess a b = decide (a < b)
  | a, [] => by simp [Op.bytesLess]
  | [], b :: y => by simp [Op.bytesLess]
  | a :: x, b :: y => by
    have h := less_iff x y
    unfold Op.bytesLess
    rw [h, show (a == b) = decide (a = b) by by_cases k : a = b <;> simp [k]]
    simp [List.cons_lt_cons_iff]
set_option maxRecDepth 100000 in
theorem rclient_any (w : World) (c : ByteArray) (hc : c.size ≤ 1000000) : Calls Tryz.prog 59 #[.string c] w fun e w' => e = .returned (.bool (cliL c.data.toList)) ∧ w = w' := by
  have e : cliL c.data.toList = (decide (0 < c.size) && decide (c.size ≤ 23)) := by
    rw [Lib.size_eq]
    unfold cliL
    cases c.data.toList <;> simp
  have hw1 : IntKind.i64.wrap ((c.size : Nat) : Int) = c.size := by rw [IntKind.wrap_i64]; omega
  rw [e]
  clear e
  obtain ⟨n, hn⟩ : ∃ n, c.size = n := ⟨_, rfl⟩
  have hcl : c.size = n := hn
  rw [hn] at hw1 ⊢
  by_cases h0 : 0 < n
  · have h1 : (1 : Int) ≤ (n : Int) := by omega
    by_cases h2 : n ≤ 23
    · have h3 : (n : Int) ≤ 23 := by omega
      rw [decide_eq_true h0, decide_eq_true h2]
      go_enter Tryz.func59, Tryz.ntmps59
      go_wp2
      go_ret
      exact ⟨rfl, rfl⟩
    · have h3 : ¬ (n : Int) ≤ 23 := by omega
      rw [decide_eq_true h0, decide_eq_false h2]
      go_enter Tryz.func59, Tryz.ntmps59
      go_wp2
      go_ret
      exact ⟨rfl, rfl⟩
  · have h1 : ¬ (1 : Int) ≤ (n : Int) := by omega
    rw [decide_eq_false h0]
    go_enter Tryz.func59, Tryz.ntmps59
    go_wp2
    go_ret
    exact ⟨rfl, rfl⟩
def enOf (s : Sb) : En := ⟨str s.f, str s.c, s.q⟩
theorem ahd_dec (x : Sb) (f c : ByteArray) : decide (ahd x ⟨f.data.toList, c.data.toList, 0⟩) = (Op.bytesLess (str x.f).toList f.toList || (decide ((str x.f).toList = f.toList) && Op.bytesLess (str x.c).toList c.toList)) := by
  rw [less_iff, less_iff, ByteArray.toList_eq, ByteArray.toList_eq, ByteArray.toList_eq, ByteArray.toList_eq, str_toList, str_toList, Bool.eq_iff_iff, decide_eq_true_iff]
  simp [ahd]
set_option maxRecDepth 100000 in
theorem rahead_any (w : World) (x : Sb) (f c : ByteArray) (p q : Int) : Calls Tryz.prog 85 #[.agg #[.string (str x.f), .string (str x.c), .int .i64 p], .agg #[.string f, .string c, .int .i64 q]] w fun e w' => e = .returned (.bool (decide (ahd x ⟨f.data.toList, c.data.toList, 0⟩))) ∧ Below w.heap.size w w' := by
  obtain ⟨d, hd⟩ : ∃ d, decide (ahd x ⟨f.data.toList, c.data.toList, 0⟩) = d := ⟨_, rfl⟩
  rw [hd]
  have HD := Lib.hid (show d = (Op.bytesLess (str x.f).toList f.toList || (decide ((str x.f).toList = f.toList) && Op.bytesLess (str x.c).toList c.toList)) from by rw [← hd]; exact ahd_dec x f c)
  clear hd
  have HB := Lib.hid (((Below.refl w.heap.size w).alloc (Nat.le_refl _) (.cells #[.string (str x.f), .string (str x.c), .int .i64 p] 31)).alloc (by simp) (.cells #[.string f, .string c, .int .i64 q] 31))
  go_enter Tryz.func85, Tryz.ntmps85
  go_wp2
  · go_ret
    refine ⟨?_, HB.out⟩
    rename_i h1
    have hd := HD.out
    rw [h1] at hd
    rw [hd]
    rfl
  · go_ret
    refine ⟨?_, HB.out⟩
    rename_i h1 h2
    have hd := HD.out
    rw [h1, decide_eq_true h2] at hd
    rw [hd]
    rfl
  · go_ret
    refine ⟨?_, HB.out⟩
    rename_i h1 h2
    have hd := HD.out
    rw [h1, decide_eq_false h2] at hd
    rw [hd]
    rfl
end Go.Proofs.YtgcfgheamaoceaaGreatDoor
/- Layer 14: the document's Find (its drawn region's text: wip/tools/mkmatll.py). -/
namespace Go.Proofs.YtgcfgheamaoceaaGreatDoor
open Go.RowKit Go.MapKept Go.ChangeMaps Go.Maps

def FiV (b : Bool) (a : Option Addr) (B o n cap i : Nat) (x : Sb) (f c : ByteArray) : Nat → Value → World → Prop
  | 0, v, _ => v = .int .i64 (i : Int)
  | 1, v, _ => v = .int .i64 (i : Int)
  | 2, v, _ => v = .slice a n cap
  | 3, v, _ => v = .int .i64 (n : Int)
  | 4, v, _ => v = .bool (b)
  | 5, v, _ => v = .bool (b)
  | 6, v, _ => ((b)) = true → v = .slice a n cap
  | 7, v, _ => ((b)) = true → v = .int .i64 (i : Int)
  | 8, v, _ => ((b)) = true → v = .pointer (some ⟨B, o + i * 3, none⟩)
  | 9, v, _ => ((b)) = true → v = .pointer (some ⟨B, o + i * 3, none⟩)
  | 10, v, _ => ((b)) = true → v = .string (str x.f)
  | 11, v, _ => ((b)) = true → v = .string f
  | 12, v, _ => ((b)) = true → v = .bool ((str x.f).toList == f.toList)
  | 13, v, _ => v = .bool (b && ((str x.f).toList == f.toList))
  | 14, v, _ => v = .bool (b && ((str x.f).toList == f.toList))
  | 15, v, _ => ((b && ((str x.f).toList == f.toList))) = true → v = .slice a n cap
  | 16, v, _ => ((b && ((str x.f).toList == f.toList))) = true → v = .int .i64 (i : Int)
  | 17, v, _ => ((b && ((str x.f).toList == f.toList))) = true → v = .pointer (some ⟨B, o + i * 3, none⟩)
  | 18, v, _ => ((b && ((str x.f).toList == f.toList))) = true → v = .pointer (some ⟨B, o + i * 3 + 1, none⟩)
  | 19, v, _ => ((b && ((str x.f).toList == f.toList))) = true → v = .string (str x.c)
  | 20, v, _ => ((b && ((str x.f).toList == f.toList))) = true → v = .string c
  | 21, v, _ => ((b && ((str x.f).toList == f.toList))) = true → v = .bool ((str x.c).toList == c.toList)
  | 22, v, _ => v = .bool ((b && ((str x.f).toList == f.toList)) && ((str x.c).toList == c.toList))
  | 23, v, _ => v = .int .i64 (i : Int)
  | 24, v, _ => v = .bool ((b && ((str x.f).toList == f.toList)) && ((str x.c).toList == c.toList))
  | _, _, _ => True
set_option maxRecDepth 100000 in
set_option maxHeartbeats 4000000 in
/-- Where an entry would stand, and does it? -/
theorem find_any (w : World) (a : Option Addr) (g : List Sb) (cap : Nat) (h : EnsAt w a (g.map enOf)) (f c : ByteArray) (hg : g.length ≤ 5000) :
    Calls Tryz.prog 60 #[.slice a g.length cap, .string f, .string c] w fun e w' => e = .returned (.tuple #[.int .i64 ((fnd ⟨f.data.toList, c.data.toList, 0⟩ g).1 : Int), .bool (fnd ⟨f.data.toList, c.data.toList, 0⟩ g).2]) ∧ Below w.heap.size w w' := by
  obtain ⟨s, hs⟩ : ∃ s : Sb, s = ⟨f.data.toList, c.data.toList, 0⟩ := ⟨_, rfl⟩
  obtain ⟨n, hn⟩ : ∃ n, g.length = n := ⟨_, rfl⟩
  have hfl := fnd_le s g
  rw [← hs]
  rw [hn] at hg hfl ⊢
  have HA := Lib.hid (And.intro h (And.intro hn hs))
  clear h hn hs
  go_enter Tryz.func60, Tryz.ntmps60
  go_wp2
  go_loopw [8, 9, 10, 11, 12, 13, 14, 15, 16, 17, 18, 19, 20, 21, 22, 23, 24] (fun x _ _ _ _ _ _ _ _ _ _ _ _ _ _ _ _ wr => ∃ m : Nat, x = .int .i64 m ∧ m ≤ (fnd s g).1 ∧ Below w.heap.size w wr) (fun x _ _ _ _ _ _ _ _ _ _ _ _ _ _ _ _ _ => n - (intOf x).toNat)
  case atStart => exact ⟨0, rfl, Nat.zero_le _, Below.refl _ _⟩
  case round =>
    obtain ⟨m, rfl, hi, hb⟩ := hrel
    obtain ⟨h, hn, hs⟩ := HA.out
    rcases Nat.lt_or_ge m n with hin | hin
    · have hlt : (m : Int) < (n : Int) := by omega
      have hwi : IntKind.i64.wrap ((m : Int) + 1) = (m : Int) + 1 := by rw [IntKind.wrap_i64]; omega
      obtain ⟨x, hx⟩ : ∃ x, g[m]? = some x := ⟨_, List.getElem?_eq_getElem (by omega)⟩
      obtain ⟨B, o, rfl, hB, k0, k1, k2⟩ := (h.below hb) m (enOf x) (by rw [List.getElem?_map, hx]; rfl)
      have hix := index_en wr B o n cap m hin
      have c0 : wr.cell? ⟨B, o + m * 3, none⟩ = some (.string (str x.f)) := k0
      have c1 : wr.cell? ⟨B, o + m * 3 + 1, none⟩ = some (.string (str x.c)) := k1
      have c2 : wr.cell? ⟨B, o + m * 3 + 2, none⟩ = some (.int .i64 (x.q : Int)) := k2
      have hah := rahead_any wr x f c x.q 0
      have hat : (fnd s g).1 = m → (fnd s g).2 = (((str x.f).toList == f.toList) && ((str x.c).toList == c.toList)) := fun e => by
        rw [(fnd_at s g x (by rw [e]; exact hx)).2, hs, ByteArray.toList_eq, ByteArray.toList_eq, ByteArray.toList_eq, ByteArray.toList_eq, str_toList, str_toList, Bool.eq_iff_iff, decide_eq_true_iff]
        simp [sameK]
      have hno : ahd x s → (fnd s g).1 ≠ m := fun ha e => (fnd_at s g x (by rw [e]; exact hx)).1 ha
      have hye : ¬ ahd x s → (fnd s g).1 = m := fun ha => by
        rcases Nat.lt_or_ge m (fnd s g).1 with h1 | h1
        · exact absurd (fnd_ahd s g m x hx h1) ha
        · omega
      rw [← hs] at hah
      by_cases ha : ahd x s
      · rw [decide_eq_true ha] at hah
        have HD := Lib.hid hah
        have HB := Lib.hid hb
        have h1 := hno ha
        have h2 : m + 1 ≤ (fnd s g).1 := by omega
        clear h hb hah hat hno hye ha hn hs k0 k1 k2
        go_wp2_with (go_at_call 85; refine HD.out.mono ?_; rintro e w2 ⟨rfl, hb2⟩; have HB2 := Lib.hid hb2; clear hb2)
        exact ⟨⟨m + 1, rfl, h2, HB.out.trans (HB2.out.mono HB.out.size)⟩, by show n - ((m : Int) + 1).toNat < n - (m : Int).toNat; omega⟩
      · rw [decide_eq_false ha] at hah
        have HD := Lib.hid hah
        have HB := Lib.hid hb
        have he := hye ha
        have HE := Lib.hid (hat he)
        have HC := Lib.hid (And.intro c0 (And.intro c1 hB))
        clear h hb hah hat hno hye ha hn hs k0 k1 k2 hB
        go_wp2_with (go_at_call 85; refine HD.out.mono ?_; rintro e w2 ⟨rfl, hb2⟩; have HB2 := Lib.hid hb2; clear hb2)
        obtain ⟨c0, c1, hB⟩ := HC.out
        have c0 : w2.cell? ⟨B, o + m * 3, none⟩ = some (.string (str x.f)) := (HB2.out.cell (p := ⟨B, o + m * 3, none⟩) hB).trans c0
        have c1 : w2.cell? ⟨B, o + m * 3 + 1, none⟩ = some (.string (str x.c)) := (HB2.out.cell (p := ⟨B, o + m * 3 + 1, none⟩) hB).trans c1
        refine wp_region_m (fun _ W => W = w2.drew) (FiV true (some ⟨B, o, none⟩) B o n cap m x f c) (by kernel_rfl) (by kernel_rfl) (by kernel_rfl) (by kernel_rfl) rfl ?step ?fin
        case step =>
          intro i o ho listed a w' hI hn' hpre
          have hJ := hI.inv
          have hi : i < 25 := (Array.getElem?_eq_some_iff.1 ho).1
          match i, hi with
          | 0, _ =>
            cases ho
            exact wpOp_move rfl rfl (.inl rfl) (hI.kept (t := 8) (by kernel_rfl)) ⟨_, rfl, hJ, fun _ => rfl, fun _ _ _ h => h⟩
          | 1, _ =>
            cases ho
            exact wpOp_move rfl rfl (.inl rfl) (hI.kept (t := 8) (by kernel_rfl)) ⟨_, rfl, hJ, fun _ => rfl, fun _ _ _ h => h⟩
          | 2, _ =>
            cases ho
            exact wpOp_move rfl rfl (.inl rfl) (hI.kept (t := 0) (by kernel_rfl)) ⟨_, rfl, hJ, fun _ => rfl, fun _ _ _ h => h⟩
          | 3, _ =>
            cases ho
            exact wpOp_lenSb rfl rfl rfl (hI.slot 2 27 rfl (hpre ⟨2, .data⟩ (by simp) rfl) rfl) ⟨_, rfl, hJ, fun _ => rfl, fun _ _ _ h => h⟩
          | 4, _ =>
            cases ho
            exact wpOp_bin rfl rfl rfl (hI.slot 1 26 rfl (hpre ⟨1, .data⟩ (by simp) rfl) rfl) (hI.slot 3 28 rfl (hpre ⟨3, .data⟩ (by simp) rfl) rfl) (by simp [go_sem]) (by simp [go_sem, hlt]) ⟨_, rfl, hJ, fun _ => rfl, fun _ _ _ h => h⟩
          | 5, _ =>
            cases ho
            exact wpOp_move rfl rfl (.inl rfl) (hI.slot 4 29 rfl (hpre ⟨4, .data⟩ (by simp) rfl) rfl) ⟨_, rfl, hJ, fun _ => rfl, fun _ _ _ h => h⟩
          | 6, _ =>
            cases ho
            have eg := (hI.slot 5 30 rfl (hpre ⟨5, .guard⟩ (by simp) rfl) rfl)
            by_cases hg : ((true)) = true
            case neg =>
              exact wpOp_off rfl (wantedOff (j := 5) (b := true) (b' := (true)) rfl rfl rfl (by rw [hI.len]; show _ < 48; decide) eg hg) ⟨_, rfl, hJ, fun _ h => absurd h hg, fun _ _ _ h => h⟩
            exact wpOp_move rfl (wantedOf (j := 5) (b := true) rfl rfl rfl (by rw [hI.len]; show _ < 48; decide) (eg.trans (congrArg Value.bool hg))) (.inl rfl) (hI.kept (t := 0) (by kernel_rfl)) ⟨_, rfl, hJ, fun _ _ => rfl, fun _ _ _ h => h⟩
          | 7, _ =>
            cases ho
            have eg := (hI.slot 5 30 rfl (hpre ⟨5, .guard⟩ (by simp) rfl) rfl)
            by_cases hg : ((true)) = true
            case neg =>
              exact wpOp_off rfl (wantedOff (j := 5) (b := true) (b' := (true)) rfl rfl rfl (by rw [hI.len]; show _ < 48; decide) eg hg) ⟨_, rfl, hJ, fun _ h => absurd h hg, fun _ _ _ h => h⟩
            exact wpOp_move rfl (wantedOf (j := 5) (b := true) rfl rfl rfl (by rw [hI.len]; show _ < 48; decide) (eg.trans (congrArg Value.bool hg))) (.inl rfl) (hI.kept (t := 8) (by kernel_rfl)) ⟨_, rfl, hJ, fun _ _ => rfl, fun _ _ _ h => h⟩
          | 8, _ =>
            cases ho
            have eg := (hI.slot 5 30 rfl (hpre ⟨5, .guard⟩ (by simp) rfl) rfl)
            by_cases hg : ((true)) = true
            case neg =>
              exact wpOp_off rfl (wantedOff (j := 5) (b := true) (b' := (true)) rfl rfl rfl (by rw [hI.len]; show _ < 48; decide) eg hg) ⟨_, rfl, hJ, fun _ h => absurd h hg, fun _ _ _ h => h⟩
            exact wpOp_index rfl (wantedOf (j := 5) (b := true) rfl rfl rfl (by rw [hI.len]; show _ < 48; decide) (eg.trans (congrArg Value.bool hg))) rfl ((hI.slot 6 31 rfl (hpre ⟨6, .data⟩ (by simp) rfl) rfl) hg) ((hI.slot 7 32 rfl (hpre ⟨7, .data⟩ (by simp) rfl) rfl) hg) (index_en w' B o n cap m hin) ⟨_, rfl, hJ, fun _ _ => rfl, fun _ _ _ h => h⟩
          | 9, _ =>
            cases ho
            have eg := (hI.slot 5 30 rfl (hpre ⟨5, .guard⟩ (by simp) rfl) rfl)
            by_cases hg : ((true)) = true
            case neg =>
              exact wpOp_off rfl (wantedOff (j := 5) (b := true) (b' := (true)) rfl rfl rfl (by rw [hI.len]; show _ < 48; decide) eg hg) ⟨_, rfl, hJ, fun _ h => absurd h hg, fun _ _ _ h => h⟩
            exact wpOp_field rfl (wantedOf (j := 5) (b := true) rfl rfl rfl (by rw [hI.len]; show _ < 48; decide) (eg.trans (congrArg Value.bool hg))) rfl ((hI.slot 8 33 rfl (hpre ⟨8, .data⟩ (by simp) rfl) rfl) hg) (by simp [go_sem]) ⟨_, rfl, hJ, fun _ _ => rfl, fun _ _ _ h => h⟩
          | 10, _ =>
            cases ho
            have eg := (hI.slot 5 30 rfl (hpre ⟨5, .guard⟩ (by simp) rfl) rfl)
            by_cases hg : ((true)) = true
            case neg =>
              exact wpOp_off rfl (wantedOff (j := 5) (b := true) (b' := (true)) rfl rfl rfl (by rw [hI.len]; show _ < 48; decide) eg hg) ⟨_, rfl, hJ, fun _ h => absurd h hg, fun _ _ _ h => h⟩
            exact wpOp_load rfl (wantedOf (j := 5) (b := true) rfl rfl rfl (by rw [hI.len]; show _ < 48; decide) (eg.trans (congrArg Value.bool hg))) rfl ((hI.slot 9 34 rfl (hpre ⟨9, .data⟩ (by simp) rfl) rfl) hg) (load_c (Tryz.isAgg9 w') (show w'.cell? _ = _ from by rw [hJ]; exact c0)) ⟨_, rfl, hJ, fun _ _ => rfl, fun _ _ _ h => h⟩
          | 11, _ =>
            cases ho
            have eg := (hI.slot 5 30 rfl (hpre ⟨5, .guard⟩ (by simp) rfl) rfl)
            by_cases hg : ((true)) = true
            case neg =>
              exact wpOp_off rfl (wantedOff (j := 5) (b := true) (b' := (true)) rfl rfl rfl (by rw [hI.len]; show _ < 48; decide) eg hg) ⟨_, rfl, hJ, fun _ h => absurd h hg, fun _ _ _ h => h⟩
            exact wpOp_move rfl (wantedOf (j := 5) (b := true) rfl rfl rfl (by rw [hI.len]; show _ < 48; decide) (eg.trans (congrArg Value.bool hg))) (.inl rfl) (hI.kept (t := 1) (by kernel_rfl)) ⟨_, rfl, hJ, fun _ _ => rfl, fun _ _ _ h => h⟩
          | 12, _ =>
            cases ho
            have eg := (hI.slot 5 30 rfl (hpre ⟨5, .guard⟩ (by simp) rfl) rfl)
            by_cases hg : ((true)) = true
            case neg =>
              exact wpOp_off rfl (wantedOff (j := 5) (b := true) (b' := (true)) rfl rfl rfl (by rw [hI.len]; show _ < 48; decide) eg hg) ⟨_, rfl, hJ, fun _ h => absurd h hg, fun _ _ _ h => h⟩
            exact wpOp_bin rfl (wantedOf (j := 5) (b := true) rfl rfl rfl (by rw [hI.len]; show _ < 48; decide) (eg.trans (congrArg Value.bool hg))) rfl ((hI.slot 10 35 rfl (hpre ⟨10, .data⟩ (by simp) rfl) rfl) hg) ((hI.slot 11 36 rfl (hpre ⟨11, .data⟩ (by simp) rfl) rfl) hg) (by simp [go_sem]) (by simp [go_sem]) ⟨_, rfl, hJ, fun _ _ => rfl, fun _ _ _ h => h⟩
          | 13, _ =>
            cases ho
            exact wpOp_pick3 (v := .bool (((str x.f).toList == f.toList))) (u := .bool false) rfl rfl rfl (hI.slot 5 30 rfl (hpre ⟨5, .data⟩ (by simp) rfl) rfl) (fun h => ((hI.slot 12 37 rfl (hpre ⟨12, .data⟩ (by simp) rfl) rfl) h)) (fun h => rfl) ⟨_, rfl, hJ, fun _ => pick_and ((true)) (((str x.f).toList == f.toList)), fun _ _ _ h => h⟩
          | 14, _ =>
            cases ho
            exact wpOp_move rfl rfl (.inl rfl) (hI.slot 13 38 rfl (hpre ⟨13, .data⟩ (by simp) rfl) rfl) ⟨_, rfl, hJ, fun _ => rfl, fun _ _ _ h => h⟩
          | 15, _ =>
            cases ho
            have eg := (hI.slot 14 39 rfl (hpre ⟨14, .guard⟩ (by simp) rfl) rfl)
            by_cases hg : ((true && ((str x.f).toList == f.toList))) = true
            case neg =>
              exact wpOp_off rfl (wantedOff (j := 14) (b := true) (b' := (true && ((str x.f).toList == f.toList))) rfl rfl rfl (by rw [hI.len]; show _ < 48; decide) eg hg) ⟨_, rfl, hJ, fun _ h => absurd h hg, fun _ _ _ h => h⟩
            exact wpOp_move rfl (wantedOf (j := 14) (b := true) rfl rfl rfl (by rw [hI.len]; show _ < 48; decide) (eg.trans (congrArg Value.bool hg))) (.inl rfl) (hI.kept (t := 0) (by kernel_rfl)) ⟨_, rfl, hJ, fun _ _ => rfl, fun _ _ _ h => h⟩
          | 16, _ =>
            cases ho
            have eg := (hI.slot 14 39 rfl (hpre ⟨14, .guard⟩ (by simp) rfl) rfl)
            by_cases hg : ((true && ((str x.f).toList == f.toList))) = true
            case neg =>
              exact wpOp_off rfl (wantedOff (j := 14) (b := true) (b' := (true && ((str x.f).toList == f.toList))) rfl rfl rfl (by rw [hI.len]; show _ < 48; decide) eg hg) ⟨_, rfl, hJ, fun _ h => absurd h hg, fun _ _ _ h => h⟩
            exact wpOp_move rfl (wantedOf (j := 14) (b := true) rfl rfl rfl (by rw [hI.len]; show _ < 48; decide) (eg.trans (congrArg Value.bool hg))) (.inl rfl) (hI.kept (t := 8) (by kernel_rfl)) ⟨_, rfl, hJ, fun _ _ => rfl, fun _ _ _ h => h⟩
          | 17, _ =>
            cases ho
            have eg := (hI.slot 14 39 rfl (hpre ⟨14, .guard⟩ (by simp) rfl) rfl)
            by_cases hg : ((true && ((str x.f).toList == f.toList))) = true
            case neg =>
              exact wpOp_off rfl (wantedOff (j := 14) (b := true) (b' := (true && ((str x.f).toList == f.toList))) rfl rfl rfl (by rw [hI.len]; show _ < 48; decide) eg hg) ⟨_, rfl, hJ, fun _ h => absurd h hg, fun _ _ _ h => h⟩
            exact wpOp_index rfl (wantedOf (j := 14) (b := true) rfl rfl rfl (by rw [hI.len]; show _ < 48; decide) (eg.trans (congrArg Value.bool hg))) rfl ((hI.slot 15 40 rfl (hpre ⟨15, .data⟩ (by simp) rfl) rfl) hg) ((hI.slot 16 41 rfl (hpre ⟨16, .data⟩ (by simp) rfl) rfl) hg) (index_en w' B o n cap m hin) ⟨_, rfl, hJ, fun _ _ => rfl, fun _ _ _ h => h⟩
          | 18, _ =>
            cases ho
            have eg := (hI.slot 14 39 rfl (hpre ⟨14, .guard⟩ (by simp) rfl) rfl)
            by_cases hg : ((true && ((str x.f).toList == f.toList))) = true
            case neg =>
              exact wpOp_off rfl (wantedOff (j := 14) (b := true) (b' := (true && ((str x.f).toList == f.toList))) rfl rfl rfl (by rw [hI.len]; show _ < 48; decide) eg hg) ⟨_, rfl, hJ, fun _ h => absurd h hg, fun _ _ _ h => h⟩
            exact wpOp_field rfl (wantedOf (j := 14) (b := true) rfl rfl rfl (by rw [hI.len]; show _ < 48; decide) (eg.trans (congrArg Value.bool hg))) rfl ((hI.slot 17 42 rfl (hpre ⟨17, .data⟩ (by simp) rfl) rfl) hg) (by simp [go_sem]) ⟨_, rfl, hJ, fun _ _ => rfl, fun _ _ _ h => h⟩
          | 19, _ =>
            cases ho
            have eg := (hI.slot 14 39 rfl (hpre ⟨14, .guard⟩ (by simp) rfl) rfl)
            by_cases hg : ((true && ((str x.f).toList == f.toList))) = true
            case neg =>
              exact wpOp_off rfl (wantedOff (j := 14) (b := true) (b' := (true && ((str x.f).toList == f.toList))) rfl rfl rfl (by rw [hI.len]; show _ < 48; decide) eg hg) ⟨_, rfl, hJ, fun _ h => absurd h hg, fun _ _ _ h => h⟩
            exact wpOp_load rfl (wantedOf (j := 14) (b := true) rfl rfl rfl (by rw [hI.len]; show _ < 48; decide) (eg.trans (congrArg Value.bool hg))) rfl ((hI.slot 18 43 rfl (hpre ⟨18, .data⟩ (by simp) rfl) rfl) hg) (load_c (Tryz.isAgg9 w') (show w'.cell? _ = _ from by rw [hJ]; exact c1)) ⟨_, rfl, hJ, fun _ _ => rfl, fun _ _ _ h => h⟩
          | 20, _ =>
            cases ho
            have eg := (hI.slot 14 39 rfl (hpre ⟨14, .guard⟩ (by simp) rfl) rfl)
            by_cases hg : ((true && ((str x.f).toList == f.toList))) = true
            case neg =>
              exact wpOp_off rfl (wantedOff (j := 14) (b := true) (b' := (true && ((str x.f).toList == f.toList))) rfl rfl rfl (by rw [hI.len]; show _ < 48; decide) eg hg) ⟨_, rfl, hJ, fun _ h => absurd h hg, fun _ _ _ h => h⟩
            exact wpOp_move rfl (wantedOf (j := 14) (b := true) rfl rfl rfl (by rw [hI.len]; show _ < 48; decide) (eg.trans (congrArg Value.bool hg))) (.inl rfl) (hI.kept (t := 2) (by kernel_rfl)) ⟨_, rfl, hJ, fun _ _ => rfl, fun _ _ _ h => h⟩
          | 21, _ =>
            cases ho
            have eg := (hI.slot 14 39 rfl (hpre ⟨14, .guard⟩ (by simp) rfl) rfl)
            by_cases hg : ((true && ((str x.f).toList == f.toList))) = true
            case neg =>
              exact wpOp_off rfl (wantedOff (j := 14) (b := true) (b' := (true && ((str x.f).toList == f.toList))) rfl rfl rfl (by rw [hI.len]; show _ < 48; decide) eg hg) ⟨_, rfl, hJ, fun _ h => absurd h hg, fun _ _ _ h => h⟩
            exact wpOp_bin rfl (wantedOf (j := 14) (b := true) rfl rfl rfl (by rw [hI.len]; show _ < 48; decide) (eg.trans (congrArg Value.bool hg))) rfl ((hI.slot 19 44 rfl (hpre ⟨19, .data⟩ (by simp) rfl) rfl) hg) ((hI.slot 20 45 rfl (hpre ⟨20, .data⟩ (by simp) rfl) rfl) hg) (by simp [go_sem]) (by simp [go_sem]) ⟨_, rfl, hJ, fun _ _ => rfl, fun _ _ _ h => h⟩
          | 22, _ =>
            cases ho
            exact wpOp_pick3 (v := .bool (((str x.c).toList == c.toList))) (u := .bool false) rfl rfl rfl (hI.slot 14 39 rfl (hpre ⟨14, .data⟩ (by simp) rfl) rfl) (fun h => ((hI.slot 21 46 rfl (hpre ⟨21, .data⟩ (by simp) rfl) rfl) h)) (fun h => rfl) ⟨_, rfl, hJ, fun _ => pick_and ((true && ((str x.f).toList == f.toList))) (((str x.c).toList == c.toList)), fun _ _ _ h => h⟩
          | 23, _ =>
            cases ho
            exact wpOp_move rfl rfl (.inr rfl) (hI.slot 0 25 rfl (hpre ⟨0, .data⟩ (by simp) rfl) rfl) ⟨_, rfl, hJ, fun _ => rfl, fun _ _ _ h => h⟩
          | 24, _ =>
            cases ho
            exact wpOp_move rfl rfl (.inr rfl) (hI.slot 22 47 rfl (hpre ⟨22, .data⟩ (by simp) rfl) rfl) ⟨_, rfl, hJ, fun _ => rfl, fun _ _ _ h => h⟩
        case fin =>
          intro listed a w' hI hall
          have hJ := hI.inv
          have eS6 : a.tmps.getD 6 undef = .int .i64 (m : Int) := hI.slot 23 6 rfl (hall 23 (by decide)) rfl
          have eS7 : a.tmps.getD 7 undef = .bool ((true && ((str x.f).toList == f.toList)) && ((str x.c).toList == c.toList)) := hI.slot 24 7 rfl (hall 24 (by decide)) rfl
          obtain ⟨vs, us, hvl, hul, hvs, hus, e⟩ := hI.frame2 6 2 25 23 (by decide) (Nat.le_of_ble_eq_true (by kernel_rfl)) (by kernel_rfl)
          have vS6 := hvs 0 (by decide)
          have vS7 := hvs 1 (by decide)
          clear hI hall hvs hus
          match vs, us, hvl, hul with
          | [x0, x1], [y0, y1, y2, y3, y4, y5, y6, y7, y8, y9, y10, y11, y12, y13, y14, y15, y16, y17, y18, y19, y20, y21, y22], _, _ =>
          simp only [List.getElem?_cons_zero, List.getElem?_cons_succ, Option.some.injEq] at vS6 vS7
          rw [show 6 + 0 = 6 from rfl, eS6] at vS6
          subst vS6
          rw [show 6 + 1 = 7 from rfl, eS7] at vS7
          subst vS7
          simp only [List.take_succ_cons, List.take_zero, List.drop_succ_cons, List.drop_zero, List.cons_append, List.nil_append, Nat.reduceAdd, Nat.reduceSub] at e
          subst e
          clear eS6 eS7
          subst hJ
          have HZ := Lib.hid (HB.out.trans (HB2.out.mono HB.out.size)).drew
          clear HB HB2 c0 c1 HC
          go_wp2
          refine bodyPost_ret (results_tmp2 rfl _ _ _) rfl ?_
          exact ⟨by first | (rw [he, HE.out]; rfl) | (rw [HE.out]; rfl), HZ.out⟩
    · have hlt : ¬ (m : Int) < (n : Int) := by omega
      have he : (fnd s g).1 = m := by omega
      have HE := Lib.hid (fnd_end s g (by rw [List.getElem?_eq_none_iff]; omega))
      have HB := Lib.hid hb
      clear h hb hn hs
      go_wp2
      refine wp_region_m (fun _ W => W = wr.drew) (FiV false a 0 0 n cap m ⟨[], [], 0⟩ f c) (by kernel_rfl) (by kernel_rfl) (by kernel_rfl) (by kernel_rfl) rfl ?step ?fin
      case step =>
        intro i o ho listed a w' hI hn' hpre
        have hJ := hI.inv
        have hi : i < 25 := (Array.getElem?_eq_some_iff.1 ho).1
        match i, hi with
        | 0, _ =>
          cases ho
          exact wpOp_move rfl rfl (.inl rfl) (hI.kept (t := 8) (by kernel_rfl)) ⟨_, rfl, hJ, fun _ => rfl, fun _ _ _ h => h⟩
        | 1, _ =>
          cases ho
          exact wpOp_move rfl rfl (.inl rfl) (hI.kept (t := 8) (by kernel_rfl)) ⟨_, rfl, hJ, fun _ => rfl, fun _ _ _ h => h⟩
        | 2, _ =>
          cases ho
          exact wpOp_move rfl rfl (.inl rfl) (hI.kept (t := 0) (by kernel_rfl)) ⟨_, rfl, hJ, fun _ => rfl, fun _ _ _ h => h⟩
        | 3, _ =>
          cases ho
          exact wpOp_lenSb rfl rfl rfl (hI.slot 2 27 rfl (hpre ⟨2, .data⟩ (by simp) rfl) rfl) ⟨_, rfl, hJ, fun _ => rfl, fun _ _ _ h => h⟩
        | 4, _ =>
          cases ho
          exact wpOp_bin rfl rfl rfl (hI.slot 1 26 rfl (hpre ⟨1, .data⟩ (by simp) rfl) rfl) (hI.slot 3 28 rfl (hpre ⟨3, .data⟩ (by simp) rfl) rfl) (by simp [go_sem]) (by simp [go_sem]; omega) ⟨_, rfl, hJ, fun _ => rfl, fun _ _ _ h => h⟩
        | 5, _ =>
          cases ho
          exact wpOp_move rfl rfl (.inl rfl) (hI.slot 4 29 rfl (hpre ⟨4, .data⟩ (by simp) rfl) rfl) ⟨_, rfl, hJ, fun _ => rfl, fun _ _ _ h => h⟩
        | 6, _ =>
          cases ho
          have eg := (hI.slot 5 30 rfl (hpre ⟨5, .guard⟩ (by simp) rfl) rfl)
          by_cases hg : ((false)) = true
          case neg =>
            exact wpOp_off rfl (wantedOff (j := 5) (b := true) (b' := (false)) rfl rfl rfl (by rw [hI.len]; show _ < 48; decide) eg hg) ⟨_, rfl, hJ, fun _ h => absurd h hg, fun _ _ _ h => h⟩
          exact wpOp_move rfl (wantedOf (j := 5) (b := true) rfl rfl rfl (by rw [hI.len]; show _ < 48; decide) (eg.trans (congrArg Value.bool hg))) (.inl rfl) (hI.kept (t := 0) (by kernel_rfl)) ⟨_, rfl, hJ, fun _ _ => rfl, fun _ _ _ h => h⟩
        | 7, _ =>
          cases ho
          have eg := (hI.slot 5 30 rfl (hpre ⟨5, .guard⟩ (by simp) rfl) rfl)
          by_cases hg : ((false)) = true
          case neg =>
            exact wpOp_off rfl (wantedOff (j := 5) (b := true) (b' := (false)) rfl rfl rfl (by rw [hI.len]; show _ < 48; decide) eg hg) ⟨_, rfl, hJ, fun _ h => absurd h hg, fun _ _ _ h => h⟩
          exact wpOp_move rfl (wantedOf (j := 5) (b := true) rfl rfl rfl (by rw [hI.len]; show _ < 48; decide) (eg.trans (congrArg Value.bool hg))) (.inl rfl) (hI.kept (t := 8) (by kernel_rfl)) ⟨_, rfl, hJ, fun _ _ => rfl, fun _ _ _ h => h⟩
        | 8, _ =>
          cases ho
          have eg := (hI.slot 5 30 rfl (hpre ⟨5, .guard⟩ (by simp) rfl) rfl)
          by_cases hg : ((false)) = true
          case neg =>
            exact wpOp_off rfl (wantedOff (j := 5) (b := true) (b' := (false)) rfl rfl rfl (by rw [hI.len]; show _ < 48; decide) eg hg) ⟨_, rfl, hJ, fun _ h => absurd h hg, fun _ _ _ h => h⟩
          exact wpOp_index rfl (wantedOf (j := 5) (b := true) rfl rfl rfl (by rw [hI.len]; show _ < 48; decide) (eg.trans (congrArg Value.bool hg))) rfl ((hI.slot 6 31 rfl (hpre ⟨6, .data⟩ (by simp) rfl) rfl) hg) ((hI.slot 7 32 rfl (hpre ⟨7, .data⟩ (by simp) rfl) rfl) hg) (by cases hg) ⟨_, rfl, hJ, fun _ _ => rfl, fun _ _ _ h => h⟩
        | 9, _ =>
          cases ho
          have eg := (hI.slot 5 30 rfl (hpre ⟨5, .guard⟩ (by simp) rfl) rfl)
          by_cases hg : ((false)) = true
          case neg =>
            exact wpOp_off rfl (wantedOff (j := 5) (b := true) (b' := (false)) rfl rfl rfl (by rw [hI.len]; show _ < 48; decide) eg hg) ⟨_, rfl, hJ, fun _ h => absurd h hg, fun _ _ _ h => h⟩
          exact wpOp_field rfl (wantedOf (j := 5) (b := true) rfl rfl rfl (by rw [hI.len]; show _ < 48; decide) (eg.trans (congrArg Value.bool hg))) rfl ((hI.slot 8 33 rfl (hpre ⟨8, .data⟩ (by simp) rfl) rfl) hg) (by simp [go_sem]) ⟨_, rfl, hJ, fun _ _ => rfl, fun _ _ _ h => h⟩
        | 10, _ =>
          cases ho
          have eg := (hI.slot 5 30 rfl (hpre ⟨5, .guard⟩ (by simp) rfl) rfl)
          by_cases hg : ((false)) = true
          case neg =>
            exact wpOp_off rfl (wantedOff (j := 5) (b := true) (b' := (false)) rfl rfl rfl (by rw [hI.len]; show _ < 48; decide) eg hg) ⟨_, rfl, hJ, fun _ h => absurd h hg, fun _ _ _ h => h⟩
          exact wpOp_load rfl (wantedOf (j := 5) (b := true) rfl rfl rfl (by rw [hI.len]; show _ < 48; decide) (eg.trans (congrArg Value.bool hg))) rfl ((hI.slot 9 34 rfl (hpre ⟨9, .data⟩ (by simp) rfl) rfl) hg) (by cases hg) ⟨_, rfl, hJ, fun _ _ => rfl, fun _ _ _ h => h⟩
        | 11, _ =>
          cases ho
          have eg := (hI.slot 5 30 rfl (hpre ⟨5, .guard⟩ (by simp) rfl) rfl)
          by_cases hg : ((false)) = true
          case neg =>
            exact wpOp_off rfl (wantedOff (j := 5) (b := true) (b' := (false)) rfl rfl rfl (by rw [hI.len]; show _ < 48; decide) eg hg) ⟨_, rfl, hJ, fun _ h => absurd h hg, fun _ _ _ h => h⟩
          exact wpOp_move rfl (wantedOf (j := 5) (b := true) rfl rfl rfl (by rw [hI.len]; show _ < 48; decide) (eg.trans (congrArg Value.bool hg))) (.inl rfl) (hI.kept (t := 1) (by kernel_rfl)) ⟨_, rfl, hJ, fun _ _ => rfl, fun _ _ _ h => h⟩
        | 12, _ =>
          cases ho
          have eg := (hI.slot 5 30 rfl (hpre ⟨5, .guard⟩ (by simp) rfl) rfl)
          by_cases hg : ((false)) = true
          case neg =>
            exact wpOp_off rfl (wantedOff (j := 5) (b := true) (b' := (false)) rfl rfl rfl (by rw [hI.len]; show _ < 48; decide) eg hg) ⟨_, rfl, hJ, fun _ h => absurd h hg, fun _ _ _ h => h⟩
          exact wpOp_bin rfl (wantedOf (j := 5) (b := true) rfl rfl rfl (by rw [hI.len]; show _ < 48; decide) (eg.trans (congrArg Value.bool hg))) rfl ((hI.slot 10 35 rfl (hpre ⟨10, .data⟩ (by simp) rfl) rfl) hg) ((hI.slot 11 36 rfl (hpre ⟨11, .data⟩ (by simp) rfl) rfl) hg) (by simp [go_sem]) (by simp [go_sem]) ⟨_, rfl, hJ, fun _ _ => rfl, fun _ _ _ h => h⟩
        | 13, _ =>
          cases ho
          exact wpOp_pick3 (v := .bool (((str (⟨[], [], 0⟩ : Sb).f).toList == f.toList))) (u := .bool false) rfl rfl rfl (hI.slot 5 30 rfl (hpre ⟨5, .data⟩ (by simp) rfl) rfl) (fun h => ((hI.slot 12 37 rfl (hpre ⟨12, .data⟩ (by simp) rfl) rfl) h)) (fun h => rfl) ⟨_, rfl, hJ, fun _ => pick_and ((false)) (((str (⟨[], [], 0⟩ : Sb).f).toList == f.toList)), fun _ _ _ h => h⟩
        | 14, _ =>
          cases ho
          exact wpOp_move rfl rfl (.inl rfl) (hI.slot 13 38 rfl (hpre ⟨13, .data⟩ (by simp) rfl) rfl) ⟨_, rfl, hJ, fun _ => rfl, fun _ _ _ h => h⟩
        | 15, _ =>
          cases ho
          have eg := (hI.slot 14 39 rfl (hpre ⟨14, .guard⟩ (by simp) rfl) rfl)
          by_cases hg : ((false && ((str (⟨[], [], 0⟩ : Sb).f).toList == f.toList))) = true
          case neg =>
            exact wpOp_off rfl (wantedOff (j := 14) (b := true) (b' := (false && ((str (⟨[], [], 0⟩ : Sb).f).toList == f.toList))) rfl rfl rfl (by rw [hI.len]; show _ < 48; decide) eg hg) ⟨_, rfl, hJ, fun _ h => absurd h hg, fun _ _ _ h => h⟩
          exact wpOp_move rfl (wantedOf (j := 14) (b := true) rfl rfl rfl (by rw [hI.len]; show _ < 48; decide) (eg.trans (congrArg Value.bool hg))) (.inl rfl) (hI.kept (t := 0) (by kernel_rfl)) ⟨_, rfl, hJ, fun _ _ => rfl, fun _ _ _ h => h⟩
        | 16, _ =>
          cases ho
          have eg := (hI.slot 14 39 rfl (hpre ⟨14, .guard⟩ (by simp) rfl) rfl)
          by_cases hg : ((false && ((str (⟨[], [], 0⟩ : Sb).f).toList == f.toList))) = true
          case neg =>
            exact wpOp_off rfl (wantedOff (j := 14) (b := true) (b' := (false && ((str (⟨[], [], 0⟩ : Sb).f).toList == f.toList))) rfl rfl rfl (by rw [hI.len]; show _ < 48; decide) eg hg) ⟨_, rfl, hJ, fun _ h => absurd h hg, fun _ _ _ h => h⟩
          exact wpOp_move rfl (wantedOf (j := 14) (b := true) rfl rfl rfl (by rw [hI.len]; show _ < 48; decide) (eg.trans (congrArg Value.bool hg))) (.inl rfl) (hI.kept (t := 8) (by kernel_rfl)) ⟨_, rfl, hJ, fun _ _ => rfl, fun _ _ _ h => h⟩
        | 17, _ =>
          cases ho
          have eg := (hI.slot 14 39 rfl (hpre ⟨14, .guard⟩ (by simp) rfl) rfl)
          by_cases hg : ((false && ((str (⟨[], [], 0⟩ : Sb).f).toList == f.toList))) = true
          case neg =>
            exact wpOp_off rfl (wantedOff (j := 14) (b := true) (b' := (false && ((str (⟨[], [], 0⟩ : Sb).f).toList == f.toList))) rfl rfl rfl (by rw [hI.len]; show _ < 48; decide) eg hg) ⟨_, rfl, hJ, fun _ h => absurd h hg, fun _ _ _ h => h⟩
          exact wpOp_index rfl (wantedOf (j := 14) (b := true) rfl rfl rfl (by rw [hI.len]; show _ < 48; decide) (eg.trans (congrArg Value.bool hg))) rfl ((hI.slot 15 40 rfl (hpre ⟨15, .data⟩ (by simp) rfl) rfl) hg) ((hI.slot 16 41 rfl (hpre ⟨16, .data⟩ (by simp) rfl) rfl) hg) (by simp at hg) ⟨_, rfl, hJ, fun _ _ => rfl, fun _ _ _ h => h⟩
        | 18, _ =>
          cases ho
          have eg := (hI.slot 14 39 rfl (hpre ⟨14, .guard⟩ (by simp) rfl) rfl)
          by_cases hg : ((false && ((str (⟨[], [], 0⟩ : Sb).f).toList == f.toList))) = true
          case neg =>
            exact wpOp_off rfl (wantedOff (j := 14) (b := true) (b' := (false && ((str (⟨[], [], 0⟩ : Sb).f).toList == f.toList))) rfl rfl rfl (by rw [hI.len]; show _ < 48; decide) eg hg) ⟨_, rfl, hJ, fun _ h => absurd h hg, fun _ _ _ h => h⟩
          exact wpOp_field rfl (wantedOf (j := 14) (b := true) rfl rfl rfl (by rw [hI.len]; show _ < 48; decide) (eg.trans (congrArg Value.bool hg))) rfl ((hI.slot 17 42 rfl (hpre ⟨17, .data⟩ (by simp) rfl) rfl) hg) (by simp [go_sem]) ⟨_, rfl, hJ, fun _ _ => rfl, fun _ _ _ h => h⟩
        | 19, _ =>
          cases ho
          have eg := (hI.slot 14 39 rfl (hpre ⟨14, .guard⟩ (by simp) rfl) rfl)
          by_cases hg : ((false && ((str (⟨[], [], 0⟩ : Sb).f).toList == f.toList))) = true
          case neg =>
            exact wpOp_off rfl (wantedOff (j := 14) (b := true) (b' := (false && ((str (⟨[], [], 0⟩ : Sb).f).toList == f.toList))) rfl rfl rfl (by rw [hI.len]; show _ < 48; decide) eg hg) ⟨_, rfl, hJ, fun _ h => absurd h hg, fun _ _ _ h => h⟩
          exact wpOp_load rfl (wantedOf (j := 14) (b := true) rfl rfl rfl (by rw [hI.len]; show _ < 48; decide) (eg.trans (congrArg Value.bool hg))) rfl ((hI.slot 18 43 rfl (hpre ⟨18, .data⟩ (by simp) rfl) rfl) hg) (by simp at hg) ⟨_, rfl, hJ, fun _ _ => rfl, fun _ _ _ h => h⟩
        | 20, _ =>
          cases ho
          have eg := (hI.slot 14 39 rfl (hpre ⟨14, .guard⟩ (by simp) rfl) rfl)
          by_cases hg : ((false && ((str (⟨[], [], 0⟩ : Sb).f).toList == f.toList))) = true
          case neg =>
            exact wpOp_off rfl (wantedOff (j := 14) (b := true) (b' := (false && ((str (⟨[], [], 0⟩ : Sb).f).toList == f.toList))) rfl rfl rfl (by rw [hI.len]; show _ < 48; decide) eg hg) ⟨_, rfl, hJ, fun _ h => absurd h hg, fun _ _ _ h => h⟩
          exact wpOp_move rfl (wantedOf (j := 14) (b := true) rfl rfl rfl (by rw [hI.len]; show _ < 48; decide) (eg.trans (congrArg Value.bool hg))) (.inl rfl) (hI.kept (t := 2) (by kernel_rfl)) ⟨_, rfl, hJ, fun _ _ => rfl, fun _ _ _ h => h⟩
        | 21, _ =>
          cases ho
          have eg := (hI.slot 14 39 rfl (hpre ⟨14, .guard⟩ (by simp) rfl) rfl)
          by_cases hg : ((false && ((str (⟨[], [], 0⟩ : Sb).f).toList == f.toList))) = true
          case neg =>
            exact wpOp_off rfl (wantedOff (j := 14) (b := true) (b' := (false && ((str (⟨[], [], 0⟩ : Sb).f).toList == f.toList))) rfl rfl rfl (by rw [hI.len]; show _ < 48; decide) eg hg) ⟨_, rfl, hJ, fun _ h => absurd h hg, fun _ _ _ h => h⟩
          exact wpOp_bin rfl (wantedOf (j := 14) (b := true) rfl rfl rfl (by rw [hI.len]; show _ < 48; decide) (eg.trans (congrArg Value.bool hg))) rfl ((hI.slot 19 44 rfl (hpre ⟨19, .data⟩ (by simp) rfl) rfl) hg) ((hI.slot 20 45 rfl (hpre ⟨20, .data⟩ (by simp) rfl) rfl) hg) (by simp [go_sem]) (by simp [go_sem]) ⟨_, rfl, hJ, fun _ _ => rfl, fun _ _ _ h => h⟩
        | 22, _ =>
          cases ho
          exact wpOp_pick3 (v := .bool (((str (⟨[], [], 0⟩ : Sb).c).toList == c.toList))) (u := .bool false) rfl rfl rfl (hI.slot 14 39 rfl (hpre ⟨14, .data⟩ (by simp) rfl) rfl) (fun h => ((hI.slot 21 46 rfl (hpre ⟨21, .data⟩ (by simp) rfl) rfl) h)) (fun h => rfl) ⟨_, rfl, hJ, fun _ => pick_and ((false && ((str (⟨[], [], 0⟩ : Sb).f).toList == f.toList))) (((str (⟨[], [], 0⟩ : Sb).c).toList == c.toList)), fun _ _ _ h => h⟩
        | 23, _ =>
          cases ho
          exact wpOp_move rfl rfl (.inr rfl) (hI.slot 0 25 rfl (hpre ⟨0, .data⟩ (by simp) rfl) rfl) ⟨_, rfl, hJ, fun _ => rfl, fun _ _ _ h => h⟩
        | 24, _ =>
          cases ho
          exact wpOp_move rfl rfl (.inr rfl) (hI.slot 22 47 rfl (hpre ⟨22, .data⟩ (by simp) rfl) rfl) ⟨_, rfl, hJ, fun _ => rfl, fun _ _ _ h => h⟩
      case fin =>
        intro listed a w' hI hall
        have hJ := hI.inv
        have eS6 : a.tmps.getD 6 undef = .int .i64 (m : Int) := hI.slot 23 6 rfl (hall 23 (by decide)) rfl
        have eS7 : a.tmps.getD 7 undef = .bool ((false && ((str (⟨[], [], 0⟩ : Sb).f).toList == f.toList)) && ((str (⟨[], [], 0⟩ : Sb).c).toList == c.toList)) := hI.slot 24 7 rfl (hall 24 (by decide)) rfl
        obtain ⟨vs, us, hvl, hul, hvs, hus, e⟩ := hI.frame2 6 2 25 23 (by decide) (Nat.le_of_ble_eq_true (by kernel_rfl)) (by kernel_rfl)
        have vS6 := hvs 0 (by decide)
        have vS7 := hvs 1 (by decide)
        clear hI hall hvs hus
        match vs, us, hvl, hul with
        | [x0, x1], [y0, y1, y2, y3, y4, y5, y6, y7, y8, y9, y10, y11, y12, y13, y14, y15, y16, y17, y18, y19, y20, y21, y22], _, _ =>
        simp only [List.getElem?_cons_zero, List.getElem?_cons_succ, Option.some.injEq] at vS6 vS7
        rw [show 6 + 0 = 6 from rfl, eS6] at vS6
        subst vS6
        rw [show 6 + 1 = 7 from rfl, eS7] at vS7
        subst vS7
        simp only [List.take_succ_cons, List.take_zero, List.drop_succ_cons, List.drop_zero, List.cons_append, List.nil_append, Nat.reduceAdd, Nat.reduceSub] at e
        subst e
        clear eS6 eS7
        subst hJ
        have HZ := Lib.hid HB.out.drew
        clear HB
        go_wp2
        refine bodyPost_ret (results_tmp2 rfl _ _ _) rfl ?_
        exact ⟨by first | (rw [he, HE.out]; rfl) | (rw [HE.out]; rfl), HZ.out⟩
end Go.Proofs.YtgcfgheamaoceaaGreatDoor
/- Layer 14: append of entries that lie at a place; what it leaves of other slices that the call made. -/
namespace Go.Proofs.YtgcfgheamaoceaaGreatDoor
open Go.RowKit Go.MapKept Go.ChangeMaps Go.Maps

theorem subsL_subL {L : List Sb} {u : Value} (h : u ∈ subsL L) : u.oneCell' = true := subsL_one L u h
/-- Entries, in cells side by side. -/
def SbAt (w : World) (a : Option Addr) (L : List Sb) : Prop := L = [] ∨ ∃ B o, a = some ⟨B, o, none⟩ ∧ B < w.heap.size ∧ ∀ j u, (subsL L)[j]? = some u → w.cell? ⟨B, o + j, none⟩ = some u
theorem SbAt.below {w w' : World} {a : Option Addr} {L : List Sb} (h : SbAt w a L) (hb : Below w.heap.size w w') : SbAt w' a L := by
  rcases h with h | ⟨B, o, e, hB, hc⟩
  · exact .inl h
  · exact .inr ⟨B, o, e, Nat.lt_of_lt_of_le hB hb.size, fun j u hu => (hb.cell (p := ⟨B, o + j, none⟩) hB).trans (hc j u hu)⟩
theorem ownS_lies {w : World} {base : Nat} {v : Value} {L : List Sb} (h : OwnS w base v L) : ∃ a cap, v = .slice a L.length cap ∧ L.length ≤ cap ∧ SbAt w a L := by
  obtain ⟨hl, ⟨rfl, h0⟩ | ⟨g, cap, cur, rfl, hb, hh, hn, hcap, hcs, htk⟩⟩ := h
  · exact ⟨none, 0, by rw [h0], by omega, .inl (List.eq_nil_of_length_eq_zero h0)⟩
  · refine ⟨_, cap, rfl, hn, .inr ⟨g, 0, rfl, (Array.getElem?_eq_some_iff.1 hh).1, fun j u hu => ?_⟩⟩
    rw [cell_of_row w g (0 + j) _ _ _ hh, Nat.zero_add]
    rw [← htk, List.getElem?_take] at hu
    split at hu
    · simpa using hu
    · cases hu
/-- Part of them. -/
theorem SbAt.take {w : World} {a : Option Addr} {L : List Sb} (h : SbAt w a L) (k : Nat) : SbAt w a (L.take k) := by
  rcases h with h | ⟨B, o, e, hB, hc⟩
  · exact .inl (by rw [h]; simp)
  · refine .inr ⟨B, o, e, hB, fun j u hu => hc j u ?_⟩
    have e : subsL L = subsL (L.take k) ++ subsL (L.drop k) := by rw [← subsL_app, List.take_append_drop]
    rw [e, List.getElem?_append_left (List.getElem?_eq_some_iff.1 hu).1]
    exact hu
theorem SbAt.drop {w : World} {a : Option Addr} {L : List Sb} (h : SbAt w a L) (k cap : Nat) (hk : k ≤ L.length) (hn : L.length ≤ cap) : SbAt w (if cap = k then a else a.map (·.add (k * 3))) (L.drop k) := by
  rcases h with h | ⟨B, o, e, hB, hc⟩
  · exact .inl (by rw [h]; simp)
  · by_cases hck : cap = k
    · exact .inl (List.drop_eq_nil_of_le (by omega))
    · rw [if_neg hck, e]
      refine .inr ⟨B, o + k * 3, by rw [Option.map_some, addr_add], hB, fun j u hu => ?_⟩
      have e : subsL L = subsL (L.take k) ++ subsL (L.drop k) := by rw [← subsL_app, List.take_append_drop]
      have := hc (k * 3 + j) u (by rw [e, List.getElem?_append_right (by rw [subsL_len, List.length_take]; omega), subsL_len, List.length_take, Nat.min_eq_left hk, Nat.add_sub_cancel_left]; exact hu)
      rw [show o + k * 3 + j = o + (k * 3 + j) by omega]
      exact this
/-- append of such; every other slice of the call's that is not longer in the same block reads as it did. -/
theorem run_append_subs (w : World) (base ty : Nat) (v : Value) (L : List Sb) (hown : OwnS w base v L) (a : Option Addr) (M : List Sb) (c : Nat) (ha : a = none → c = 0) (hM : SbAt w a M) (hL : L.length + M.length ≤ 1000000) (hbase : base ≤ w.heap.size) :
    ∃ v' w', (Builtin.append_ #[27, 27] ty #[v, .slice a M.length c]).run Tryz.prog w = .ok v' w' ∧ OwnS w' base v' (L ++ M) ∧ w.grownBy w' v.ownBlock ∧ (v = .slice none 0 0 → M = [] → v' = .slice none 0 0) ∧
      ∀ u N, OwnS w base u N → (u.ownBlock = v.ownBlock → N.length ≤ L.length) → OwnS w' base u N := by
  obtain ⟨i0, hi, hz0, hz1, hz2⟩ := info_parts infoSub
  cases a with
  | none =>
    have hM0 : M = [] := by
      rcases hM with h | ⟨B, o, e, _⟩
      · exact h
      · cases e
    subst hM0
    rw [ha rfl]
    refine ⟨v, w, run_append_owned_none (P := Tryz.prog) (w := w) base 27 ty 31 i0 3 Tryz.underlying27 hi v L.length (subsL L) hown, by rw [List.append_nil]; exact hown, ⟨rfl, rfl, rfl, Nat.le_refl _, fun _ _ _ => rfl⟩, fun h _ => h, fun u N h _ => h⟩
  | some p =>
    have hcell : ∀ j u, (subsL M)[j]? = some u → w.cell? (p.add j) = some u := by
      rcases hM with h | ⟨B, o, e, _, hc⟩
      · intro j u hu
        rw [h] at hu
        cases hu
      · cases e
        intro j u hu
        rw [addr_add]
        exact hc j u hu
    obtain ⟨v', w', h1, h2, h3, h4, h5⟩ := run_append_own_at (P := Tryz.prog) (w := w) base 27 ty 31 i0 _ 3 40 Tryz.underlying27 hi hz0 hz1 hz2 rfl (by decide) v L.length (subsL L) hown p M.length c (subsL M) (subsL_len M) hcell (subsL_one M) (by unfold maxLen; omega) (by omega) hbase
    refine ⟨v', w', h1, ?_, h3, fun h k => h4.2 ⟨h, by rw [k]; rfl⟩, fun u N hu hlen => ?_⟩
    · unfold OwnS
      rw [subsL_app, List.length_append]
      exact h2
    · by_cases hbk : u.ownBlock = v.ownBlock
      case neg => exact hu.kept fun g hg => h3.block g (ownS_lt hu g hg).2 (by rw [← hg]; exact hbk)
      case pos =>
        have hle := hlen hbk
        rcases hu with ⟨hul, e | ⟨g, cp, cur, rfl, hb, hh, hn2, hc2, hs2, ht2⟩⟩
        · exact ⟨hul, .inl e⟩
        · rcases hown with ⟨hol, ⟨rfl, _⟩ | ⟨g', cap, cur', rfl, hb', hh', hn', hcap', hcs', htk'⟩⟩
          · cases hbk
          · have hgg : g = g' := by simpa [Value.ownBlock] using hbk
            subst hgg
            rw [hh] at hh'
            injection hh' with hh'
            injection hh' with e1
            subst e1
            refine ⟨hul, .inr ?_⟩
            by_cases hroom : L.length + M.length ≤ cap
            · have hr := run_append_room (P := Tryz.prog) w 27 ty 31 i0 Tryz.underlying27 hi g L.length cap cur hh p M.length c (subsL M) (by rw [hz1]; exact subsL_len M) hcell (subsL_one M) hroom (by rw [hz1, subsL_len, hcs']; omega)
              rw [h1] at hr
              injection hr with _ hw
              subst hw
              refine ⟨g, cp, _, rfl, hb, setRow_heap w g cur _ _ _ hh, hn2, hc2, ?_, ?_⟩
              · rw [hz1, ← hs2]
                simp only [List.size_toArray, List.length_append, List.length_take, List.length_drop, Array.length_toList, subsL_len]
                omega
              · rw [hz1, ← ht2]
                simp only [List.append_assoc]
                rw [List.take_append_of_le_length (by have e : cur.toList.length = cap * 3 := hcs'; rw [List.length_take, e]; omega), List.take_take, Nat.min_eq_left (by omega)]
            · have hr := run_append_grow (P := Tryz.prog) w 27 ty 31 i0 _ Tryz.underlying27 hi hz0 ⟨g, 0, none⟩ L.length cap (subsL L) (by rw [hz1]; exact subsL_len L) (World.ownsRow.cells (w := w) ⟨hol, .inr ⟨g, cap, cur, rfl, hb', hh, hn', hcap', hcs', htk'⟩⟩ (g := g) rfl) p M.length c (subsL M) (by rw [hz1]; exact subsL_len M) hcell (by omega) (by omega) (growslice_fits (by omega) (by rw [hz2]; omega))
              rw [h1] at hr
              injection hr with _ hw
              subst hw
              exact ⟨g, cp, cur, rfl, hb, (heap_alloc_old w.drew _ (Array.getElem?_eq_some_iff.1 hh).1).trans hh, hn2, hc2, hs2, ht2⟩
end Go.Proofs.YtgcfgheamaoceaaGreatDoor
/- Layer 14: the document's Set (its drawn region's text: wip/tools/mkmatpp.py). -/
namespace Go.Proofs.YtgcfgheamaoceaaGreatDoor
open Go.RowKit Go.MapKept Go.ChangeMaps Go.Maps

section
variable {ops : Array Oper} {Q : Exit → Act → World → Prop} {i : Nat} {o : Oper} {a : Act} {w : World} {K : Act → World → Prop}
theorem wpOp_notP {x : Operand} {b c : Bool} (ho : ops[i]? = some o) (hg : Region.wanted o (yielded ops a.tmps) = true) (hop : o.op = .unOp .not 4 x) (hx : a.eval x = .bool b) (hc : c = !b) (hK : K (a.put o.dst (.bool c)) w) : wpOp Tryz.prog ops Q i K a w := by
  subst hc
  exact wpOp_val ho hg (by simp only [execOp, hop, hx]; simp [go_sem]) hK
end
theorem slice_sb (w : World) (a : Option Addr) (n c k : Nat) (h : k ≤ c) : (Instr.sliceAt 27 (.slice a n c) none (some (.int .i64 k)) none).run Tryz.prog w = .ok (.slice a k c) w := by
  have h1 : (0 : Int) ≤ k := by omega
  have h2 : (k : Int) ≤ c := by omega
  simp [go_sem, h1, h2]
theorem slice_sb2 (w : World) (a : Option Addr) (n c m : Nat) (h : m ≤ n) : (Instr.sliceAt 27 (.slice a n c) (some (.int .i64 m)) none none).run Tryz.prog w = .ok (.slice (if c = m then a else a.map (·.add (m * 3))) (n - m) (c - m)) w := by
  have h1 : (0 : Int) ≤ m := by omega
  have h2 : (m : Int) ≤ n := by omega
  have hs : (sizeOf 31).run Tryz.prog w = .ok 3 w := by kernel_rfl
  simp [go_sem, h1, h2, hs]
theorem build_sb (w : World) (f c : ByteArray) (q : Int) : (Instr.buildSlice 27 1 #[(0, .agg #[.string f, .string c, .int .i64 q])]).run Tryz.prog w = .ok (.slice (some ⟨w.heap.size, 0, none⟩) 1 1) (w.alloc (.cells #[.string f, .string c, .int .i64 q] 31)) := by
  first | kernel_rfl | simp [go_sem]
theorem ownS_one (w : World) (base : Nat) (s : Sb) (hb : base ≤ w.heap.size) : OwnS (w.alloc (.cells #[.string (str s.f), .string (str s.c), .int .i64 (s.q : Int)] 31)) base (.slice (some ⟨w.heap.size, 0, none⟩) 1 1) [s] :=
  ⟨rfl, .inr ⟨w.heap.size, 1, _, rfl, hb, World.alloc_heap_new w _, Nat.le_refl _, by unfold maxLen; omega, rfl, rfl⟩⟩
theorem ownS_none {w : World} {base : Nat} {v : Value} {L : List Sb} (h : OwnS w base v L) (e : v.ownBlock = none) : L.length = 0 := by
  rcases h.2 with ⟨-, h0⟩ | ⟨g, cap, cur, rfl, -⟩
  · exact h0
  · cases e
def SeV (ao : Option Addr) (n cap k m base : Nat) (g : List Sb) (s : Sb) (is : Bool) : Nat → Value → World → Prop
  | 0, v, _ => v = .slice ao n cap
  | 1, v, _ => v = .int .i64 (k : Int)
  | 2, v, _ => v = .slice ao k cap
  | 3, v, w => (OwnS w base v (g.take k) ∧ (k = 0 → v = .slice none 0 0))
  | 4, v, _ => v = .agg #[.string (str s.f), .string (str s.c), .int .i64 (s.q : Int)]
  | 5, v, w => ((∃ B, v = .slice (some ⟨B, 0, none⟩) 1 1) ∧ OwnS w base v [s])
  | 6, v, w => (OwnS w base v (g.take k ++ [s]))
  | 7, v, _ => v = .slice ao n cap
  | 8, v, _ => v = .int .i64 (m : Int)
  | 9, v, _ => v = .slice (if cap = m then ao else ao.map (·.add (m * 3))) (n - m) (cap - m)
  | 10, v, w => (OwnS w base v (g.take k ++ [s] ++ g.drop m))
  | 11, v, _ => v = .bool (is)
  | 12, v, _ => v = .bool (!is)
  | 13, v, w => (OwnS w base v (g.take k ++ [s] ++ g.drop m))
  | 14, v, _ => v = .bool (!is)
  | 15, v, _ => v = .int .i64 0
  | _, _, _ => True
theorem SeV.keep {ao : Option Addr} {n cap k m base : Nat} {g : List Sb} {s : Sb} {is : Bool} {w w' : World} (hk : ∀ u N, OwnS w base u N → OwnS w' base u N) : ∀ j u, SeV ao n cap k m base g s is j u w → SeV ao n cap k m base g s is j u w' := by
  intro j u h
  unfold SeV at h ⊢
  split at h
  · exact h
  · exact h
  · exact h
  · exact ⟨hk _ _ h.1, h.2⟩
  · exact h
  · exact ⟨h.1, hk _ _ h.2⟩
  · exact hk _ _ h
  · exact h
  · exact h
  · exact h
  · exact hk _ _ h
  · exact h
  · exact h
  · exact hk _ _ h
  · exact h
  · exact h
  · exact trivial
theorem SeV.keep6 {ao : Option Addr} {n cap k m base : Nat} {g : List Sb} {s : Sb} {is : Bool} {w w' : World} (h3 : ∀ u, OwnS w base u (g.take k) → OwnS w' base u (g.take k)) (h5 : ∀ u, OwnS w base u [s] → (∃ B, u = .slice (some ⟨B, 0, none⟩) 1 1) → OwnS w' base u [s]) : ∀ j, j ≠ 6 → j ≠ 10 → j ≠ 13 → ∀ u, SeV ao n cap k m base g s is j u w → SeV ao n cap k m base g s is j u w' := by
  intro j n6 n10 n13 u h
  unfold SeV at h ⊢
  split at h
  · exact h
  · exact h
  · exact h
  · exact ⟨h3 _ h.1, h.2⟩
  · exact h
  · exact ⟨h.1, h5 _ h.2 h.1⟩
  · exact absurd rfl n6
  · exact h
  · exact h
  · exact h
  · exact absurd rfl n10
  · exact h
  · exact h
  · exact absurd rfl n13
  · exact h
  · exact h
  · exact trivial
theorem SeV.keep10 {ao : Option Addr} {n cap k m base : Nat} {g : List Sb} {s : Sb} {is : Bool} {w w' : World} (hk : ∀ u N, N.length ≤ k + 1 → OwnS w base u N → OwnS w' base u N) : ∀ j, j ≠ 10 → j ≠ 13 → ∀ u, SeV ao n cap k m base g s is j u w → SeV ao n cap k m base g s is j u w' := by
  intro j n10 n13 u h
  unfold SeV at h ⊢
  split at h
  · exact h
  · exact h
  · exact h
  · exact ⟨hk _ _ (by rw [List.length_take]; omega) h.1, h.2⟩
  · exact h
  · exact ⟨h.1, hk _ _ (by show 1 ≤ k + 1; omega) h.2⟩
  · exact hk _ _ (by rw [List.length_append, List.length_take]; show min k g.length + 1 ≤ k + 1; omega) h
  · exact h
  · exact h
  · exact h
  · exact absurd rfl n10
  · exact h
  · exact h
  · exact absurd rfl n13
  · exact h
  · exact h
  · exact trivial
theorem fnd_key (f c : List UInt8) (p q : Nat) : ∀ g : List Sb, fnd ⟨f, c, p⟩ g = fnd ⟨f, c, q⟩ g
  | [] => rfl
  | x :: r => by
    unfold fnd
    rw [fnd_key f c p q r]
    rfl
theorem ensAt_of {w : World} {a : Option Addr} {g : List Sb} (h : SbAt w a g) : EnsAt w a (g.map enOf) := fun i e hi => by
  rw [List.getElem?_map] at hi
  obtain ⟨s, hs, rfl⟩ := Option.map_eq_some_iff.1 hi
  rcases h with rfl | ⟨B, o, rfl, hB, hc⟩
  · cases hs
  · have key : ∀ j u, j < 3 → (subL s)[j]? = some u → w.cell? ⟨B, o + i * 3 + j, none⟩ = some u := fun j u hj hu => by
      rw [Nat.add_assoc]
      refine hc _ u ?_
      obtain ⟨A, C, rfl, hA⟩ : ∃ A C, g = A ++ s :: C ∧ A.length = i := ⟨g.take i, g.drop (i + 1), by rw [(List.getElem?_eq_some_iff.1 hs).2.symm]; simp, by have := (List.getElem?_eq_some_iff.1 hs).1; simp; omega⟩
      rw [subsL_app, List.getElem?_append_right (by rw [subsL_len]; omega), subsL_len, hA, show subsL (s :: C) = subL s ++ subsL C from rfl, show i * 3 + j - i * 3 = j by omega, List.getElem?_append_left (by simp [subL]; omega)]
      exact hu
    exact ⟨B, o, rfl, hB, key 0 _ (by decide) rfl, key 1 _ (by decide) rfl, key 2 _ (by decide) rfl⟩
set_option maxRecDepth 100000 in
set_option maxHeartbeats 8000000 in
/-- The document's Set. -/
theorem rset_any (w : World) (base : Nat) (v : Value) (g : List Sb) (h : OwnS w base v g) (hbase : base ≤ w.heap.size) (hr : Rise g) (hg : g.length ≤ 4096) (f c : ByteArray) (hf : f.size ≤ 1000) (hc : c.size ≤ 1000000) (q : Int) :
    Calls Tryz.prog 29 #[v, .agg #[.string f, .string c, .int .i64 q]] w fun e w' => ∃ v', e = .returned (.tuple #[v', .bool (setP g f.data.toList c.data.toList q).2.1, .int .i64 ((setP g f.data.toList c.data.toList q).2.2 : Int)]) ∧ OwnS w' base v' (setP g f.data.toList c.data.toList q).1 ∧ Below w.heap.size w w' := by
  obtain ⟨ao, cap, rfl, hcap, hSb0⟩ := ownS_lies h
  obtain ⟨Z, hZe⟩ : ∃ Z, w.heap.size = Z := ⟨_, rfl⟩
  obtain ⟨n, hgn⟩ : ∃ n, g.length = n := ⟨_, rfl⟩
  have hac : ao = none → cap = 0 := fun e => by
    rcases h.2 with ⟨e2, -⟩ | ⟨b, cp, cur, e2, -⟩
    · injection e2
    · rw [e] at e2; cases e2
  obtain ⟨w0, hw0⟩ : ∃ w0, w.alloc (.cells #[.string f, .string c, .int .i64 q] 31) = w0 := ⟨_, rfl⟩
  have hb0 : Below w.heap.size w w0 := by rw [← hw0]; exact (Below.refl _ w).alloc (Nat.le_refl _) _
  have hZ0 : w0.heap[w.heap.size]? = some (.cells #[.string f, .string c, .int .i64 q] 31 (0, 0)) := by rw [← hw0]; exact World.alloc_heap_new w _
  obtain ⟨hZl, z0, z1, z2, -⟩ := box3 hZ0
  have HF := Lib.hid (rfilter_any f hf w0)
  have HI := Lib.hid (And.intro hb0 (And.intro hZl (And.intro hSb0 (And.intro h (And.intro hr (And.intro hac (And.intro hbase (And.intro hcap hg))))))))
  rw [hgn] at hcap ⊢
  clear hb0 hZ0 hZl hSb0 h hr hac hbase hZe
  obtain ⟨r, hr0⟩ : ∃ r, setP g f.data.toList c.data.toList q = r := ⟨_, rfl⟩
  rw [hr0]
  cases hfl : filtL f.data.toList with
  | false =>
    have e : r = (g, false, 230) := by
      have e1 : subE f.data.toList c.data.toList q = 230 := by unfold subE subZ; rw [if_pos hfl]
      rw [← hr0]
      unfold setP
      rw [if_pos (by rw [e1]; decide), e1]
    rw [hfl] at HF
    rw [e]
    clear hr0 e
    go_enter Tryz.func29, Tryz.ntmps29
    go_wp2_with fail
    try rw [hw0]
    refine HF.out.mono ?_
    rintro e w1 ⟨rfl, hb1⟩
    have HB := Lib.hid hb1
    clear hb1 HF
    go_wp2
    refine bodyPost_ret (results_tmp3 rfl _ _ _) rfl ?_
    obtain ⟨hb0, -, -, h, -⟩ := HI.out
    have hb := hb0.trans (HB.out.mono hb0.size)
    exact ⟨_, rfl, hgn ▸ h.below hb, hb⟩
  | true =>
    have HC := Lib.hid (fun W => rclient_any W c hc)
    rw [hfl] at HF
    cases hcl : cliL c.data.toList with
    | false =>
      have e : r = (g, false, 2) := by
        have e1 : subE f.data.toList c.data.toList q = 2 := by unfold subE subZ; rw [if_neg (by rw [hfl]; decide), if_pos (.inl hcl)]
        rw [← hr0]
        unfold setP
        rw [if_pos (by rw [e1]; decide), e1]
      rw [hcl] at HC
      rw [e]
      clear hr0 e
      go_enter Tryz.func29, Tryz.ntmps29
      go_wp2_with fail
      try rw [hw0]
      refine HF.out.mono ?_
      rintro e w1 ⟨rfl, hb1⟩
      have y1 : w1.cell? ⟨w.heap.size, 1, none⟩ = some (.string c) := (hb1.cell (p := ⟨w.heap.size, 1, none⟩) HI.out.2.1).trans z1
      have HB := Lib.hid hb1
      clear hb1 HF
      go_wp2_with fail
      refine (HC.out _).mono ?_
      rintro e w2 ⟨rfl, rfl⟩
      go_wp2
      refine bodyPost_ret (results_tmp3 rfl _ _ _) rfl ?_
      obtain ⟨hb0, -, -, h, -⟩ := HI.out
      have hb := hb0.trans (HB.out.mono hb0.size)
      exact ⟨_, rfl, hgn ▸ h.below hb, hb⟩
    | true =>
      rw [hcl] at HC
      by_cases hq0 : q < 0
      · skip
        have e : r = (g, false, 2) := by
          have e1 : subE f.data.toList c.data.toList q = 2 := by unfold subE subZ; rw [if_neg (by rw [hfl]; decide), if_pos (.inr (.inl hq0))]
          rw [← hr0]
          unfold setP
          rw [if_pos (by rw [e1]; decide), e1]
        rw [e]
        clear hr0 e
        go_enter Tryz.func29, Tryz.ntmps29
        go_wp2_with fail
        try rw [hw0]
        refine HF.out.mono ?_
        rintro e w1 ⟨rfl, hb1⟩
        have y1 : w1.cell? ⟨w.heap.size, 1, none⟩ = some (.string c) := (hb1.cell (p := ⟨w.heap.size, 1, none⟩) HI.out.2.1).trans z1
        have y2 : w1.cell? ⟨w.heap.size, 2, none⟩ = some (.int .i64 q) := (hb1.cell (p := ⟨w.heap.size, 2, none⟩) HI.out.2.1).trans z2
        have HB := Lib.hid hb1
        clear hb1 HF
        go_wp2_with fail
        refine (HC.out _).mono ?_
        rintro e w2 ⟨rfl, rfl⟩
        go_wp2
        refine bodyPost_ret (results_tmp3 rfl _ _ _) rfl ?_
        obtain ⟨hb0, -, -, h, -⟩ := HI.out
        have hb := hb0.trans (HB.out.mono hb0.size)
        exact ⟨_, rfl, hgn ▸ h.below hb, hb⟩
      by_cases hq2 : 2 < q
      · skip
        have e : r = (g, false, 2) := by
          have e1 : subE f.data.toList c.data.toList q = 2 := by unfold subE subZ; rw [if_neg (by rw [hfl]; decide), if_pos (.inr (.inr hq2))]
          rw [← hr0]
          unfold setP
          rw [if_pos (by rw [e1]; decide), e1]
        rw [e]
        clear hr0 e
        go_enter Tryz.func29, Tryz.ntmps29
        go_wp2_with fail
        try rw [hw0]
        refine HF.out.mono ?_
        rintro e w1 ⟨rfl, hb1⟩
        have y1 : w1.cell? ⟨w.heap.size, 1, none⟩ = some (.string c) := (hb1.cell (p := ⟨w.heap.size, 1, none⟩) HI.out.2.1).trans z1
        have y2 : w1.cell? ⟨w.heap.size, 2, none⟩ = some (.int .i64 q) := (hb1.cell (p := ⟨w.heap.size, 2, none⟩) HI.out.2.1).trans z2
        have HB := Lib.hid hb1
        clear hb1 HF
        go_wp2_with fail
        refine (HC.out _).mono ?_
        rintro e w2 ⟨rfl, rfl⟩
        go_wp2
        refine bodyPost_ret (results_tmp3 rfl _ _ _) rfl ?_
        obtain ⟨hb0, -, -, h, -⟩ := HI.out
        have hb := hb0.trans (HB.out.mono hb0.size)
        exact ⟨_, rfl, hgn ▸ h.below hb, hb⟩
      obtain ⟨p, rfl⟩ : ∃ p : Nat, q = p := ⟨q.toNat, by omega⟩
      obtain ⟨s, hs⟩ : ∃ s : Sb, s = ⟨f.data.toList, c.data.toList, p⟩ := ⟨_, rfl⟩
      have hes : entry f.data.toList c.data.toList (p : Int) = s := by rw [hs]; rfl
      have hsub : subE f.data.toList c.data.toList (p : Int) = 0 := by unfold subE; rw [hfl, hcl]; exact subZ_no hq0 hq2
      have hhk := hasK_fnd s g HI.out.2.2.2.2.1
      have hins := insG_fnd s g
      have hkg := fnd_le s g
      have hfe := fnd_end s g
      have hac := HI.out.2.2.2.2.2.1
      have hbase := HI.out.2.2.2.2.2.2.1
      obtain ⟨k, hk⟩ : ∃ k, (fnd s g).1 = k := ⟨_, rfl⟩
      obtain ⟨is, his⟩ : ∃ is, (fnd s g).2 = is := ⟨_, rfl⟩
      rw [his] at hhk hins hfe
      rw [hk] at hins hkg hfe
      unfold setP at hr0
      rw [if_neg (by rw [hsub]; decide), hes, hhk] at hr0
      cases is with
      | true =>
        rw [if_neg (by simp)] at hr0
        obtain ⟨m, hm⟩ : ∃ m, k + 1 = m := ⟨_, rfl⟩
        have hmn : m ≤ n := by
          rcases Nat.lt_or_ge k n with h | h
          · omega
          · have := hfe (List.getElem?_eq_none_iff.2 (by omega))
            cases this
        have hwi : IntKind.i64.wrap ((k : Int) + 1) = (m : Int) := by rw [IntKind.wrap_i64]; omega
        have hinm : insG s g = g.take k ++ [s] ++ g.drop m := by rw [hins, ← hm]; simp
        rw [← hr0]
        clear hfe hins hr0 hhk hm
        go_enter Tryz.func29, Tryz.ntmps29
        go_wp2_with fail
        try rw [hw0]
        refine HF.out.mono ?_
        rintro e wa ⟨rfl, hb1⟩
        have y0 : wa.cell? ⟨w.heap.size, 0, none⟩ = some (.string f) := (hb1.cell (p := ⟨w.heap.size, 0, none⟩) HI.out.2.1).trans z0
        have y1 : wa.cell? ⟨w.heap.size, 1, none⟩ = some (.string c) := (hb1.cell (p := ⟨w.heap.size, 1, none⟩) HI.out.2.1).trans z1
        have y2 : wa.cell? ⟨w.heap.size, 2, none⟩ = some (.int .i64 (p : Int)) := (hb1.cell (p := ⟨w.heap.size, 2, none⟩) HI.out.2.1).trans z2
        have hZa : w.heap.size < wa.heap.size := Nat.lt_of_lt_of_le HI.out.2.1 hb1.size
        have HN := Lib.hid (find_any wa ao g cap (ensAt_of ((HI.out.2.2.1.below HI.out.1).below hb1)) f c (by omega))
        have HB := Lib.hid (HI.out.1.trans (hb1.mono HI.out.1.size))
        have HSa := Lib.hid ((HI.out.2.2.1.below HI.out.1).below hb1)
        clear hb1 HF
        rw [hgn, fnd_key _ _ 0 p, ← hs, hk, his] at HN
        go_wp2_with fail
        refine (HC.out _).mono ?_
        rintro e wc ⟨rfl, rfl⟩
        go_wp2_with fail
        refine HN.out.mono ?_
        rintro e w1 ⟨rfl, hb2⟩
        have hSb := HSa.out.below hb2
        have hZ : w.heap.size < w1.heap.size := Nat.lt_of_lt_of_le hZa hb2.size
        have x0 : w1.cell? ⟨w.heap.size, 0, none⟩ = some (.string (str s.f)) := by rw [hs]; exact (hb2.cell (p := ⟨w.heap.size, 0, none⟩) hZa).trans y0
        have x1 : w1.cell? ⟨w.heap.size, 1, none⟩ = some (.string (str s.c)) := by rw [hs]; exact (hb2.cell (p := ⟨w.heap.size, 1, none⟩) hZa).trans y1
        have x2 : w1.cell? ⟨w.heap.size, 2, none⟩ = some (.int .i64 (s.q : Int)) := by rw [hs]; exact (hb2.cell (p := ⟨w.heap.size, 2, none⟩) hZa).trans y2
        have HB1 := Lib.hid (HB.out.trans (hb2.mono HB.out.size))
        clear hb2 HN HB HSa z0 z1 z2 y0 y1 y2
        have hfin : ∀ x W, OwnS W w1.heap.size x (g.take k ++ [s] ++ g.drop m) → OwnS W base x (insG s g) := fun x W h => by rw [hinm]; exact h.mono (by omega)
        have HFI := Lib.hid hfin
        clear hfin hinm
        go_wp2
        have hfin := HFI.out
        refine wp_region_m (fun _ W => Below w1.heap.size w1 W) (SeV ao n cap k m w1.heap.size g s true) (by kernel_rfl) (by kernel_rfl) (by kernel_rfl) (by kernel_rfl) (Below.refl _ _).drew ?step ?fin
        case step =>
          intro i o ho listed a w' hI hn' hpre
          have hJ := hI.inv
          have hi : i < 16 := (Array.getElem?_eq_some_iff.1 ho).1
          match i, hi with
          | 0, _ =>
            cases ho
            exact wpOp_move rfl rfl (.inl rfl) (hI.kept (t := 0) (by kernel_rfl)) ⟨_, rfl, hJ, fun _ => rfl, fun _ _ _ h => h⟩
          | 1, _ =>
            cases ho
            exact wpOp_move rfl rfl (.inl rfl) (hI.kept (t := 7) (by kernel_rfl)) ⟨_, rfl, hJ, fun _ => rfl, fun _ _ _ h => h⟩
          | 2, _ =>
            cases ho
            exact wpOp_slice rfl rfl rfl (hI.slot 0 47 rfl (hpre ⟨0, .data⟩ (by simp) rfl) rfl) rfl (h2 := by simp only [Option.map, (show a.eval (.tmp 48) = .int .i64 (k : Int) from (hI.slot 1 48 rfl (hpre ⟨1, .data⟩ (by simp) rfl) rfl))]) rfl (slice_sb w' ao n cap k (by omega)) ⟨_, rfl, hJ, fun _ => rfl, fun _ _ _ h => h⟩
          | 3, _ =>
            cases ho
            obtain ⟨v2, w2, h1, h2, h3, h4, h5⟩ := run_append_subs w' w1.heap.size 27 (.slice none 0 0) [] (OwnS.nil w' _) ao (g.take k) cap hac ((hSb.below hJ).take k) (by rw [List.length_take]; simp; omega) hJ.size
            rw [List.length_take, Nat.min_eq_left hkg] at h1
            exact wpOp_append rfl rfl rfl rfl (hI.slot 2 49 rfl (hpre ⟨2, .data⟩ (by simp) rfl) rfl) h1 ⟨_, rfl, hJ.grown h3 hJ.size (fun _ e => by cases e), fun _ => ⟨h2, fun e => h4 rfl (by rw [e]; rfl)⟩, fun j u _ h => SeV.keep (fun u N hu => h5 u N hu fun e => by rw [ownS_none hu e]; exact Nat.zero_le _) j u h⟩
          | 4, _ =>
            cases ho
            exact wpOp_load rfl rfl rfl (hI.kept (t := 3) (by kernel_rfl)) (load_en (s := enOf s) ((hJ.cell (p := ⟨w.heap.size, 0, none⟩) hZ).trans x0) ((hJ.cell (p := ⟨w.heap.size, 1, none⟩) hZ).trans x1) ((hJ.cell (p := ⟨w.heap.size, 2, none⟩) hZ).trans x2)) ⟨_, rfl, hJ, fun _ => rfl, fun _ _ _ h => h⟩
          | 5, _ =>
            cases ho
            exact wpOp_buildSlice rfl rfl rfl (vs := #[(0, .agg #[.string (str s.f), .string (str s.c), .int .i64 (s.q : Int)])]) (by rw [Array.map_singleton]; show #[(0, a.eval (.tmp 51))] = _; rw [(show a.eval (.tmp 51) = .agg #[.string (str s.f), .string (str s.c), .int .i64 (s.q : Int)] from (hI.slot 4 51 rfl (hpre ⟨4, .data⟩ (by simp) rfl) rfl))]) (build_sb w' _ _ _) ⟨_, rfl, hJ.alloc hJ.size _, fun _ => ⟨⟨_, rfl⟩, ownS_one w' _ s hJ.size⟩, fun j u _ h => SeV.keep (fun u N hu => hu.below ((Below.refl _ w').alloc (Nat.le_refl _) _)) j u h⟩
          | 6, _ =>
            cases ho
            obtain ⟨h50, hz⟩ : OwnS w' w1.heap.size (a.eval (.tmp 50)) (g.take k) ∧ (k = 0 → a.eval (.tmp 50) = .slice none 0 0) := (hI.slot 3 50 rfl (hpre ⟨3, .data⟩ (by simp) rfl) rfl)
            obtain ⟨⟨B, eB⟩, h52⟩ : (∃ B, a.eval (.tmp 52) = .slice (some ⟨B, 0, none⟩) 1 1) ∧ OwnS w' w1.heap.size (a.eval (.tmp 52)) [s] := (hI.slot 5 52 rfl (hpre ⟨5, .data⟩ (by simp) rfl) rfl)
            rw [eB] at h52
            obtain ⟨ax, cx, ex, -, hat⟩ := ownS_lies h52
            obtain ⟨rfl, rfl⟩ : some ⟨B, 0, none⟩ = ax ∧ 1 = cx := by injection ex with q1 q2 q3; exact ⟨q1, q3⟩
            obtain ⟨v2, w2, h1, h2, h3, h4, h5⟩ := run_append_subs w' w1.heap.size 27 _ (g.take k) h50 _ [s] 1 (fun e => by cases e) hat (by rw [List.length_take]; simp; omega) hJ.size
            have hlk : (g.take k).length = k := by rw [List.length_take, Nat.min_eq_left hkg]
            exact wpOp_append rfl rfl rfl rfl eB h1 ⟨_, rfl, hJ.grown h3 hJ.size (fun b e => (ownS_lt h50 b e).1), fun _ => h2, fun j u hl h => SeV.keep6 (fun u hu => h5 u _ hu fun _ => Nat.le_refl _)
              (fun u hu he => h5 u _ hu fun e => by
                by_cases hk0 : k = 0
                · rw [hz hk0] at e
                  obtain ⟨B2, rfl⟩ := he
                  cases e
                · rw [hlk]; show 1 ≤ k; omega) j (by rintro rfl; rw [hn'] at hl; cases hl) (by rintro rfl; rw [hI.notyet hn' 10 (by kernel_rfl)] at hl; cases hl) (by rintro rfl; rw [hI.notyet (hI.notyet hn' 10 (by kernel_rfl)) 13 (by kernel_rfl)] at hl; cases hl) u h⟩
          | 7, _ =>
            cases ho
            exact wpOp_move rfl rfl (.inl rfl) (hI.kept (t := 0) (by kernel_rfl)) ⟨_, rfl, hJ, fun _ => rfl, fun _ _ _ h => h⟩
          | 8, _ =>
            cases ho
            exact wpOp_move rfl rfl (.inl rfl) (hI.kept (t := 9) (by kernel_rfl)) ⟨_, rfl, hJ, fun _ => rfl, fun _ _ _ h => h⟩
          | 9, _ =>
            cases ho
            exact wpOp_slice rfl rfl rfl (hI.slot 7 54 rfl (hpre ⟨7, .data⟩ (by simp) rfl) rfl) (h1 := by simp only [Option.map, (show a.eval (.tmp 55) = .int .i64 (m : Int) from (hI.slot 8 55 rfl (hpre ⟨8, .data⟩ (by simp) rfl) rfl))]) rfl rfl (slice_sb2 w' ao n cap m hmn) ⟨_, rfl, hJ, fun _ => rfl, fun _ _ _ h => h⟩
          | 10, _ =>
            cases ho
            have h53 : OwnS w' w1.heap.size (a.eval (.tmp 53)) (g.take k ++ [s]) := (hI.slot 6 53 rfl (hpre ⟨6, .data⟩ (by simp) rfl) rfl)
            have hld : (g.drop m).length = n - m := by rw [List.length_drop, hgn]
            have hlk : (g.take k ++ [s]).length = k + 1 := by rw [List.length_append, List.length_take, Nat.min_eq_left hkg]; rfl
            obtain ⟨v2, w2, h1, h2, h3, h4, h5⟩ := run_append_subs w' w1.heap.size 27 _ (g.take k ++ [s]) h53 (if cap = m then ao else ao.map (·.add (m * 3))) (g.drop m) (cap - m) (fun e => by
              by_cases hcm : cap = m
              · omega
              · rw [if_neg hcm] at e
                have h0 := hac (by cases ao with | none => rfl | some p => cases e)
                omega) ((hSb.below hJ).drop m cap (by omega) (by omega)) (by rw [hld, hlk]; omega) hJ.size
            rw [hld] at h1
            exact wpOp_append rfl rfl rfl rfl (hI.slot 9 56 rfl (hpre ⟨9, .data⟩ (by simp) rfl) rfl) h1 ⟨_, rfl, hJ.grown h3 hJ.size (fun b e => (ownS_lt h53 b e).1), fun _ => h2, fun j u hl h => SeV.keep10 (fun u N hN hu => h5 u N hu fun _ => by rw [hlk]; exact hN) j (by rintro rfl; rw [hn'] at hl; cases hl) (by rintro rfl; rw [hI.notyet hn' 13 (by kernel_rfl)] at hl; cases hl) u h⟩
          | 11, _ =>
            cases ho
            exact wpOp_move rfl rfl (.inl rfl) (hI.kept (t := 8) (by kernel_rfl)) ⟨_, rfl, hJ, fun _ => rfl, fun _ _ _ h => h⟩
          | 12, _ =>
            cases ho
            exact wpOp_notP rfl rfl rfl (hI.slot 11 58 rfl (hpre ⟨11, .data⟩ (by simp) rfl) rfl) rfl ⟨_, rfl, hJ, fun _ => rfl, fun _ _ _ h => h⟩
          | 13, _ =>
            cases ho
            have hM : OwnS w' w1.heap.size (a.eval (.tmp 57)) (g.take k ++ [s] ++ g.drop m) := (hI.slot 10 57 rfl (hpre ⟨10, .data⟩ (by simp) rfl) rfl)
            exact wpOp_move rfl rfl (.inr rfl) rfl ⟨_, rfl, hJ, fun _ => hM, fun _ _ _ h => h⟩
          | 14, _ =>
            cases ho
            exact wpOp_move rfl rfl (.inr rfl) (hI.slot 12 59 rfl (hpre ⟨12, .data⟩ (by simp) rfl) rfl) ⟨_, rfl, hJ, fun _ => rfl, fun _ _ _ h => h⟩
          | 15, _ =>
            cases ho
            exact wpOp_move rfl rfl (.inr rfl) rfl ⟨_, rfl, hJ, fun _ => rfl, fun _ _ _ h => h⟩
        case fin =>
          intro listed a w' hI hall
          have hJ := hI.inv
          have hM : OwnS w' w1.heap.size (a.tmps.getD 4 undef) (g.take k ++ [s] ++ g.drop m) := hI.slot 13 4 rfl (hall 13 (by decide)) rfl
          have eS5 : a.tmps.getD 5 undef = .bool (!true) := hI.slot 14 5 rfl (hall 14 (by decide)) rfl
          have eS6 : a.tmps.getD 6 undef = .int .i64 0 := hI.slot 15 6 rfl (hall 15 (by decide)) rfl
          obtain ⟨vs, us, hvl, hul, hvs, hus, e⟩ := hI.frame2 4 3 47 13 (by decide) (Nat.le_of_ble_eq_true (by kernel_rfl)) (by kernel_rfl)
          have vS4 := hvs 0 (by decide)
          have vS5 := hvs 1 (by decide)
          have vS6 := hvs 2 (by decide)
          clear hI hall hvs hus
          match vs, us, hvl, hul with
          | [e0, e1, e2], [y0, y1, y2, y3, y4, y5, y6, y7, y8, y9, y10, y11, y12], _, _ =>
            simp only [List.getElem?_cons_zero, List.getElem?_cons_succ, Option.some.injEq] at vS4 vS5 vS6
            rw [show 4 + 0 = 4 from rfl] at vS4
            rw [show 4 + 1 = 5 from rfl, eS5] at vS5
            rw [show 4 + 2 = 6 from rfl, eS6] at vS6
            subst vS5
            subst vS6
            rw [← vS4] at hM
            simp only [List.take_succ_cons, List.take_zero, List.drop_succ_cons, List.drop_zero, List.cons_append, List.nil_append, Nat.reduceAdd, Nat.reduceSub] at e
            subst e
            have HM := Lib.hid hM
            have HJ := Lib.hid hJ
            clear hM hJ vS4
            go_wp2
            refine bodyPost_ret (results_tmp3 rfl _ _ _) rfl ?_
            exact ⟨e0, rfl, by have h := hfin e0 _ HM.out; rw [hs] at h; exact h, HB1.out.trans (HJ.out.mono HB1.out.size)⟩

      | false =>
        by_cases h4 : g.length = 4096
        · rw [if_pos (by simp [h4])] at hr0
          have h5 : (4096 : Int) ≤ (n : Int) := by omega
          rw [← hr0]
          clear hfe hins hr0 hhk
          go_enter Tryz.func29, Tryz.ntmps29
          go_wp2_with fail
          try rw [hw0]
          refine HF.out.mono ?_
          rintro e wa ⟨rfl, hb1⟩
          have y0 : wa.cell? ⟨w.heap.size, 0, none⟩ = some (.string f) := (hb1.cell (p := ⟨w.heap.size, 0, none⟩) HI.out.2.1).trans z0
          have y1 : wa.cell? ⟨w.heap.size, 1, none⟩ = some (.string c) := (hb1.cell (p := ⟨w.heap.size, 1, none⟩) HI.out.2.1).trans z1
          have y2 : wa.cell? ⟨w.heap.size, 2, none⟩ = some (.int .i64 (p : Int)) := (hb1.cell (p := ⟨w.heap.size, 2, none⟩) HI.out.2.1).trans z2
          have hZa : w.heap.size < wa.heap.size := Nat.lt_of_lt_of_le HI.out.2.1 hb1.size
          have HN := Lib.hid (find_any wa ao g cap (ensAt_of ((HI.out.2.2.1.below HI.out.1).below hb1)) f c (by omega))
          have HB := Lib.hid (HI.out.1.trans (hb1.mono HI.out.1.size))
          have HSa := Lib.hid ((HI.out.2.2.1.below HI.out.1).below hb1)
          clear hb1 HF
          rw [hgn, fnd_key _ _ 0 p, ← hs, hk, his] at HN
          go_wp2_with fail
          refine (HC.out _).mono ?_
          rintro e wc ⟨rfl, rfl⟩
          go_wp2_with fail
          refine HN.out.mono ?_
          rintro e w1 ⟨rfl, hb2⟩
          have hSb := HSa.out.below hb2
          have hZ : w.heap.size < w1.heap.size := Nat.lt_of_lt_of_le hZa hb2.size
          have x0 : w1.cell? ⟨w.heap.size, 0, none⟩ = some (.string (str s.f)) := by rw [hs]; exact (hb2.cell (p := ⟨w.heap.size, 0, none⟩) hZa).trans y0
          have x1 : w1.cell? ⟨w.heap.size, 1, none⟩ = some (.string (str s.c)) := by rw [hs]; exact (hb2.cell (p := ⟨w.heap.size, 1, none⟩) hZa).trans y1
          have x2 : w1.cell? ⟨w.heap.size, 2, none⟩ = some (.int .i64 (s.q : Int)) := by rw [hs]; exact (hb2.cell (p := ⟨w.heap.size, 2, none⟩) hZa).trans y2
          have HB1 := Lib.hid (HB.out.trans (hb2.mono HB.out.size))
          clear hb2 HN HB HSa z0 z1 z2 y0 y1 y2
          go_wp2
          refine bodyPost_ret (results_tmp3 rfl _ _ _) rfl ?_
          exact ⟨_, rfl, hgn ▸ HI.out.2.2.2.1.below HB1.out, HB1.out⟩
        · rw [if_neg (by simp [h4])] at hr0
          have h5 : ¬ (4096 : Int) ≤ (n : Int) := by omega
          have hmn : k ≤ n := by omega
          have hinm : insG s g = g.take k ++ [s] ++ g.drop k := by rw [hins]; simp
          rw [← hr0]
          clear hfe hins hr0 hhk
          go_enter Tryz.func29, Tryz.ntmps29
          go_wp2_with fail
          try rw [hw0]
          refine HF.out.mono ?_
          rintro e wa ⟨rfl, hb1⟩
          have y0 : wa.cell? ⟨w.heap.size, 0, none⟩ = some (.string f) := (hb1.cell (p := ⟨w.heap.size, 0, none⟩) HI.out.2.1).trans z0
          have y1 : wa.cell? ⟨w.heap.size, 1, none⟩ = some (.string c) := (hb1.cell (p := ⟨w.heap.size, 1, none⟩) HI.out.2.1).trans z1
          have y2 : wa.cell? ⟨w.heap.size, 2, none⟩ = some (.int .i64 (p : Int)) := (hb1.cell (p := ⟨w.heap.size, 2, none⟩) HI.out.2.1).trans z2
          have hZa : w.heap.size < wa.heap.size := Nat.lt_of_lt_of_le HI.out.2.1 hb1.size
          have HN := Lib.hid (find_any wa ao g cap (ensAt_of ((HI.out.2.2.1.below HI.out.1).below hb1)) f c (by omega))
          have HB := Lib.hid (HI.out.1.trans (hb1.mono HI.out.1.size))
          have HSa := Lib.hid ((HI.out.2.2.1.below HI.out.1).below hb1)
          clear hb1 HF
          rw [hgn, fnd_key _ _ 0 p, ← hs, hk, his] at HN
          go_wp2_with fail
          refine (HC.out _).mono ?_
          rintro e wc ⟨rfl, rfl⟩
          go_wp2_with fail
          refine HN.out.mono ?_
          rintro e w1 ⟨rfl, hb2⟩
          have hSb := HSa.out.below hb2
          have hZ : w.heap.size < w1.heap.size := Nat.lt_of_lt_of_le hZa hb2.size
          have x0 : w1.cell? ⟨w.heap.size, 0, none⟩ = some (.string (str s.f)) := by rw [hs]; exact (hb2.cell (p := ⟨w.heap.size, 0, none⟩) hZa).trans y0
          have x1 : w1.cell? ⟨w.heap.size, 1, none⟩ = some (.string (str s.c)) := by rw [hs]; exact (hb2.cell (p := ⟨w.heap.size, 1, none⟩) hZa).trans y1
          have x2 : w1.cell? ⟨w.heap.size, 2, none⟩ = some (.int .i64 (s.q : Int)) := by rw [hs]; exact (hb2.cell (p := ⟨w.heap.size, 2, none⟩) hZa).trans y2
          have HB1 := Lib.hid (HB.out.trans (hb2.mono HB.out.size))
          clear hb2 HN HB HSa z0 z1 z2 y0 y1 y2
          have hfin : ∀ x W, OwnS W w1.heap.size x (g.take k ++ [s] ++ g.drop k) → OwnS W base x (insG s g) := fun x W h => by rw [hinm]; exact h.mono (by omega)
          have HFI := Lib.hid hfin
          clear hfin hinm
          go_wp2
          have hfin := HFI.out
          refine wp_region_m (fun _ W => Below w1.heap.size w1 W) (SeV ao n cap k k w1.heap.size g s false) (by kernel_rfl) (by kernel_rfl) (by kernel_rfl) (by kernel_rfl) (Below.refl _ _).drew ?step ?fin
          case step =>
            intro i o ho listed a w' hI hn' hpre
            have hJ := hI.inv
            have hi : i < 16 := (Array.getElem?_eq_some_iff.1 ho).1
            match i, hi with
            | 0, _ =>
              cases ho
              exact wpOp_move rfl rfl (.inl rfl) (hI.kept (t := 0) (by kernel_rfl)) ⟨_, rfl, hJ, fun _ => rfl, fun _ _ _ h => h⟩
            | 1, _ =>
              cases ho
              exact wpOp_move rfl rfl (.inl rfl) (hI.kept (t := 7) (by kernel_rfl)) ⟨_, rfl, hJ, fun _ => rfl, fun _ _ _ h => h⟩
            | 2, _ =>
              cases ho
              exact wpOp_slice rfl rfl rfl (hI.slot 0 47 rfl (hpre ⟨0, .data⟩ (by simp) rfl) rfl) rfl (h2 := by simp only [Option.map, (show a.eval (.tmp 48) = .int .i64 (k : Int) from (hI.slot 1 48 rfl (hpre ⟨1, .data⟩ (by simp) rfl) rfl))]) rfl (slice_sb w' ao n cap k (by omega)) ⟨_, rfl, hJ, fun _ => rfl, fun _ _ _ h => h⟩
            | 3, _ =>
              cases ho
              obtain ⟨v2, w2, h1, h2, h3, h4, h5⟩ := run_append_subs w' w1.heap.size 27 (.slice none 0 0) [] (OwnS.nil w' _) ao (g.take k) cap hac ((hSb.below hJ).take k) (by rw [List.length_take]; simp; omega) hJ.size
              rw [List.length_take, Nat.min_eq_left hkg] at h1
              exact wpOp_append rfl rfl rfl rfl (hI.slot 2 49 rfl (hpre ⟨2, .data⟩ (by simp) rfl) rfl) h1 ⟨_, rfl, hJ.grown h3 hJ.size (fun _ e => by cases e), fun _ => ⟨h2, fun e => h4 rfl (by rw [e]; rfl)⟩, fun j u _ h => SeV.keep (fun u N hu => h5 u N hu fun e => by rw [ownS_none hu e]; exact Nat.zero_le _) j u h⟩
            | 4, _ =>
              cases ho
              exact wpOp_load rfl rfl rfl (hI.kept (t := 3) (by kernel_rfl)) (load_en (s := enOf s) ((hJ.cell (p := ⟨w.heap.size, 0, none⟩) hZ).trans x0) ((hJ.cell (p := ⟨w.heap.size, 1, none⟩) hZ).trans x1) ((hJ.cell (p := ⟨w.heap.size, 2, none⟩) hZ).trans x2)) ⟨_, rfl, hJ, fun _ => rfl, fun _ _ _ h => h⟩
            | 5, _ =>
              cases ho
              exact wpOp_buildSlice rfl rfl rfl (vs := #[(0, .agg #[.string (str s.f), .string (str s.c), .int .i64 (s.q : Int)])]) (by rw [Array.map_singleton]; show #[(0, a.eval (.tmp 51))] = _; rw [(show a.eval (.tmp 51) = .agg #[.string (str s.f), .string (str s.c), .int .i64 (s.q : Int)] from (hI.slot 4 51 rfl (hpre ⟨4, .data⟩ (by simp) rfl) rfl))]) (build_sb w' _ _ _) ⟨_, rfl, hJ.alloc hJ.size _, fun _ => ⟨⟨_, rfl⟩, ownS_one w' _ s hJ.size⟩, fun j u _ h => SeV.keep (fun u N hu => hu.below ((Below.refl _ w').alloc (Nat.le_refl _) _)) j u h⟩
            | 6, _ =>
              cases ho
              obtain ⟨h50, hz⟩ : OwnS w' w1.heap.size (a.eval (.tmp 50)) (g.take k) ∧ (k = 0 → a.eval (.tmp 50) = .slice none 0 0) := (hI.slot 3 50 rfl (hpre ⟨3, .data⟩ (by simp) rfl) rfl)
              obtain ⟨⟨B, eB⟩, h52⟩ : (∃ B, a.eval (.tmp 52) = .slice (some ⟨B, 0, none⟩) 1 1) ∧ OwnS w' w1.heap.size (a.eval (.tmp 52)) [s] := (hI.slot 5 52 rfl (hpre ⟨5, .data⟩ (by simp) rfl) rfl)
              rw [eB] at h52
              obtain ⟨ax, cx, ex, -, hat⟩ := ownS_lies h52
              obtain ⟨rfl, rfl⟩ : some ⟨B, 0, none⟩ = ax ∧ 1 = cx := by injection ex with q1 q2 q3; exact ⟨q1, q3⟩
              obtain ⟨v2, w2, h1, h2, h3, h4, h5⟩ := run_append_subs w' w1.heap.size 27 _ (g.take k) h50 _ [s] 1 (fun e => by cases e) hat (by rw [List.length_take]; simp; omega) hJ.size
              have hlk : (g.take k).length = k := by rw [List.length_take, Nat.min_eq_left hkg]
              exact wpOp_append rfl rfl rfl rfl eB h1 ⟨_, rfl, hJ.grown h3 hJ.size (fun b e => (ownS_lt h50 b e).1), fun _ => h2, fun j u hl h => SeV.keep6 (fun u hu => h5 u _ hu fun _ => Nat.le_refl _)
                (fun u hu he => h5 u _ hu fun e => by
                  by_cases hk0 : k = 0
                  · rw [hz hk0] at e
                    obtain ⟨B2, rfl⟩ := he
                    cases e
                  · rw [hlk]; show 1 ≤ k; omega) j (by rintro rfl; rw [hn'] at hl; cases hl) (by rintro rfl; rw [hI.notyet hn' 10 (by kernel_rfl)] at hl; cases hl) (by rintro rfl; rw [hI.notyet (hI.notyet hn' 10 (by kernel_rfl)) 13 (by kernel_rfl)] at hl; cases hl) u h⟩
            | 7, _ =>
              cases ho
              exact wpOp_move rfl rfl (.inl rfl) (hI.kept (t := 0) (by kernel_rfl)) ⟨_, rfl, hJ, fun _ => rfl, fun _ _ _ h => h⟩
            | 8, _ =>
              cases ho
              exact wpOp_move rfl rfl (.inl rfl) (hI.kept (t := 9) (by kernel_rfl)) ⟨_, rfl, hJ, fun _ => rfl, fun _ _ _ h => h⟩
            | 9, _ =>
              cases ho
              exact wpOp_slice rfl rfl rfl (hI.slot 7 54 rfl (hpre ⟨7, .data⟩ (by simp) rfl) rfl) (h1 := by simp only [Option.map, (show a.eval (.tmp 55) = .int .i64 (k : Int) from (hI.slot 8 55 rfl (hpre ⟨8, .data⟩ (by simp) rfl) rfl))]) rfl rfl (slice_sb2 w' ao n cap k hmn) ⟨_, rfl, hJ, fun _ => rfl, fun _ _ _ h => h⟩
            | 10, _ =>
              cases ho
              have h53 : OwnS w' w1.heap.size (a.eval (.tmp 53)) (g.take k ++ [s]) := (hI.slot 6 53 rfl (hpre ⟨6, .data⟩ (by simp) rfl) rfl)
              have hld : (g.drop k).length = n - k := by rw [List.length_drop, hgn]
              have hlk : (g.take k ++ [s]).length = k + 1 := by rw [List.length_append, List.length_take, Nat.min_eq_left hkg]; rfl
              obtain ⟨v2, w2, h1, h2, h3, h4, h5⟩ := run_append_subs w' w1.heap.size 27 _ (g.take k ++ [s]) h53 (if cap = k then ao else ao.map (·.add (k * 3))) (g.drop k) (cap - k) (fun e => by
                by_cases hcm : cap = k
                · omega
                · rw [if_neg hcm] at e
                  have h0 := hac (by cases ao with | none => rfl | some p => cases e)
                  omega) ((hSb.below hJ).drop k cap (by omega) (by omega)) (by rw [hld, hlk]; omega) hJ.size
              rw [hld] at h1
              exact wpOp_append rfl rfl rfl rfl (hI.slot 9 56 rfl (hpre ⟨9, .data⟩ (by simp) rfl) rfl) h1 ⟨_, rfl, hJ.grown h3 hJ.size (fun b e => (ownS_lt h53 b e).1), fun _ => h2, fun j u hl h => SeV.keep10 (fun u N hN hu => h5 u N hu fun _ => by rw [hlk]; exact hN) j (by rintro rfl; rw [hn'] at hl; cases hl) (by rintro rfl; rw [hI.notyet hn' 13 (by kernel_rfl)] at hl; cases hl) u h⟩
            | 11, _ =>
              cases ho
              exact wpOp_move rfl rfl (.inl rfl) (hI.kept (t := 8) (by kernel_rfl)) ⟨_, rfl, hJ, fun _ => rfl, fun _ _ _ h => h⟩
            | 12, _ =>
              cases ho
              exact wpOp_notP rfl rfl rfl (hI.slot 11 58 rfl (hpre ⟨11, .data⟩ (by simp) rfl) rfl) rfl ⟨_, rfl, hJ, fun _ => rfl, fun _ _ _ h => h⟩
            | 13, _ =>
              cases ho
              have hM : OwnS w' w1.heap.size (a.eval (.tmp 57)) (g.take k ++ [s] ++ g.drop k) := (hI.slot 10 57 rfl (hpre ⟨10, .data⟩ (by simp) rfl) rfl)
              exact wpOp_move rfl rfl (.inr rfl) rfl ⟨_, rfl, hJ, fun _ => hM, fun _ _ _ h => h⟩
            | 14, _ =>
              cases ho
              exact wpOp_move rfl rfl (.inr rfl) (hI.slot 12 59 rfl (hpre ⟨12, .data⟩ (by simp) rfl) rfl) ⟨_, rfl, hJ, fun _ => rfl, fun _ _ _ h => h⟩
            | 15, _ =>
              cases ho
              exact wpOp_move rfl rfl (.inr rfl) rfl ⟨_, rfl, hJ, fun _ => rfl, fun _ _ _ h => h⟩
          case fin =>
            intro listed a w' hI hall
            have hJ := hI.inv
            have hM : OwnS w' w1.heap.size (a.tmps.getD 4 undef) (g.take k ++ [s] ++ g.drop k) := hI.slot 13 4 rfl (hall 13 (by decide)) rfl
            have eS5 : a.tmps.getD 5 undef = .bool (!false) := hI.slot 14 5 rfl (hall 14 (by decide)) rfl
            have eS6 : a.tmps.getD 6 undef = .int .i64 0 := hI.slot 15 6 rfl (hall 15 (by decide)) rfl
            obtain ⟨vs, us, hvl, hul, hvs, hus, e⟩ := hI.frame2 4 3 47 13 (by decide) (Nat.le_of_ble_eq_true (by kernel_rfl)) (by kernel_rfl)
            have vS4 := hvs 0 (by decide)
            have vS5 := hvs 1 (by decide)
            have vS6 := hvs 2 (by decide)
            clear hI hall hvs hus
            match vs, us, hvl, hul with
            | [e0, e1, e2], [y0, y1, y2, y3, y4, y5, y6, y7, y8, y9, y10, y11, y12], _, _ =>
              simp only [List.getElem?_cons_zero, List.getElem?_cons_succ, Option.some.injEq] at vS4 vS5 vS6
              rw [show 4 + 0 = 4 from rfl] at vS4
              rw [show 4 + 1 = 5 from rfl, eS5] at vS5
              rw [show 4 + 2 = 6 from rfl, eS6] at vS6
              subst vS5
              subst vS6
              rw [← vS4] at hM
              simp only [List.take_succ_cons, List.take_zero, List.drop_succ_cons, List.drop_zero, List.cons_append, List.nil_append, Nat.reduceAdd, Nat.reduceSub] at e
              subst e
              have HM := Lib.hid hM
              have HJ := Lib.hid hJ
              clear hM hJ vS4
              go_wp2
              refine bodyPost_ret (results_tmp3 rfl _ _ _) rfl ?_
              exact ⟨e0, rfl, by have h := hfin e0 _ HM.out; rw [hs] at h; exact h, HB1.out.trans (HJ.out.mono HB1.out.size)⟩

end Go.Proofs.YtgcfgheamaoceaaGreatDoor
