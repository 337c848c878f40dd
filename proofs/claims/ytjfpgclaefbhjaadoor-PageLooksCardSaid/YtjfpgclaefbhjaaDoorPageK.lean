/- Layer 4: the laws' own example: a leaf without a body. -/
import Derived.Test.YtjfpgclaefbhjaaDoorPageM
namespace Go.Proofs.YtjfpgclaefbhjaaDoor
open Go.RowKit

theorem at_place {l m : List UInt8} {i k : Nat} (h : (l.drop i).take k = m) (j : Nat) (hj : j < k) : l[i + j]? = m[j]? := by
  rw [← h, List.getElem?_take, if_pos hj, List.getElem?_drop]
/-- Where the laws find the tables. -/
structure Given (w : World) : Prop where
  tab : Tab w
  tabs : 1 + 1 ≤ w.heap.size
  texts : Texts w
  textss : 0 + 1 ≤ w.heap.size
theorem Given.below {w w' : World} (h : Given w) (hb : Below w.heap.size w w') : Given w' :=
  ⟨h.tab.below h.tabs hb, Nat.le_trans h.tabs hb.size, h.texts.below h.textss hb, Nat.le_trans h.textss hb.size⟩
theorem text4 (w : World) (h : Given w) : Calls Tryd.prog 18 #[.int .i64 4] w fun e w' => e = .returned (.tuple #[.string ⟨#[99, 104, 97, 105, 110]⟩, .int .i64 0]) ∧ w = w' := by
  have := text_any 4 w h.texts
  rw [show kindB 4 = true by decide] at this
  exact this
theorem text6 (w : World) (h : Given w) : Calls Tryd.prog 18 #[.int .i64 6] w fun e w' => e = .returned (.tuple #[.string ⟨#[]⟩, .int .i64 2]) ∧ w = w' := by
  have := text_any 6 w h.texts
  rw [show kindB 6 = false by decide] at this
  exact this
def leaf0 : Pg := ⟨2, 7, 0, []⟩
theorem leaf0_ok : leaf0.ok := ⟨by decide, by decide, by decide, by decide, by decide⟩
set_option maxHeartbeats 2000000 in
set_option maxRecDepth 100000 in
theorem pknown_any (w : World) (hG : Given w) : Calls Tryd.prog 8 #[] w fun e w' => e = .returned (.bool true) ∧ Below w.heap.size w w' := by
  have hraw := raw_yes 3 (by decide) leaf0 leaf0_ok none 0 w w.heap.size (Nat.le_refl _) .nil (fun _ => rfl) (Nat.le_refl _) hG.tab hG.tabs
  obtain ⟨r, hr⟩ : ∃ r, leaf0.raw 3 = r := ⟨_, rfl⟩
  have hlk := raw_look leaf0_ok (n := 3) (by decide)
  have hlen := Pg.raw_len (n := 3) leaf0_ok
  obtain ⟨-, -, k1, s1, t8, n4, -, -⟩ := raw_places 3 leaf0
  rw [hr] at hraw hlk hlen k1 s1 t8 n4
  have b4 : r[4]?.getD 0 = 2 := by rw [show 4 = 4 + 0 from rfl, at_place k1 0 (by decide)]; rfl
  have b5 : r[5]?.getD 0 = 0 := by rw [show 5 = 5 + 0 from rfl, at_place s1 0 (by decide)]; rfl
  have b13 : r[13]?.getD 0 = 7 := by rw [show 13 = 6 + 7 from rfl, at_place t8 7 (by decide)]; rfl
  have b17 : r[17]?.getD 0 = 3 := by rw [show 17 = 14 + 3 from rfl, at_place n4 3 (by decide)]; rfl
  have HRW := Lib.hid hraw
  have HG := Lib.hid hG
  have HL := Lib.hid (And.intro hlk hlen)
  have HB := Lib.hid (And.intro b4 (And.intro b5 (And.intro b13 b17)))
  clear hraw hG hlk hlen b4 b5 b13 b17 k1 s1 t8 n4 hr
  go_enter Tryd.func8, Tryd.ntmps8
  go_wp2_with fail
  refine HRW.out.mono ?_
  rintro e w1 ⟨v1, rfl, hO1, hb1⟩
  rcases hO1.bytes with ⟨-, hnil⟩ | ⟨g, cap, rfl, hglo, hglt, hcap, hcapm, hBy, hcells⟩
  · have := HL.out.2; rw [hnil] at this; simp at this
  have hc4 := (hcells 4 (by rw [HL.out.2]; decide)).1
  have hc5 := (hcells 5 (by rw [HL.out.2]; decide)).1
  have hc13 := (hcells 13 (by rw [HL.out.2]; decide)).1
  have hc17 := (hcells 17 (by rw [HL.out.2]; decide)).1
  rw [HB.out.1] at hc4
  rw [HB.out.2.1] at hc5
  rw [HB.out.2.2.1] at hc13
  rw [HB.out.2.2.2] at hc17
  simp only [show ((2 : UInt8).toNat : Int) = 2 from rfl, show ((0 : UInt8).toNat : Int) = 0 from rfl, show ((7 : UInt8).toNat : Int) = 7 from rfl, show ((3 : UInt8).toNat : Int) = 3 from rfl] at hc4 hc5 hc13 hc17
  have hp4 := fun w' (hb : Below w1.heap.size w1 w') => parse_any 4 r (some ⟨g, 0, none⟩) cap w1.heap.size hcap w' (hBy.below hb) hb.size (fun e => by cases e) (HG.out.below (go_on hb1 hb)).tab (HG.out.below (go_on hb1 hb)).tabs
  have hp3 := fun w' (hb : Below w1.heap.size w1 w') => parse_any 3 r (some ⟨g, 0, none⟩) cap w1.heap.size hcap w' (hBy.below hb) hb.size (fun e => by cases e) (HG.out.below (go_on hb1 hb)).tab (HG.out.below (go_on hb1 hb)).tabs
  rw [HL.out.2] at hp4 hp3 ⊢
  have HP4 := Lib.hid hp4
  have HP3 := Lib.hid hp3
  have HX := Lib.hid hb1
  clear hp4 hp3 hO1 hb1 hcells hBy hcap hcapm hglo HRW
  have hE4 : parseE 4 r = 141 := by unfold parseE; rw [show numB 4 = true by decide, if_pos rfl, if_pos HL.out.1.1, HL.out.1.2.2]; decide
  have hE3 : parseE 3 r = 0 := by unfold parseE; rw [show numB 3 = true by decide, if_pos rfl, if_pos HL.out.1.1, HL.out.1.2.2]; decide
  have hT7 : wrap64 (atT r : Int) = 7 := by
    have h1 := congrArg Pg.t HL.out.1.2.1
    rw [show atT r = 7 from h1]; exact wrap_small (by decide)
  have HE := Lib.hid (And.intro hE4 (And.intro hE3 hT7))
  clear hE4 hE3 hT7
  go_wp2_with fail
  refine (HP4.out w1 (Below.refl _ _)).mono ?_
  rintro e w2 ⟨hb2, ⟨he, -⟩ | ⟨-, rfl⟩⟩
  · rw [HE.out.1] at he; cases he
  rw [HE.out.1]
  have HX2 := Lib.hid (hb2.alloc hb2.size (.cells #[.int .i64 0, .int .i64 0, .int .i64 0, .slice none 0 0] 25))
  clear hb2 hc4 hc5 hc13 hc17
  go_wp2_with fail
  refine (HP3.out _ HX2.out).mono ?_
  rintro e w3 ⟨hb3, ⟨-, ar, cr, rfl, -⟩ | ⟨he, -⟩⟩
  case inr => exact absurd HE.out.2.1 he
  have hbw3 := go_on HX.out (go_on HX2.out hb3)
  obtain ⟨ab, hab⟩ : ∃ ab, bodyAt ar (atS r) = ab := ⟨_, rfl⟩
  obtain ⟨k, hk⟩ : ∃ n, atK r = n := ⟨_, rfl⟩
  obtain ⟨x, hx⟩ : ∃ n, atX r = n := ⟨_, rfl⟩
  obtain ⟨sz, hsz⟩ : ∃ n, atS r = n := ⟨_, rfl⟩
  rw [hab, hk, hx, hsz, HE.out.2.2]
  have H3 := Lib.hid hbw3
  clear hab hk hx hsz hbw3 hb3
  go_wp2_with (first
    | (go_at_call 18; refine (text4 _ (HG.out.below (go_new H3.out _))).mono ?_; rintro e w4 ⟨rfl, rfl⟩)
    | (go_at_call 18; refine (text6 _ (HG.out.below (go_new H3.out _))).mono ?_; rintro e w4 ⟨rfl, rfl⟩))
  go_ret
  exact ⟨rfl, go_new H3.out _⟩
end Go.Proofs.YtjfpgclaefbhjaaDoor
