/- Layer 5: SlotsSame: lists are the same just if all of them is; what is told is a copy. -/
import Derived.Test.YtaclbloconlhnaaSlHv
namespace Go.Proofs.Ytaclbloconlhnaa
open Go.RowKit

/-- A run of cells that the call made, whatever their pages. -/
def PgRow (w : World) (base : Nat) (v : Value) (N : Nat) : Prop := ∃ xs : List Value, w.ownsRow base 50 5 v N xs ∧ ∀ j, j < N → ∃ z : Int, xs[j * 5 + 3]? = some (.int .i64 z)
theorem OwnC.pg {w : World} {base : Nat} {v : Value} {M : List Cv} (h : OwnC w base v M) : PgRow w base v M.length :=
  ⟨cellsL M, h, fun j hj => ⟨(M.getD j default).page, by rw [cellsL_at M j 3 hj (by omega)]; rfl⟩⟩
theorem PgRow.shape {w : World} {base : Nat} {v : Value} {N : Nat} (h : PgRow w base v N) : ∃ a c, v = .slice a N c ∧ (0 < N → ∃ g, a = some ⟨g, 0, none⟩ ∧ base ≤ g ∧ g < w.heap.size ∧ ∀ j, j < N → ∃ z : Int, w.cell? ⟨g, j * 5 + 3, none⟩ = some (.int .i64 z) ∧ w.frozen? ⟨g, j * 5 + 3, none⟩ = false) := by
  obtain ⟨xs, ⟨hlen, ⟨rfl, h0⟩ | ⟨g, cap, cur, rfl, hg, hh, hn, hcap, hsz, htk⟩⟩, hp⟩ := h
  · exact ⟨none, 0, by rw [h0], fun h => by omega⟩
  · refine ⟨_, cap, rfl, fun _ => ⟨g, rfl, hg, (Array.getElem?_eq_some_iff.1 hh).1, fun j hj => ?_⟩⟩
    obtain ⟨z, hz⟩ := hp j hj
    refine ⟨z, ?_, frozen_of_row w g _ _ _ hh⟩
    rw [cell_of_row w g _ _ _ _ hh]
    rw [← htk, List.getElem?_take, if_pos (by omega), Array.getElem?_toList] at hz
    exact hz
theorem PgRow.set {w : World} {base g c : Nat} {N : Nat} (h : PgRow w base (.slice (some ⟨g, 0, none⟩) N c) N) (i : Nat) (z : Int) : PgRow (w.setCell ⟨g, i, none⟩ (.int .i64 z)) base (.slice (some ⟨g, 0, none⟩) N c) N := by
  obtain ⟨xs, ⟨hlen, ⟨e, _⟩ | ⟨g', cap', cur, e, hb, hh, hn, hc, hs, ht⟩⟩, hp⟩ := h
  · cases e
  · cases e
    refine ⟨xs.set i (.int .i64 z), ⟨by simpa using hlen, .inr ⟨g, c, _, rfl, hb, heap_setCell_same w g i cur _ _ hh, hn, hc, by simpa using hs, ?_⟩⟩, fun j hj => ?_⟩
    · rw [Array.toList_setIfInBounds, List.take_set, ht]
    · obtain ⟨z', hz'⟩ := hp j hj
      by_cases hij : i = j * 5 + 3
      · subst hij
        exact ⟨z, by rw [List.getElem?_set_self (List.getElem?_eq_some_iff.1 hz').1]⟩
      · exact ⟨z', by rw [List.getElem?_set_ne hij]; exact hz'⟩
theorem PgRow.kept {w w' : World} {base : Nat} {v : Value} {N : Nat} (h : PgRow w base v N) (hg : ∀ g, v.ownBlock = some g → w'.heap[g]? = w.heap[g]?) : PgRow w' base v N := by
  obtain ⟨xs, ⟨h1, h2⟩, hp⟩ := h
  refine ⟨xs, ⟨h1, ?_⟩, hp⟩
  rcases h2 with e | ⟨g, cp, cur, rfl, hb, hh, r⟩
  · exact .inl e
  · exact .inr ⟨g, cp, cur, rfl, hb, (hg g rfl).trans hh, r⟩
theorem same_refl (c : Cv) : c.same c = true := Cv.same_iff.2 rfl
theorem sameL_refl (L : List Cv) : sameL L L := ⟨rfl, fun _ _ => same_refl _⟩
/-- Two parts of cells that rise stand in two blocks. -/
theorem parts_apart {w : World} {k : Int} {L : List Cv} {n base : Nat} {v1 v2 : Value} (hr : RightC k L) (hn1 : 1 ≤ n) (hn2 : n < L.length) (h1 : OwnC w base v1 (L.take n)) (h2 : OwnC w base v2 (L.drop n)) (g : Nat) (e1 : v1.ownBlock = some g) (e2 : v2.ownBlock = some g) : False := by
  obtain ⟨a1, c1, rfl, -, -, -, k1, m1⟩ := h1.form
  obtain ⟨a2, c2, rfl, -, -, -, k2, m2⟩ := h2.form
  have ne1 : L.take n ≠ [] := by intro e; have := congrArg List.length e; rw [List.length_take, List.length_nil] at this; omega
  have ne2 : L.drop n ≠ [] := by intro e; have := congrArg List.length e; rw [List.length_drop, List.length_nil] at this; omega
  obtain ⟨g1, rfl, -⟩ := m1 ne1
  obtain ⟨g2, rfl, -⟩ := m2 ne2
  cases e1
  cases e2
  obtain ⟨b1, o1, q1, -, f1⟩ := k1 ne1
  obtain ⟨b2, o2, q2, -, f2⟩ := k2 ne2
  cases q1
  cases q2
  have x1 := (f1 0 (by rw [List.length_take]; omega)).key
  have x2 := (f2 0 (by rw [List.length_drop]; omega)).key
  rw [x1] at x2
  have e : ((L.take n).getD 0 default).key = ((L.drop n).getD 0 default).key := by
    have h9 := Option.some.inj x2
    injection h9
  have t1 : (L.take n).getD 0 default = L.getD 0 default := by simp [List.getD, show 0 < n by omega]
  have t2 : (L.drop n).getD 0 default = L.getD n default := by simp [List.getD, List.getElem?_drop]
  rw [t1, t2] at e
  have := rise_lt hr (show 0 < n by omega) hn2
  rw [e, less_irrefl] at this
  cases this
set_option maxRecDepth 100000 in
set_option maxHeartbeats 4000000 in
theorem slotsSame_any (k : Int) (hw : (Lit.int .i64 k).wf = true) (a : Option Addr) (L : List Cv) (cap : Nat) (hle : L.length ≤ cap) (hcm : cap ≤ maxLen) (hno : a = none → cap = 0) (a2 : Option Addr) (M : List Cv) (cap2 : Nat) (hle2 : M.length ≤ cap2) (hcm2 : cap2 ≤ maxLen) (W : World) (hm : CellsAt W.heap.size W a L) (hs : Sized L) (hm2 : CellsAt W.heap.size W a2 M) (hs2 : Sized M) :
    Calls Try.prog 7 #[.int .i64 k, .slice a L.length cap, .slice a2 M.length cap2] W fun e W' => e = .returned (.bool true) ∧ Below W.heap.size W W' := by
  have HM := Lib.hid (And.intro hm hm2)
  have hcm' : cap ≤ 9223372036854775807 := by unfold maxLen at hcm; omega
  have hcm2' : cap2 ≤ 9223372036854775807 := by unfold maxLen at hcm2; omega
  have HF := Lib.hid (few_any a L cap (by omega) W hm hs)
  have HF2 := Lib.hid (few_any a2 M cap2 (by omega) W hm2 hs2)
  clear hm hs hm2 hs2 hcm hcm2
  go_enter Try.func7, Try.ntmps7
  go_wp2_with fail
  refine HF.out.mono ?_
  rintro e w ⟨bf, rfl, rfl, hfew⟩
  cases bf
  · clear hfew HF
    go_wp2_with fail
    refine (known_any _).mono ?_
    rintro e w' ⟨rfl, hb⟩
    go_wp2
    go_ret
    exact ⟨rfl, hb⟩
  have h60 := (hfew rfl).1
  clear hfew HF
  go_wp2_with fail
  refine HF2.out.mono ?_
  rintro e w ⟨bf, rfl, rfl, hfew⟩
  cases bf
  · clear hfew HF2
    go_wp2_with fail
    refine (known_any _).mono ?_
    rintro e w' ⟨rfl, hb⟩
    go_wp2
    go_ret
    exact ⟨rfl, hb⟩
  have h602 := (hfew rfl).1
  clear hfew HF2
  obtain ⟨i0, hi, hz0, hz1, hz2⟩ := info_parts infoCell
  have HAP := Lib.hid (show ∀ (w : World) (ops : Array Oper) (rest : List Oper) (o : Oper) (ac : Act) (Q : Exit → Act → World → Prop) (hgd : o.guard = none) (s x : Operand) (_ : o.op = .call { callee := .builtin .append, args := #[s, x], argTypes := #[23, 23] }) (_ : ac.eval s = .slice none 0 0) (_ : ac.eval x = .slice a L.length cap) (_ : CellsAt w.heap.size w a L)
    (_ : ∀ v' w', OwnC w' w.heap.size v' L → Below w.heap.size w w' → wpList Try.prog ops Q rest (ac.put o.dst v') w'), wpList Try.prog ops Q (o :: rest) ac w from by
    intro w ops rest o ac Q hgd s x ho hs hx hc hK
    cases L with
    | nil =>
      cases a with
      | none =>
        obtain rfl := hno rfl
        exact wpList_append_own_none hgd s x 23 ho w.heap.size 50 i0 5 Try.underlying23 hi (.slice none 0 0) 0 [] hs (World.ownsRow_nil w _ _ _) hx (hK _ _ (OwnC.nil _ _) (Below.refl _ _))
      | some ad =>
        refine wpList_append_own_at w hgd s x 23 ho w.heap.size 50 i0 _ 5 56 Try.underlying23 hi hz0 hz1 hz2 rfl (by decide) (.slice none 0 0) 0 [] hs (World.ownsRow_nil w _ _ _) ad 0 cap [] hx rfl (by intro j u hu; simp at hu) (by intro u hu; simp at hu) (by unfold maxLen; omega) (by omega) (Nat.le_refl _)
          (fun v' w' k1 k2 _ _ => hK v' w' (by simpa [OwnC, cellsL] using k1) ((Below.refl _ _).grown k2 (Nat.le_refl _) (fun q e => by cases e)))
    | cons c L' =>
      obtain ⟨b, off, rfl, hb, hcs⟩ := hc (by simp)
      refine wpList_append_cell hgd s x ho w.heap.size _ [] hs (OwnC.nil _ _) b off cap (c :: L') hx hcs (by simp at h60 ⊢; omega) (Nat.le_refl _) (fun v' w' k1 k2 => hK v' w' (by simpa using k1) ((Below.refl _ _).grown k2 (Nat.le_refl _) (fun q e => by cases e))))
  go_wp2_with (at_builtin; refine HAP.out _ _ _ _ _ _ rfl _ _ rfl rfl rfl HM.out.1 ?_; intro v3 w3 hO3 hb3; have H3 := Lib.hid (And.intro hO3 hb3); clear hO3 hb3)
  obtain ⟨a3, c3, e3, -, -, -, hc3, -⟩ := H3.out.1.form
  have hc3 := Lib.hid hc3
  subst e3
  refine (halve_any k hw w3 a L cap hle (by omega) ((HM.out.1.below H3.out.2).mono H3.out.2.size)).mono ?_
  rintro e w4 ⟨hb4, hpost⟩
  have hgen : ∃ (v1 v2 : Value) (N1 N2 : Nat) (er : Int), e = .returned (.tuple #[v1, v2, .int .i64 er]) ∧ PgRow w4 w3.heap.size v1 N1 ∧ PgRow w4 w3.heap.size v2 N2 ∧ (∀ g, v1.ownBlock = some g → v2.ownBlock ≠ some g) ∧ ((er = 0 ∧ 0 < N1 ∧ 0 < N2) ∨ (er = 2 ∧ N1 = 0 ∧ N2 = 0)) ∧ N1 ≤ 60 ∧ N2 ≤ 60 := by
    rcases hpost with ⟨⟨hr, hl2⟩, n, least, v1, v2, hmid, he, ho1, ho2⟩ | ⟨-, he⟩
    · obtain ⟨hn1, hn2, -⟩ := hmid.2 (by omega)
      have l1 : (L.take n).length = n := by rw [List.length_take]; omega
      have l2 : (L.drop n).length = L.length - n := List.length_drop
      exact ⟨v1, v2, _, _, 0, he, ho1.pg, ho2.pg, fun g e1 e2 => parts_apart hr hn1 (by omega) ho1 ho2 g e1 e2, .inl ⟨rfl, by omega, by omega⟩, by omega, by omega⟩
    · exact ⟨.slice none 0 0, .slice none 0 0, 0, 0, 2, he, (OwnC.nil _ _).pg, (OwnC.nil _ _).pg, (fun g e => by cases e), .inr ⟨rfl, rfl, rfl⟩, by omega, by omega⟩
  obtain ⟨v1, v2, N1, N2, er, rfl, hp1, hp2, hsep, her, hN1, hN2⟩ := hgen
  obtain ⟨a4, c4, rfl, -⟩ := hp1.shape
  obtain ⟨a5, c5, rfl, -⟩ := hp2.shape
  have H4 := Lib.hid (And.intro hb4 (And.intro hp1 (And.intro hp2 (And.intro hsep her))))
  clear hb4 hpost hp1 hp2 hsep her
  go_wp2
  go_loopw [11, 31, 32, 33, 34, 35, 36, 37, 38, 39, 40, 41, 42, 43, 44] (fun y _ _ _ _ _ _ _ _ _ _ _ _ _ _ wr => Below w3.heap.size w3 wr ∧ PgRow wr w3.heap.size (.slice a4 N1 c4) N1 ∧ PgRow wr w3.heap.size (.slice a5 N2 c5) N2 ∧ ∃ i : Nat, y = .int .i64 i ∧ i ≤ N1) (fun y _ _ _ _ _ _ _ _ _ _ _ _ _ _ _ => N1 - (intOf y).toNat)
  case atStart => exact ⟨H4.out.1, H4.out.2.1, H4.out.2.2.1, 0, rfl, Nat.zero_le _⟩
  case round =>
    obtain ⟨hb, hp1, hp2, i, rfl, hi⟩ := hrel
    by_cases hlt : i < N1
    · have hiN : (i : Int) < (N1 : Int) := by omega
      obtain ⟨a', c', e', hsh⟩ := hp1.shape
      cases e'
      obtain ⟨g, rfl, hg, hgl, hcs⟩ := hsh (by omega)
      obtain ⟨z, hz, hf⟩ := hcs i hlt
      have HX := Lib.hid (And.intro hb (And.intro hp1 (And.intro hp2 hg)))
      have hz' : wr.cell? ⟨g, 0 + i * 5 + 3, none⟩ = some (.int .i64 z) := by rw [Nat.zero_add]; exact hz
      have hf' : wr.frozen? ⟨g, 0 + i * 5 + 3, none⟩ = false := by rw [Nat.zero_add]; exact hf
      clear hb hp1 hp2 hsh hcs
      go_wp2
      refine ⟨⟨HX.out.1.setCell HX.out.2.2.2 _, HX.out.2.1.set _ _, HX.out.2.2.1.kept (fun g' hg' => Below.heap_setCell wr _ _ g' (fun e => H4.out.2.2.2.1 g rfl (by rw [hg']; exact congrArg some e))), i + 1, by go_num, hlt⟩, by simp only [intOf]; omega⟩
    · obtain rfl : i = N1 := by omega
      have hiN : ¬ ((i : Int) < (i : Int)) := by omega
      have HX := Lib.hid (And.intro hb (And.intro hp1 hp2))
      clear hb hp1 hp2
      go_wp2
      go_loopw [12, 45, 46, 47, 48, 49, 50, 51, 52, 53, 54, 55, 56, 57, 58] (fun y _ _ _ _ _ _ _ _ _ _ _ _ _ _ wr => Below w3.heap.size w3 wr ∧ PgRow wr w3.heap.size (.slice a5 N2 c5) N2 ∧ ∃ j : Nat, y = .int .i64 j ∧ j ≤ N2) (fun y _ _ _ _ _ _ _ _ _ _ _ _ _ _ _ => N2 - (intOf y).toNat)
      case atStart => exact ⟨HX.out.1, HX.out.2.2, 0, rfl, Nat.zero_le _⟩
      case round =>
        obtain ⟨hb, hp2, j, rfl, hj⟩ := hrel
        by_cases hlt2 : j < N2
        · have hjN : (j : Int) < (N2 : Int) := by omega
          obtain ⟨a', c', e', hsh⟩ := hp2.shape
          cases e'
          obtain ⟨g, rfl, hg, hgl, hcs⟩ := hsh (by omega)
          obtain ⟨z, hz, hf⟩ := hcs j hlt2
          have HX2 := Lib.hid (And.intro hb (And.intro hp2 hg))
          have hz' : wr.cell? ⟨g, 0 + j * 5 + 3, none⟩ = some (.int .i64 z) := by rw [Nat.zero_add]; exact hz
          have hf' : wr.frozen? ⟨g, 0 + j * 5 + 3, none⟩ = false := by rw [Nat.zero_add]; exact hf
          clear hb hp2 hsh hcs
          go_wp2
          exact ⟨⟨HX2.out.1.setCell HX2.out.2.2 _, HX2.out.2.1.set _ _, j + 1, by go_num, hlt2⟩, by simp only [intOf]; omega⟩
        · obtain rfl : j = N2 := by omega
          have hjN : ¬ ((j : Int) < (j : Int)) := by omega
          have hbW := go_on H3.out.2 hb
          have hwas := (hc3.out.below hb).mono hb.size
          have ha := (HM.out.1.below hbW).mono hbW.size
          have ha2 := (HM.out.2.below hbW).mono hbW.size
          have HE := Lib.hid (And.intro hbW (And.intro hwas (And.intro ha ha2)))
          have HS1 := Lib.hid (sameR_any wr a L cap a3 L c3 ha hwas (by omega) (by omega))
          have HER := Lib.hid H4.out.2.2.2.2
          have HREST := Lib.hid (show ∀ (w5 : World), Below wr.heap.size wr w5 → Below W.heap.size W w5 ∧ CellsAt w5.heap.size w5 a3 L ∧ CellsAt w5.heap.size w5 a L ∧ CellsAt w5.heap.size w5 a2 M from fun w5 h5 =>
            ⟨go_on HE.out.1 h5, (HE.out.2.1.below h5).mono h5.size, (HE.out.2.2.1.below h5).mono h5.size, (HE.out.2.2.2.below h5).mono h5.size⟩)
          clear hb hp2 hbW hwas ha ha2
          rcases HER.out with ⟨rfl, hn1, hn2⟩ | ⟨rfl, rfl, rfl⟩
          case inl =>
            have d1 : (0 : Int) < (i : Int) := by omega
            have d2 : (0 : Int) < (j : Int) := by omega
            have d3 : decide ((0 : Int) < (i : Int)) = true := decide_eq_true d1
            have d4 : decide ((0 : Int) < (j : Int)) = true := decide_eq_true d2
            clear hn1 hn2
            go_wp2_with fail
            refine HS1.out.mono ?_
            rintro e w5 ⟨hb5, ⟨-, rfl⟩ | ⟨hn, -⟩⟩
            case inr => exact absurd (sameL_refl L) hn
            obtain ⟨r1, r2, r3, r4⟩ := HREST.out w5 hb5
            have HS2 := Lib.hid (sameP_any w5 a L cap a2 M cap2 r3 r4 (by omega) (by omega))
            have H5 := Lib.hid hb5
            clear hb5 r1 r2 r3 r4
            go_wp2_with fail
            refine HS2.out.mono ?_
            rintro e w6 ⟨hb6, hsm⟩
            have H6 := Lib.hid (go_on H5.out hb6)
            obtain ⟨q, rfl, hq⟩ : ∃ q : Bool, e = .returned (.bool q) ∧ (q = true ↔ sameL L M) := by
              rcases hsm with ⟨h, rfl⟩ | ⟨h, rfl⟩
              · exact ⟨true, rfl, fun _ => h, fun _ => rfl⟩
              · exact ⟨false, rfl, fun e => (by cases e), fun e => absurd e h⟩
            obtain ⟨r1, r2, r3, r4⟩ := HREST.out w6 H6.out
            have HS3 := Lib.hid (sameR_any w6 a L cap a2 M cap2 r3 r4 (by omega) (by omega))
            have HQ := Lib.hid hq
            clear hb6 hsm hq r1 r2 r3 r4
            go_wp2_with fail
            refine HS3.out.mono ?_
            rintro e w7 ⟨hb7, hsm⟩
            have H7 := Lib.hid (go_on H6.out hb7)
            obtain rfl : e = .returned (.bool q) := by
              rcases hsm with ⟨h, rfl⟩ | ⟨h, rfl⟩
              · rw [HQ.out.2 h]
              · cases q
                · rfl
                · exact absurd (HQ.out.1 rfl) h
            obtain ⟨r1, r2, r3, r4⟩ := HREST.out w7 H7.out
            have HS4 := Lib.hid (sameP_any w7 a L cap a3 L c3 r3 r2 (by omega) (by omega))
            clear hb7 hsm r1 r2 r3 r4
            cases q
            all_goals
              go_wp2_with fail
              refine HS4.out.mono ?_
              rintro e w8 ⟨hb8, ⟨-, rfl⟩ | ⟨hn, -⟩⟩
              case inr => exact absurd (sameL_refl L) hn
              obtain ⟨r1, -, -, -⟩ := HREST.out w8 (go_on H7.out hb8)
              have H8 := Lib.hid r1
              clear hb8 r1
              go_wp2_with fail
              refine (known_any _).mono ?_
              rintro e w' ⟨rfl, hb⟩
              go_wp2
              go_ret
              exact ⟨rfl, go_on H8.out hb⟩
          case inr =>
            go_wp2_with fail
            refine HS1.out.mono ?_
            rintro e w5 ⟨hb5, ⟨-, rfl⟩ | ⟨hn, -⟩⟩
            case inr => exact absurd (sameL_refl L) hn
            obtain ⟨r1, r2, r3, r4⟩ := HREST.out w5 hb5
            have HS2 := Lib.hid (sameP_any w5 a L cap a2 M cap2 r3 r4 (by omega) (by omega))
            have H5 := Lib.hid hb5
            clear hb5 r1 r2 r3 r4
            go_wp2_with fail
            refine HS2.out.mono ?_
            rintro e w6 ⟨hb6, hsm⟩
            have H6 := Lib.hid (go_on H5.out hb6)
            obtain ⟨q, rfl, hq⟩ : ∃ q : Bool, e = .returned (.bool q) ∧ (q = true ↔ sameL L M) := by
              rcases hsm with ⟨h, rfl⟩ | ⟨h, rfl⟩
              · exact ⟨true, rfl, fun _ => h, fun _ => rfl⟩
              · exact ⟨false, rfl, fun e => (by cases e), fun e => absurd e h⟩
            obtain ⟨r1, r2, r3, r4⟩ := HREST.out w6 H6.out
            have HS3 := Lib.hid (sameR_any w6 a L cap a2 M cap2 r3 r4 (by omega) (by omega))
            have HQ := Lib.hid hq
            clear hb6 hsm hq r1 r2 r3 r4
            go_wp2_with fail
            refine HS3.out.mono ?_
            rintro e w7 ⟨hb7, hsm⟩
            have H7 := Lib.hid (go_on H6.out hb7)
            obtain rfl : e = .returned (.bool q) := by
              rcases hsm with ⟨h, rfl⟩ | ⟨h, rfl⟩
              · rw [HQ.out.2 h]
              · cases q
                · rfl
                · exact absurd (HQ.out.1 rfl) h
            obtain ⟨r1, r2, r3, r4⟩ := HREST.out w7 H7.out
            have HS4 := Lib.hid (sameP_any w7 a L cap a3 L c3 r3 r2 (by omega) (by omega))
            clear hb7 hsm r1 r2 r3 r4
            cases q
            all_goals
              go_wp2_with fail
              refine HS4.out.mono ?_
              rintro e w8 ⟨hb8, ⟨-, rfl⟩ | ⟨hn, -⟩⟩
              case inr => exact absurd (sameL_refl L) hn
              obtain ⟨r1, -, -, -⟩ := HREST.out w8 (go_on H7.out hb8)
              have H8 := Lib.hid r1
              clear hb8 r1
              go_wp2_with fail
              refine (known_any _).mono ?_
              rintro e w' ⟨rfl, hb⟩
              go_wp2
              go_ret
              exact ⟨rfl, go_on H8.out hb⟩
end Go.Proofs.Ytaclbloconlhnaa
