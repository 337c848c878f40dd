/- Layer 4: the law on the page of any bytes. -/
import Derived.Test.YtjfpgclaefbhjaaDoorPageQ
import Derived.Test.YtjfpgclaefbhjaaDoorPageRaws
namespace Go.Proofs.YtjfpgclaefbhjaaDoor
open Go.RowKit

theorem at_none {n₁ : Nat} {w : World} {a : Option Addr} {l : List UInt8} (h : BytesAt n₁ w a l) (e : a = none) : l.length = 0 := by
  cases l with
  | nil => rfl
  | cons x t => obtain ⟨b, o, h, -⟩ := h (by simp); rw [e] at h; cases h
theorem same_nought (W : World) : Calls Tryd.prog 15 #[pgv 0 0 0 none 0 0, pgv 0 0 0 none 0 0] W fun e w' => e = .returned (.bool true) ∧ Below W.heap.size W w' :=
  rsame_any W W.heap.size (Nat.le_refl _) 0 0 0 none [] 0 0 0 0 none [] 0 .nil .nil
set_option maxHeartbeats 4000000 in
set_option maxRecDepth 100000 in
theorem pageLooks_any (a : Option Addr) (b : List UInt8) (c : Nat) (n : Int) (hno : a = none → c = 0) (hlc : b.length ≤ c) (hl : b.length ≤ 9223372036854775807) (w : World) (ha : BytesAt w.heap.size w a b) (hG : Given w) :
    Calls Tryd.prog 4 #[.slice a b.length c, .int .i64 n] w fun e w' => e = .returned (.bool true) ∧ Below w.heap.size w w' := by
  have HK := Lib.hid (fun W (h : Below w.heap.size w W) => pknown_any W (hG.below h))
  by_cases h1 : 300 < b.length
  · have hd : decide ((300 : Int) < (b.length : Int)) = true := by simp; omega
    clear ha hG
    go_enter Tryd.func4, Tryd.ntmps4
    go_wp2_with fail
    refine (HK.out w (Below.refl _ _)).mono ?_
    rintro e w' ⟨rfl, hb'⟩
    have HB := Lib.hid hb'
    clear hb'
    go_wp2
    go_ret
    exact ⟨rfl, HB.out⟩
  have hd : decide ((300 : Int) < (b.length : Int)) = false := by simp; omega
  have hla := fun W (h : Below w.heap.size w W) => look_any b a c w.heap.size hlc W (ha.below h) h.size hno (hG.below h).tab (hG.below h).tabs
  have hda := fun W (h : Below w.heap.size w W) => dlook_any b a c w.heap.size hlc hl W (ha.below h) h.size hno
  have hpa := fun W (h : Below w.heap.size w W) => parse_any n b a c w.heap.size hlc W (ha.below h) h.size hno (hG.below h).tab (hG.below h).tabs
  have hnum : (numB n = true ∧ ¬ n < 0 ∧ ¬ 4095 < n) ∨ (numB n = false ∧ n < 0) ∨ (numB n = false ∧ ¬ n < 0 ∧ 4095 < n) := by
    by_cases h : numB n = true
    · have h2 := h
      simp only [numB, decide_eq_true_eq] at h2
      exact .inl ⟨h, by omega, by omega⟩
    · have h2 := h
      simp only [numB, decide_eq_true_eq] at h2
      have h3 : numB n = false := by simpa using h
      by_cases h4 : n < 0
      · exact .inr (.inl ⟨h3, h4⟩)
      · exact .inr (.inr ⟨h3, h4, by omega⟩)
  by_cases hE : lookE b = 0
  case neg =>
    obtain ⟨E, hEE⟩ : ∃ E, lookE b = E := ⟨_, rfl⟩
    have hpE : parseE n b = if numB n = true then E else 2 := by unfold parseE; rw [if_neg hE, hEE]
    rw [hEE] at hE
    have HLA := Lib.hid (fun W (h : Below w.heap.size w W) => (hla W h).mono (R' := fun e w' => Below W.heap.size W w' ∧ e = .returned (.tuple #[.int .i64 0, pgv 0 0 0 none 0 0, .int .i64 E])) (by
      rintro e w' ⟨hb, ⟨h, -⟩ | ⟨-, rfl⟩⟩
      · rw [hEE] at h; exact absurd h hE
      · rw [hEE]; exact ⟨hb, rfl⟩))
    have HDA := Lib.hid (fun W (h : Below w.heap.size w W) => (hda W h).mono (R' := fun e w' => Below W.heap.size W w' ∧ e = .returned (.tuple #[.int .i64 0, pgv 0 0 0 none 0 0, .int .i64 E])) (by
      rintro e w' ⟨hb, ⟨h, -⟩ | ⟨-, rfl⟩⟩
      · rw [hEE] at h; exact absurd h hE
      · rw [hEE]; exact ⟨hb, rfl⟩))
    have HPA := Lib.hid (fun W (h : Below w.heap.size w W) => (hpa W h).mono (R' := fun e w' => Below W.heap.size W w' ∧ e = .returned (.tuple #[pgv 0 0 0 none 0 0, .int .i64 (if numB n = true then E else 2 : Nat)])) (by
      rintro e w' ⟨hb, ⟨h, -⟩ | ⟨-, rfl⟩⟩
      · rw [hpE] at h; split at h
        · exact absurd h hE
        · cases h
      · rw [hpE]; exact ⟨hb, rfl⟩))
    have hE0 : ((E : Int) != 0) = true := by simp; omega
    clear hla hda hpa hpE hEE ha hG hno
    go_enter Tryd.func4, Tryd.ntmps4
    go_wp2_with fail
    refine (HLA.out w (Below.refl _ _)).mono ?_
    rintro e w1 ⟨hb1, rfl⟩
    obtain ⟨w2, hw2⟩ : ∃ W, w1.alloc (.cells #[.int .i64 0, .int .i64 0, .int .i64 0, .slice none 0 0] 25) = W := ⟨_, rfl⟩
    have hbw2 : Below w1.heap.size w1 w2 := hw2 ▸ (Below.refl _ _).alloc (Nat.le_refl _) _
    have hr2 := heap_alloc_new w1 (.cells #[.int .i64 0, .int .i64 0, .int .i64 0, .slice none 0 0] 25)
    rw [hw2] at hr2
    have Hw2 := Lib.hid hw2
    clear hw2
    have hb02 := hb1.trans (hbw2.mono hb1.size)
    have H2 := Lib.hid (And.intro hb02 hr2)
    clear hb02 hr2 hbw2 hb1
    go_wp2_with fail
    rw [Hw2.out]
    refine (HDA.out w2 H2.out.1).mono ?_
    rintro e w3 ⟨hb3, rfl⟩
    obtain ⟨w4, hw4⟩ : ∃ W, w3.alloc (.cells #[.int .i64 0, .int .i64 0, .int .i64 0, .slice none 0 0] 25) = W := ⟨_, rfl⟩
    have hbw4 : Below w3.heap.size w3 w4 := hw4 ▸ (Below.refl _ _).alloc (Nat.le_refl _) _
    have hr4 := heap_alloc_new w3 (.cells #[.int .i64 0, .int .i64 0, .int .i64 0, .slice none 0 0] 25)
    rw [hw4] at hr4
    have Hw4 := Lib.hid hw4
    clear hw4
    have hb24 := hb3.trans (hbw4.mono hb3.size)
    have hr24 := go_row H2.out.2 hb24
    have hb04 := go_on H2.out.1 hb24
    have p0 := cell_of_row w4 w1.heap.size 0 _ _ _ hr24
    have p1 := cell_of_row w4 w1.heap.size 1 _ _ _ hr24
    have p2 := cell_of_row w4 w1.heap.size 2 _ _ _ hr24
    have p3 := cell_of_row w4 w1.heap.size 3 _ _ _ hr24
    simp only [List.getElem?_toArray, List.getElem?_cons_zero, List.getElem?_cons_succ] at p0 p1 p2 p3
    have q0 := cell_of_row w4 w3.heap.size 0 _ _ _ hr4
    have q1 := cell_of_row w4 w3.heap.size 1 _ _ _ hr4
    have q2 := cell_of_row w4 w3.heap.size 2 _ _ _ hr4
    have q3 := cell_of_row w4 w3.heap.size 3 _ _ _ hr4
    simp only [List.getElem?_toArray, List.getElem?_cons_zero, List.getElem?_cons_succ] at q0 q1 q2 q3
    rw [← Hw4.out] at p0 p1 p2 p3 q0 q1 q2 q3
    have HB4 := Lib.hid hb04
    clear hb24 hr24 hb04 hr4 hbw4 hb3
    go_wp2_with fail
    rw [Hw4.out]
    refine (same_nought w4).mono ?_
    rintro e w5 ⟨rfl, hb5⟩
    have HB5 := Lib.hid (go_on HB4.out hb5)
    clear hb5 p0 p1 p2 p3 q0 q1 q2 q3
    go_wp2_with fail
    refine (HPA.out w5 HB5.out).mono ?_
    rintro e w6 ⟨hb6, rfl⟩
    obtain ⟨w7, hw7⟩ : ∃ W, w6.alloc (.cells #[.int .i64 0, .int .i64 0, .int .i64 0, .slice none 0 0] 25) = W := ⟨_, rfl⟩
    have hbw7 : Below w6.heap.size w6 w7 := hw7 ▸ (Below.refl _ _).alloc (Nat.le_refl _) _
    have hr7 := heap_alloc_new w6 (.cells #[.int .i64 0, .int .i64 0, .int .i64 0, .slice none 0 0] 25)
    rw [hw7] at hr7
    have Hw7 := Lib.hid hw7
    clear hw7
    have hb07 := go_on HB5.out (hb6.trans (hbw7.mono hb6.size))
    have p0 := cell_of_row w7 w6.heap.size 0 _ _ _ hr7
    have p1 := cell_of_row w7 w6.heap.size 1 _ _ _ hr7
    have p2 := cell_of_row w7 w6.heap.size 2 _ _ _ hr7
    have p3 := cell_of_row w7 w6.heap.size 3 _ _ _ hr7
    simp only [List.getElem?_toArray, List.getElem?_cons_zero, List.getElem?_cons_succ] at p0 p1 p2 p3
    rw [← Hw7.out] at p0 p1 p2 p3
    have HB7 := Lib.hid hb07
    clear hb07 hr7 hbw7 hb6
    rcases hnum with ⟨hn, hn1, hn2⟩ | ⟨hn, hn1⟩ | ⟨hn, hn1, hn2⟩
    · rw [hn, if_pos rfl]
      clear hn
      go_wp2_with fail
      rw [Hw7.out]
      refine (HK.out w7 HB7.out).mono ?_
      rintro e w9 ⟨rfl, hb9⟩
      have HF := Lib.hid (go_on HB7.out hb9)
      clear hb9
      go_wp2
      go_ret
      exact ⟨rfl, HF.out⟩
    · rw [hn, if_neg (by decide)]
      clear hn
      go_wp2_with fail
      rw [Hw7.out]
      refine (same_nought w7).mono ?_
      rintro e w8 ⟨rfl, hb8⟩
      have HB8 := Lib.hid (go_on HB7.out hb8)
      clear hb8
      go_wp2_with fail
      refine (HK.out w8 HB8.out).mono ?_
      rintro e w9 ⟨rfl, hb9⟩
      have HF := Lib.hid (go_on HB8.out hb9)
      clear hb9
      go_wp2
      go_ret
      exact ⟨rfl, HF.out⟩
    · rw [hn, if_neg (by decide)]
      clear hn
      go_wp2_with fail
      rw [Hw7.out]
      refine (same_nought w7).mono ?_
      rintro e w8 ⟨rfl, hb8⟩
      have HB8 := Lib.hid (go_on HB7.out hb8)
      clear hb8
      go_wp2_with fail
      refine (HK.out w8 HB8.out).mono ?_
      rintro e w9 ⟨rfl, hb9⟩
      have HF := Lib.hid (go_on HB8.out hb9)
      clear hb9
      go_wp2
      go_ret
      exact ⟨rfl, HF.out⟩
  obtain ⟨hpo0, hi0, hraw0, -⟩ := look_raw hE
  obtain ⟨i, p, hi, hpo, rfl⟩ : ∃ (i : Nat) (p : Pg), i ≤ 4095 ∧ p.ok ∧ p.raw i = b := ⟨_, _, hi0, hpo0, hraw0⟩
  clear hpo0 hi0 hraw0 hE
  have hlen := Pg.raw_len (n := i) hpo
  obtain ⟨hlk, hpg, hat⟩ := raw_look hpo hi
  have eK : atK (p.raw i) = p.k := congrArg Pg.k hpg
  have eT : wrap64 (atT (p.raw i) : Int) = p.t := by rw [show atT (p.raw i) = p.t from congrArg Pg.t hpg]; exact wrap_small hpo.2.2.1
  have eX : atX (p.raw i) = p.x := congrArg Pg.x hpg
  have eB : atB (p.raw i) = p.b := congrArg Pg.b hpg
  have eS : atS (p.raw i) = p.b.length := by rw [← eB]; exact (look_raw hlk).2.2.2.2.2.2.2.symm
  have hbo : ∀ w6 base ar c6, OwnB w6 base (.slice ar 234 c6) ((p.raw i).drop 22) → BytesAt w6.heap.size w6 (bodyAt ar p.b.length) p.b := fun w6 base ar c6 hO => by
    obtain ⟨a', c', e, h, -⟩ := hO.isBs
    injection e with e1 e2 e3
    subst e1
    have h2 := body_at (size := p.b.length) h (by rw [List.length_drop, hlen]; have := hpo.2.2.2.2; omega)
    rwa [List.drop_drop, ← eS, show ((p.raw i).drop (22 + 2)).take (atS (p.raw i)) = p.b from eB, eS] at h2
  unfold ParsePost at hpa
  unfold LookPost at hla
  unfold DLookPost at hda
  rw [eK, eT, eX, eS, hlen] at hpa
  rw [eK, eT, eX, eS, hlk, hat, hlen] at hla
  rw [eK, eT, eX, eS, eB, hlk, hat, hlen] at hda
  rw [hlen] at hd ⊢
  have hpe : numB n = false → parseE n (p.raw i) = 2 := fun h => by unfold parseE; rw [if_neg (by rw [h]; decide)]
  have hpe2 := fun m hm => parse_raw2 (n := i) hpo hi m hm
  have hcv := fun W (h : Below w.heap.size w W) => conv_at W a (p.raw i) c w.heap.size (ha.below h)
  rw [hlen] at hcv
  have HLA := Lib.hid hla
  have HDA := Lib.hid hda
  have HPA := Lib.hid hpa
  have HBO := Lib.hid hbo
  have HPE := Lib.hid (And.intro hpe (And.intro hpe2 (And.intro hpo (And.intro hlen hG))))
  have HCV := Lib.hid hcv
  clear hla hda hpa hbo hpe hpe2 hcv hlk hpg hat eK eT eX eB eS ha hG hno hlc hl h1
  go_enter Tryd.func4, Tryd.ntmps4
  go_wp2_with fail
  refine (HLA.out w (Below.refl _ _)).mono ?_
  rintro e w1 ⟨hb1, ⟨-, ar, c1, rfl, hO1⟩ | ⟨h, -⟩⟩
  case inr => exact absurd rfl h
  have hav := HBO.out _ _ _ _ hO1
  obtain ⟨av, hav'⟩ : ∃ v, bodyAt ar p.b.length = v := ⟨_, rfl⟩
  rw [hav'] at hav ⊢
  clear hav' hO1 ar c1
  obtain ⟨w2, hw2⟩ : ∃ W, w1.alloc (.cells #[.int .i64 p.k, .int .i64 p.t, .int .i64 p.x, .slice av p.b.length p.b.length] 25) = W := ⟨_, rfl⟩
  have hbw2 : Below w1.heap.size w1 w2 := hw2 ▸ (Below.refl _ _).alloc (Nat.le_refl _) _
  have hr2 := heap_alloc_new w1 (.cells #[.int .i64 p.k, .int .i64 p.t, .int .i64 p.x, .slice av p.b.length p.b.length] 25)
  rw [hw2] at hr2
  have Hw2 := Lib.hid hw2
  clear hw2
  have hb02 := hb1.trans (hbw2.mono hb1.size)
  have H2 := Lib.hid (And.intro hb02 (And.intro hr2 ((hav.below hbw2).mono hbw2.size)))
  clear hb02 hr2 hbw2 hb1 hav
  go_wp2_with fail
  rw [Hw2.out]
  refine (HDA.out w2 H2.out.1).mono ?_
  rintro e w3 ⟨hb3, ⟨-, aq, cq, rfl, haq⟩ | ⟨h, -⟩⟩
  case inr => exact absurd rfl h
  obtain ⟨w4, hw4⟩ : ∃ W, w3.alloc (.cells #[.int .i64 p.k, .int .i64 p.t, .int .i64 p.x, .slice aq p.b.length cq] 25) = W := ⟨_, rfl⟩
  have hbw4 : Below w3.heap.size w3 w4 := hw4 ▸ (Below.refl _ _).alloc (Nat.le_refl _) _
  have hr4 := heap_alloc_new w3 (.cells #[.int .i64 p.k, .int .i64 p.t, .int .i64 p.x, .slice aq p.b.length cq] 25)
  rw [hw4] at hr4
  have Hw4 := Lib.hid hw4
  clear hw4
  have hb24 := hb3.trans (hbw4.mono hb3.size)
  have hr24 := go_row H2.out.2.1 hb24
  have hb04 := go_on H2.out.1 hb24
  have p0 := cell_of_row w4 w1.heap.size 0 _ _ _ hr24
  have p1 := cell_of_row w4 w1.heap.size 1 _ _ _ hr24
  have p2 := cell_of_row w4 w1.heap.size 2 _ _ _ hr24
  have p3 := cell_of_row w4 w1.heap.size 3 _ _ _ hr24
  simp only [List.getElem?_toArray, List.getElem?_cons_zero, List.getElem?_cons_succ] at p0 p1 p2 p3
  have q0 := cell_of_row w4 w3.heap.size 0 _ _ _ hr4
  have q1 := cell_of_row w4 w3.heap.size 1 _ _ _ hr4
  have q2 := cell_of_row w4 w3.heap.size 2 _ _ _ hr4
  have q3 := cell_of_row w4 w3.heap.size 3 _ _ _ hr4
  simp only [List.getElem?_toArray, List.getElem?_cons_zero, List.getElem?_cons_succ] at q0 q1 q2 q3
  rw [← Hw4.out] at p0 p1 p2 p3 q0 q1 q2 q3
  have H4 := Lib.hid (And.intro hb04 (And.intro hr24 (And.intro hr4 (And.intro ((H2.out.2.2.below hb24).mono hb24.size) ((haq.below hbw4).mono hbw4.size)))))
  clear hb24 hr24 hb04 hr4 hbw4 hb3 haq
  go_wp2_with fail
  rw [Hw4.out]
  have hsm := rsame_any w4 w4.heap.size (Nat.le_refl _) p.k p.t p.x av p.b p.b.length p.k p.t p.x aq p.b cq H4.out.2.2.2.1 H4.out.2.2.2.2
  rw [same_self] at hsm
  refine hsm.mono ?_
  rintro e w5 ⟨rfl, hb5⟩
  have H5 := Lib.hid (And.intro (go_on H4.out.1 hb5) (And.intro (go_row H4.out.2.1 hb5) (And.intro (go_row H4.out.2.2.1 hb5) (And.intro ((H4.out.2.2.2.1.below hb5).mono hb5.size) ((H4.out.2.2.2.2.below hb5).mono hb5.size)))))
  clear hb5 hsm p0 p1 p2 p3 q0 q1 q2 q3
  go_wp2_with fail
  refine (HPA.out w5 H5.out.1).mono ?_
  rintro e w6 ⟨hb6, hpost⟩
  rcases hnum with ⟨hn, hn1, hn2⟩ | hbad
  case inr =>
    have hn : numB n = false := by rcases hbad with h | h <;> exact h.1
    have hpe := HPE.out.1 hn
    rw [hpe] at hpost
    rcases hpost with ⟨h, -⟩ | ⟨-, rfl⟩
    · cases h
    obtain ⟨w7, hw7⟩ : ∃ W, w6.alloc (.cells #[.int .i64 0, .int .i64 0, .int .i64 0, .slice none 0 0] 25) = W := ⟨_, rfl⟩
    have hbw7 : Below w6.heap.size w6 w7 := hw7 ▸ (Below.refl _ _).alloc (Nat.le_refl _) _
    have hr7 := heap_alloc_new w6 (.cells #[.int .i64 0, .int .i64 0, .int .i64 0, .slice none 0 0] 25)
    rw [hw7] at hr7
    have Hw7 := Lib.hid hw7
    clear hw7
    have hb07 := go_on H5.out.1 (hb6.trans (hbw7.mono hb6.size))
    have p0 := cell_of_row w7 w6.heap.size 0 _ _ _ hr7
    have p1 := cell_of_row w7 w6.heap.size 1 _ _ _ hr7
    have p2 := cell_of_row w7 w6.heap.size 2 _ _ _ hr7
    have p3 := cell_of_row w7 w6.heap.size 3 _ _ _ hr7
    simp only [List.getElem?_toArray, List.getElem?_cons_zero, List.getElem?_cons_succ] at p0 p1 p2 p3
    rw [← Hw7.out] at p0 p1 p2 p3
    have HB7 := Lib.hid hb07
    clear hb07 hr7 hbw7 hb6 hpe
    rcases hbad with ⟨-, hn1⟩ | ⟨-, hn1, hn2⟩
    · clear hn
      go_wp2_with fail
      rw [Hw7.out]
      refine (same_nought w7).mono ?_
      rintro e w8 ⟨rfl, hb8⟩
      have HB8 := Lib.hid (go_on HB7.out hb8)
      clear hb8
      go_wp2_with fail
      refine (HK.out w8 HB8.out).mono ?_
      rintro e w9 ⟨rfl, hb9⟩
      have HF := Lib.hid (go_on HB8.out hb9)
      clear hb9
      go_wp2
      go_ret
      exact ⟨rfl, HF.out⟩
    · clear hn
      go_wp2_with fail
      rw [Hw7.out]
      refine (same_nought w7).mono ?_
      rintro e w8 ⟨rfl, hb8⟩
      have HB8 := Lib.hid (go_on HB7.out hb8)
      clear hb8
      go_wp2_with fail
      refine (HK.out w8 HB8.out).mono ?_
      rintro e w9 ⟨rfl, hb9⟩
      have HF := Lib.hid (go_on HB8.out hb9)
      clear hb9
      go_wp2
      go_ret
      exact ⟨rfl, HF.out⟩
  obtain ⟨m, hm, rfl⟩ := num_nat2 hn
  have hpe := HPE.out.2.1 m hm
  rw [hpe] at hpost
  clear hpe hn
  have hn1' : ((m : Int) < 0) = False := by simp
  by_cases him : i = m
  · have hnij : ((m : Int) == (i : Int)) = true := beq_iff_eq.2 (by omega)
    rw [if_pos him] at hpost
    clear him
    rcases hpost with ⟨-, ar, c6, rfl, hO6⟩ | ⟨h, -⟩
    case inr => exact absurd rfl h
    have hao := HBO.out _ _ _ _ hO6
    obtain ⟨ao, hao'⟩ : ∃ v, bodyAt ar p.b.length = v := ⟨_, rfl⟩
    rw [hao'] at hao ⊢
    clear hao' hO6 ar c6
    obtain ⟨w7, hw7⟩ : ∃ W, w6.alloc (.cells #[.int .i64 p.k, .int .i64 p.t, .int .i64 p.x, .slice ao p.b.length p.b.length] 25) = W := ⟨_, rfl⟩
    have hbw7 : Below w6.heap.size w6 w7 := hw7 ▸ (Below.refl _ _).alloc (Nat.le_refl _) _
    have hr7 := heap_alloc_new w6 (.cells #[.int .i64 p.k, .int .i64 p.t, .int .i64 p.x, .slice ao p.b.length p.b.length] 25)
    rw [hw7] at hr7
    have Hw7 := Lib.hid hw7
    clear hw7
    have hb57 := hb6.trans (hbw7.mono hb6.size)
    have hr71 := go_row H5.out.2.1 hb57
    have p0 := cell_of_row w7 w1.heap.size 0 _ _ _ hr71
    have p1 := cell_of_row w7 w1.heap.size 1 _ _ _ hr71
    have p2 := cell_of_row w7 w1.heap.size 2 _ _ _ hr71
    have p3 := cell_of_row w7 w1.heap.size 3 _ _ _ hr71
    simp only [List.getElem?_toArray, List.getElem?_cons_zero, List.getElem?_cons_succ] at p0 p1 p2 p3
    rw [← Hw7.out] at p0 p1 p2 p3
    have H7 := Lib.hid (And.intro (go_on H5.out.1 hb57) (And.intro (go_row H5.out.2.2.1 hb57) (And.intro hr7 (And.intro ((H5.out.2.2.2.1.below hb57).mono hb57.size) (And.intro ((H5.out.2.2.2.2.below hb57).mono hb57.size) ((hao.below hbw7).mono hbw7.size))))))
    clear hb57 hr71 hr7 hbw7 hb6 hao
    go_wp2_with fail
    rw [Hw7.out]
    have hrw := raw_yes i hi p HPE.out.2.2.1 av p.b.length w7 w7.heap.size (Nat.le_refl _) H7.out.2.2.2.1 (at_none H7.out.2.2.2.1) (Nat.le_refl _) (HPE.out.2.2.2.2.below H7.out.1).tab (HPE.out.2.2.2.2.below H7.out.1).tabs
    refine hrw.mono ?_
    rintro e w8 ⟨v8, rfl, hO8, hb8⟩
    obtain ⟨a8, c8, rfl, hy8, -⟩ := hO8.form
    rw [HPE.out.2.2.2.1] at ⊢
    have hr8q := go_row H7.out.2.1 hb8
    have hr8o := go_row H7.out.2.2.1 hb8
    have hb08 := go_on H7.out.1 hb8
    have q0 := cell_of_row w8 w3.heap.size 0 _ _ _ hr8q
    have q1 := cell_of_row w8 w3.heap.size 1 _ _ _ hr8q
    have q2 := cell_of_row w8 w3.heap.size 2 _ _ _ hr8q
    have q3 := cell_of_row w8 w3.heap.size 3 _ _ _ hr8q
    simp only [List.getElem?_toArray, List.getElem?_cons_zero, List.getElem?_cons_succ] at q0 q1 q2 q3
    have r0 := cell_of_row w8 w6.heap.size 0 _ _ _ hr8o
    have r1 := cell_of_row w8 w6.heap.size 1 _ _ _ hr8o
    have r2 := cell_of_row w8 w6.heap.size 2 _ _ _ hr8o
    have r3 := cell_of_row w8 w6.heap.size 3 _ _ _ hr8o
    simp only [List.getElem?_toArray, List.getElem?_cons_zero, List.getElem?_cons_succ] at r0 r1 r2 r3
    have hsm := rsame_any w8 w8.heap.size (Nat.le_refl _) p.k p.t p.x ao p.b p.b.length p.k p.t p.x aq p.b cq ((H7.out.2.2.2.2.2.below hb8).mono hb8.size) ((H7.out.2.2.2.2.1.below hb8).mono hb8.size)
    rw [same_self] at hsm
    have H8 := Lib.hid (And.intro hb08 (And.intro hy8 hsm))
    clear p0 p1 p2 p3 hrw hb8 hO8 hr8q hr8o hb08 hy8 hsm
    go_wp2_with fail
    refine H8.out.2.2.mono ?_
    rintro e w9 ⟨rfl, hb9⟩
    have hb09 := go_on H8.out.1 hb9
    have hca := HCV.out w9 hb09
    have hcb := conv_at w9 a8 (p.raw i) c8 w8.heap.size (H8.out.2.1.below hb9)
    rw [HPE.out.2.2.2.1] at hcb
    have H9 := Lib.hid hb09
    clear hb9 hb09 q0 q1 q2 q3 r0 r1 r2 r3
    go_wp2_with fail
    refine (HK.out w9 H9.out).mono ?_
    rintro e w10 ⟨rfl, hb10⟩
    have HF := Lib.hid (go_on H9.out hb10)
    clear hb10 hca hcb
    go_wp2
    go_ret
    exact ⟨rfl, HF.out⟩
  · have hnij : ((m : Int) == (i : Int)) = false := beq_eq_false_iff_ne.2 (by omega)
    rw [if_neg him] at hpost
    clear him
    rcases hpost with ⟨h, -⟩ | ⟨-, rfl⟩
    · cases h
    obtain ⟨w7, hw7⟩ : ∃ W, w6.alloc (.cells #[.int .i64 0, .int .i64 0, .int .i64 0, .slice none 0 0] 25) = W := ⟨_, rfl⟩
    have hbw7 : Below w6.heap.size w6 w7 := hw7 ▸ (Below.refl _ _).alloc (Nat.le_refl _) _
    have hr7 := heap_alloc_new w6 (.cells #[.int .i64 0, .int .i64 0, .int .i64 0, .slice none 0 0] 25)
    rw [hw7] at hr7
    have Hw7 := Lib.hid hw7
    clear hw7
    have hb57 := hb6.trans (hbw7.mono hb6.size)
    have hr71 := go_row H5.out.2.1 hb57
    have p0 := cell_of_row w7 w1.heap.size 0 _ _ _ hr71
    have p1 := cell_of_row w7 w1.heap.size 1 _ _ _ hr71
    have p2 := cell_of_row w7 w1.heap.size 2 _ _ _ hr71
    have p3 := cell_of_row w7 w1.heap.size 3 _ _ _ hr71
    simp only [List.getElem?_toArray, List.getElem?_cons_zero, List.getElem?_cons_succ] at p0 p1 p2 p3
    rw [← Hw7.out] at p0 p1 p2 p3
    have H7 := Lib.hid (And.intro (go_on H5.out.1 hb57) ((H5.out.2.2.2.1.below hb57).mono hb57.size))
    clear hb57 hr71 hr7 hbw7 hb6
    go_wp2_with fail
    rw [Hw7.out]
    have hrw := raw_yes i hi p HPE.out.2.2.1 av p.b.length w7 w7.heap.size (Nat.le_refl _) H7.out.2 (at_none H7.out.2) (Nat.le_refl _) (HPE.out.2.2.2.2.below H7.out.1).tab (HPE.out.2.2.2.2.below H7.out.1).tabs
    refine hrw.mono ?_
    rintro e w8 ⟨v8, rfl, hO8, hb8⟩
    obtain ⟨a8, c8, rfl, hy8, -⟩ := hO8.form
    rw [HPE.out.2.2.2.1] at ⊢
    have hb08 := go_on H7.out.1 hb8
    have hca := HCV.out w8 hb08
    have hcb := conv_at w8 a8 (p.raw i) c8 w8.heap.size hy8
    rw [HPE.out.2.2.2.1] at hcb
    have H9 := Lib.hid hb08
    clear p0 p1 p2 p3 hrw hb8 hO8 hb08 hy8
    go_wp2_with fail
    refine (HK.out w8 H9.out).mono ?_
    rintro e w10 ⟨rfl, hb10⟩
    have HF := Lib.hid (go_on H9.out hb10)
    clear hb10 hca hcb
    go_wp2
    go_ret
    exact ⟨rfl, HF.out⟩
end Go.Proofs.YtjfpgclaefbhjaaDoor
