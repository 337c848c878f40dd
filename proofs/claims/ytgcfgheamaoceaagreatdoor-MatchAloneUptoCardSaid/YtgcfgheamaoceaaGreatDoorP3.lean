/- Texts of the proof in one file, in build order: MatN, MatO, MatP, MatSh, Reg4, RoundT, ROp, TopS, MatT, MatU, MatQ, MatR, MatV, MatS, MatBB. -/
import Derived.Test.YtgcfgheamaoceaaGreatDoorP1
import Derived.Test.YtgcfgheamaoceaaGreatDoorP2
import Derived.Test.YtgcfgheamaoceaaGreatDoorTopP
import Derived.Shelf.SlGeneric
import Derived.Shelf.SlIter.Nil
import Derived.Shelf.SortM.Plain
import Derived.Shelf.SortM.SortNone
import Derived.Ground.GgzProg
import Derived.Ground.SlgmProg
import Derived.Test.YtgcfgheamaoceaaGreatDoorProg
import Derived.Test.YtgcfgheamaoceaaGreatDoorTopH
import Derived.Test.YtgcfgheamaoceaaGreatDoorReg3
import Derived.Test.YtgcfgheamaoceaaGreatDoorRound
import Derived.WalkKit
import Derived.Deep.Slices
import Derived.Test.YtgcfgheamaoceaaGreatDoorUtfL
import Derived.Deep.MidRow
import Derived.LoopN
/- Layer 14, of no program: a book's entries as a list that rises; one more, one less; what a tree of them has. -/
namespace Go.Proofs.YtgcfgheamaoceaaGreatDoor

theorem lt_irr (a : List UInt8) : ¬ a < a := List.lt_irrefl a
theorem lt_tr {a b c : List UInt8} (h : a < b) (k : b < c) : a < c := List.lt_trans h k
theorem lt_tri (a b : List UInt8) : a < b ∨ a = b ∨ b < a := by
  rcases List.le_total a b with h | h
  · by_cases e : a = b
    · exact .inr (.inl e)
    · exact .inl (Classical.byContradiction fun hn => e (List.le_antisymm h (List.not_lt.1 hn)))
  · by_cases e : a = b
    · exact .inr (.inl e)
    · exact .inr (.inr (Classical.byContradiction fun hn => e (List.le_antisymm (List.not_lt.1 hn) h)))
/-- Stands an entry ahead of another? -/
def ahd (a b : Sb) : Prop := a.f < b.f ∨ a.f = b.f ∧ a.c < b.c
instance (a b : Sb) : Decidable (ahd a b) := by unfold ahd; exact inferInstance
def sameK (a b : Sb) : Prop := a.f = b.f ∧ a.c = b.c
instance (a b : Sb) : Decidable (sameK a b) := by unfold sameK; exact inferInstance
theorem ahd_irr {a b : Sb} (h : sameK a b) : ¬ ahd a b := fun k => by
  unfold ahd at k
  rw [h.1, h.2] at k
  rcases k with k | k
  · exact lt_irr _ k
  · exact lt_irr _ k.2
theorem ahd_tr {a b c : Sb} (h : ahd a b) (k : ahd b c) : ahd a c := by
  unfold ahd at *
  rcases h with h | ⟨h1, h2⟩ <;> rcases k with k | ⟨k1, k2⟩
  · exact .inl (lt_tr h k)
  · exact .inl (k1 ▸ h)
  · exact .inl (h1 ▸ k)
  · exact .inr ⟨h1.trans k1, lt_tr h2 k2⟩
theorem ahd_tri (a b : Sb) : ahd a b ∨ sameK a b ∨ ahd b a := by
  unfold ahd sameK
  rcases lt_tri a.f b.f with h | h | h
  · exact .inl (.inl h)
  · rcases lt_tri a.c b.c with k | k | k
    · exact .inl (.inr ⟨h, k⟩)
    · exact .inr (.inl ⟨h, k⟩)
    · exact .inr (.inr (.inr ⟨h.symm, k⟩))
  · exact .inr (.inr (.inl h))
theorem ahd_same {a b c : Sb} (h : ahd a b) (k : sameK b c) : ahd a c := by
  unfold ahd at *
  rw [k.1, k.2] at h
  exact h
theorem same_ahd {a b c : Sb} (h : sameK a b) (k : ahd b c) : ahd a c := by
  unfold ahd at *
  rw [h.1, h.2]
  exact k
theorem sameK.symm {a b : Sb} (h : sameK a b) : sameK b a := ⟨h.1.symm, h.2.symm⟩
abbrev Rise (g : List Sb) : Prop := g.Pairwise ahd
/-- One more, in place of one of its key. -/
def insG (s : Sb) : List Sb → List Sb
  | [] => [s]
  | x :: r => if ahd x s then x :: insG s r else if sameK x s then s :: r else s :: x :: r
/-- Without that of a key. -/
def delG (s : Sb) (g : List Sb) : List Sb := g.filter fun x => !decide (sameK x s)
/-- Is one of a key there? -/
def hasK (s : Sb) (g : List Sb) : Bool := g.any fun x => decide (sameK x s)
theorem hasK_iff {s : Sb} {g : List Sb} : hasK s g = true ↔ ∃ x ∈ g, sameK x s := by unfold hasK; simp
theorem mem_insG {s x : Sb} : ∀ {g : List Sb}, Rise g → (x ∈ insG s g ↔ x = s ∨ (x ∈ g ∧ ¬ sameK x s))
  | [], _ => by simp [insG]
  | y :: r, h => by
    have hy := (List.pairwise_cons.1 h).1
    have hr := (List.pairwise_cons.1 h).2
    unfold insG
    by_cases h1 : ahd y s
    · rw [if_pos h1, List.mem_cons, mem_insG hr, List.mem_cons]
      constructor
      · rintro (rfl | rfl | ⟨h2, h3⟩)
        · exact .inr ⟨.inl rfl, fun k => ahd_irr k h1⟩
        · exact .inl rfl
        · exact .inr ⟨.inr h2, h3⟩
      · rintro (rfl | ⟨rfl | h2, h3⟩)
        · exact .inr (.inl rfl)
        · exact .inl rfl
        · exact .inr (.inr ⟨h2, h3⟩)
    · rw [if_neg h1]
      by_cases h2 : sameK y s
      · rw [if_pos h2, List.mem_cons, List.mem_cons]
        constructor
        · rintro (rfl | h3)
          · exact .inl rfl
          · exact .inr ⟨.inr h3, fun k => ahd_irr (k.symm) (same_ahd h2.symm (hy x h3))⟩
        · rintro (rfl | ⟨rfl | h3, h4⟩)
          · exact .inl rfl
          · exact absurd h2 h4
          · exact .inr h3
      · rw [if_neg h2, List.mem_cons, List.mem_cons]
        have h3 : ahd s y := (ahd_tri y s).resolve_left h1 |>.resolve_left h2
        constructor
        · rintro (rfl | rfl | h4)
          · exact .inl rfl
          · exact .inr ⟨.inl rfl, h2⟩
          · exact .inr ⟨.inr h4, fun k => ahd_irr k.symm (ahd_tr h3 (hy x h4))⟩
        · rintro (rfl | ⟨h4, _⟩)
          · exact .inl rfl
          · exact .inr h4
theorem rise_insG {s : Sb} : ∀ {g : List Sb}, Rise g → Rise (insG s g)
  | [], _ => by simp [insG, Rise]
  | y :: r, h => by
    have hy := (List.pairwise_cons.1 h).1
    have hr := (List.pairwise_cons.1 h).2
    unfold insG
    by_cases h1 : ahd y s
    · rw [if_pos h1]
      refine List.pairwise_cons.2 ⟨fun z hz => ?_, rise_insG hr⟩
      rcases (mem_insG hr).1 hz with rfl | ⟨hz, -⟩
      · exact h1
      · exact hy z hz
    · rw [if_neg h1]
      by_cases h2 : sameK y s
      · rw [if_pos h2]
        exact List.pairwise_cons.2 ⟨fun z hz => same_ahd h2.symm (hy z hz), hr⟩
      · rw [if_neg h2]
        have h3 : ahd s y := (ahd_tri y s).resolve_left h1 |>.resolve_left h2
        refine List.pairwise_cons.2 ⟨fun z hz => ?_, h⟩
        rcases List.mem_cons.1 hz with rfl | hz
        · exact h3
        · exact ahd_tr h3 (hy z hz)
theorem rise_delG {s : Sb} {g : List Sb} (h : Rise g) : Rise (delG s g) := List.Pairwise.filter _ h
theorem mem_delG {s x : Sb} {g : List Sb} : x ∈ delG s g ↔ x ∈ g ∧ ¬ sameK x s := by unfold delG; simp
theorem one_of {g : List Sb} (h : Rise g) {x y : Sb} (hx : x ∈ g) (hy : y ∈ g) (k : sameK x y) : x = y := by
  induction g with
  | nil => cases hx
  | cons z r ih =>
    have hz := (List.pairwise_cons.1 h).1
    rcases List.mem_cons.1 hx with e1 | hx'
    · rcases List.mem_cons.1 hy with e2 | hy'
      · rw [e1, e2]
      · exact absurd (hz y hy') (ahd_irr (e1 ▸ k))
    · rcases List.mem_cons.1 hy with e2 | hy'
      · exact absurd (hz x hx') (ahd_irr (e2 ▸ k.symm))
      · exact ih (List.pairwise_cons.1 h).2 hx' hy'
theorem rise_nodup {g : List Sb} (h : Rise g) : g.Nodup := List.nodup_iff_pairwise_ne.2 (List.Pairwise.imp (fun {a b} (h : ahd a b) (e : a = b) => ahd_irr (b := b) (by rw [e]; exact ⟨rfl, rfl⟩) h) h)
theorem len_insG {s : Sb} : ∀ {g : List Sb}, Rise g → (insG s g).length = g.length + (if hasK s g then 0 else 1)
  | [], _ => by simp [insG, hasK]
  | y :: r, h => by
    have hy := (List.pairwise_cons.1 h).1
    have hr := (List.pairwise_cons.1 h).2
    unfold insG
    by_cases h1 : ahd y s
    · rw [if_pos h1, List.length_cons, len_insG hr]
      have : hasK s (y :: r) = hasK s r := by
        unfold hasK
        rw [List.any_cons, decide_eq_false (fun k => ahd_irr k h1), Bool.false_or]
      rw [this, List.length_cons]
      omega
    · rw [if_neg h1]
      by_cases h2 : sameK y s
      · rw [if_pos h2]
        have : hasK s (y :: r) = true := hasK_iff.2 ⟨y, by simp, h2⟩
        rw [this]; simp
      · rw [if_neg h2]
        have h3 : ahd s y := (ahd_tri y s).resolve_left h1 |>.resolve_left h2
        have : hasK s (y :: r) = false := by
          cases hh : hasK s (y :: r) with
          | false => rfl
          | true =>
            obtain ⟨z, hz, k⟩ := hasK_iff.1 hh
            rcases List.mem_cons.1 hz with rfl | hz
            · exact absurd k h2
            · exact absurd (ahd_tr h3 (hy z hz)) (ahd_irr k.symm)
        rw [this]; simp
/-- What stands behind some levels, by a name. -/
def look (g : List Sb) (q : Pth) (c : Txt) : Option Sb := g.find? fun s => decide (lv s.f = q ∧ s.c = c)
def cnt (g : List Sb) (q : Pth) : Nat := g.countP (under q)
theorem lv_inj {a b : List UInt8} (h : lv a = lv b) : a = b := by rw [← joinL_lv a, ← joinL_lv b, h]
theorem look_iff {g : List Sb} (h : Rise g) {q : Pth} {c : Txt} {s : Sb} : look g q c = some s ↔ s ∈ g ∧ lv s.f = q ∧ s.c = c := by
  unfold look
  constructor
  · intro e
    have h1 := List.find?_some e
    exact ⟨List.mem_of_find?_eq_some e, by simpa using h1⟩
  · rintro ⟨h1, h2, h3⟩
    cases e : g.find? fun s => decide (lv s.f = q ∧ s.c = c) with
    | none =>
      have := List.find?_eq_none.1 e s h1
      simp [h2, h3] at this
    | some y =>
      have h4 := List.find?_some e
      have h5 := List.mem_of_find?_eq_some e
      have h4 : lv y.f = q ∧ y.c = c := by simpa using h4
      rw [one_of h h5 h1 ⟨lv_inj (h4.1.trans h2.symm), h4.2.trans h3.symm⟩]
theorem look_has {g : List Sb} (h : Rise g) (s : Sb) : (look g (lv s.f) s.c).isSome = hasK s g := by
  rw [Bool.eq_iff_iff, hasK_iff, Option.isSome_iff_exists]
  constructor
  · rintro ⟨x, hx⟩
    obtain ⟨h1, h2, h3⟩ := (look_iff h).1 hx
    exact ⟨x, h1, lv_inj h2, h3⟩
  · rintro ⟨x, h1, h2⟩
    exact ⟨x, (look_iff h).2 ⟨h1, by rw [h2.1], h2.2⟩⟩
theorem look_ext {g' : List Sb} (h' : Rise g') {En : Pth → Txt → Option Sb} (he : ∀ q c s, En q c = some s ↔ s ∈ g' ∧ lv s.f = q ∧ s.c = c) : En = look g' := by
  funext q c
  apply Option.ext
  intro s
  rw [he, look_iff h']
theorem look_ins {g : List Sb} (h : Rise g) (s : Sb) : putE (look g) (lv s.f) s.c (some s) = look (insG s g) := by
  refine look_ext (rise_insG h) fun q c x => ?_
  unfold putE
  rw [mem_insG h]
  by_cases e : q = lv s.f ∧ c = s.c
  · rw [if_pos e]
    constructor
    · intro hx; injection hx with hx; subst hx; exact ⟨.inl rfl, e.1.symm, e.2.symm⟩
    · rintro ⟨rfl | ⟨h1, h2⟩, h3, h4⟩
      · rfl
      · exact absurd ⟨lv_inj (h3.trans e.1), h4.trans e.2⟩ h2
  · rw [if_neg e, look_iff h]
    constructor
    · rintro ⟨h1, h2, h3⟩
      exact ⟨.inr ⟨h1, fun k => e ⟨by rw [← h2, k.1], by rw [← h3, k.2]⟩⟩, h2, h3⟩
    · rintro ⟨rfl | ⟨h1, -⟩, h2, h3⟩
      · exact absurd ⟨h2.symm, h3.symm⟩ e
      · exact ⟨h1, h2, h3⟩
theorem look_del {g : List Sb} (h : Rise g) (s : Sb) : putE (look g) (lv s.f) s.c none = look (delG s g) := by
  refine look_ext (rise_delG h) fun q c x => ?_
  unfold putE
  rw [mem_delG]
  by_cases e : q = lv s.f ∧ c = s.c
  · rw [if_pos e]
    constructor
    · intro hx; cases hx
    · rintro ⟨⟨h1, h2⟩, h3, h4⟩
      exact absurd ⟨lv_inj (h3.trans e.1), h4.trans e.2⟩ h2
  · rw [if_neg e, look_iff h]
    constructor
    · rintro ⟨h1, h2, h3⟩
      exact ⟨⟨h1, fun k => e ⟨by rw [← h2, k.1], by rw [← h3, k.2]⟩⟩, h2, h3⟩
    · rintro ⟨⟨h1, -⟩, h2, h3⟩
      exact ⟨h1, h2, h3⟩
theorem under_same {a b : Sb} (h : sameK a b) (q : Pth) : under q a = under q b := by unfold under; rw [h.1]
theorem cnt_ins {g : List Sb} (h : Rise g) (s : Sb) : addP (cnt g) [] (lv s.f) (hasK s g) = cnt (insG s g) := by
  funext q
  have key : ∀ g : List Sb, Rise g → cnt (insG s g) q = cnt g q + (if hasK s g = false ∧ under q s = true then 1 else 0) := by
    intro g
    induction g with
    | nil => intro _; simp [insG, cnt, hasK, List.countP_cons]
    | cons y r ih =>
      intro h
      have hy := (List.pairwise_cons.1 h).1
      have hr := (List.pairwise_cons.1 h).2
      unfold insG
      by_cases h1 : ahd y s
      · have : hasK s (y :: r) = hasK s r := by
          unfold hasK
          rw [List.any_cons, decide_eq_false (fun k => ahd_irr k h1), Bool.false_or]
        have ih := ih hr
        unfold cnt at ih ⊢
        rw [if_pos h1, this, List.countP_cons, List.countP_cons, ih]
        omega
      · rw [if_neg h1]
        by_cases h2 : sameK y s
        · have : hasK s (y :: r) = true := hasK_iff.2 ⟨y, by simp, h2⟩
          unfold cnt
          rw [if_pos h2, this, List.countP_cons, List.countP_cons, under_same h2]
          simp
        · have h3 : ahd s y := (ahd_tri y s).resolve_left h1 |>.resolve_left h2
          have : hasK s (y :: r) = false := by
            cases hh : hasK s (y :: r) with
            | false => rfl
            | true =>
              obtain ⟨z, hz, k⟩ := hasK_iff.1 hh
              rcases List.mem_cons.1 hz with rfl | hz
              · exact absurd k h2
              · exact absurd (ahd_tr h3 (hy z hz)) (ahd_irr k.symm)
          unfold cnt
          rw [if_neg h2, this, List.countP_cons]
          simp
  rw [key g h]
  unfold addP
  have e : (hasK s g = false ∧ under q s = true) ↔ (hasK s g = false ∧ [] <+: q ∧ q <+: lv s.f) := by
    unfold under
    simp
  by_cases hc : hasK s g = false ∧ [] <+: q ∧ q <+: lv s.f
  · rw [if_pos hc, if_pos (e.2 hc)]
  · rw [if_neg hc, if_neg (fun k => hc (e.1 k))]; rfl
theorem cnt_del {g : List Sb} (h : Rise g) {s : Sb} (hs : hasK s g = true) : subP (cnt g) [] (lv s.f) = cnt (delG s g) := by
  funext q
  have key : ∀ g : List Sb, Rise g → cnt g q = cnt (delG s g) q + (if hasK s g = true ∧ under q s = true then 1 else 0) := by
    intro g
    induction g with
    | nil => intro _; simp [delG, cnt, hasK]
    | cons y r ih =>
      intro h
      have hy := (List.pairwise_cons.1 h).1
      have hr := (List.pairwise_cons.1 h).2
      have ih := ih hr
      unfold cnt delG at ih ⊢
      by_cases h2 : sameK y s
      · have h3 : hasK s (y :: r) = true := hasK_iff.2 ⟨y, by simp, h2⟩
        have h4 : hasK s r = false := by
          cases hh : hasK s r with
          | false => rfl
          | true =>
            obtain ⟨z, hz, k⟩ := hasK_iff.1 hh
            exact absurd (hy z hz) (ahd_irr ⟨h2.1.trans k.1.symm, h2.2.trans k.2.symm⟩)
        rw [h4] at ih
        rw [h3, List.filter_cons_of_neg (by simp [h2]), List.countP_cons, under_same h2, ih]
        simp
      · have h3 : hasK s (y :: r) = hasK s r := by
          unfold hasK
          rw [List.any_cons, decide_eq_false h2, Bool.false_or]
        rw [h3, List.filter_cons_of_pos (by simp [h2]), List.countP_cons, List.countP_cons, ih]
        omega
  have k := key g h
  unfold subP
  have e : under q s = true ↔ ([] <+: q ∧ q <+: lv s.f) := by
    unfold under
    simp
  by_cases hc : [] <+: q ∧ q <+: lv s.f
  · rw [if_pos hc, k, if_pos ⟨hs, e.2 hc⟩]; omega
  · rw [if_neg hc, k, if_neg (fun k => hc (e.1 k.2))]; rfl
end Go.Proofs.YtgcfgheamaoceaaGreatDoor
/- Layer 14: a book in memory; New, Len, and what may be. -/
namespace Go.Proofs.YtgcfgheamaoceaaGreatDoor
open Go.RowKit Go.MapKept Go.ChangeMaps Go.Maps

def cliL (c : List UInt8) : Bool := decide (c ≠ [] ∧ c.length ≤ 23)
/-- May a book's entries be these? -/
structure GoodG (g : List Sb) : Prop where
  rise : Rise g
  len : g.length ≤ 4096
  each : ∀ s ∈ g, filtL s.f = true ∧ cliL s.c = true ∧ s.q ≤ 2
def keyOfS (s : Sb) : Pth × Txt := (lv s.f, s.c)
/-- At block Bk lies a book of these entries, its branches where t says. -/
structure BookAt (w : World) (Bk : Nat) (g : List Sb) (t : Tr) : Prop where
  root : ∃ x, t [] = some x ∧ w.heap[Bk]? = some (.cells #[.pointer (some ⟨x.b, 0, none⟩)] 56 (0, 0))
  tree : TreeAt w t (look g) (cnt g) (g.map keyOfS)
  bk : ¬ Foot t Bk
  dom : ∀ p, (t p).isSome = true ↔ p = [] ∨ ∃ s ∈ g, under p s = true
  good : GoodG g
/-- All blocks of a book. -/
def BkF (Bk : Nat) (t : Tr) (k : Nat) : Prop := k = Bk ∨ Foot t k
variable {w w' : World} {Bk : Nat} {g : List Sb} {t : Tr}
theorem BookAt.lt (h : BookAt w Bk g t) {k : Nat} (hk : BkF Bk t k) : k < w.heap.size := by
  rcases hk with rfl | hk
  · obtain ⟨x, -, hr⟩ := h.root
    exact (Array.getElem?_eq_some_iff.1 hr).1
  · exact h.tree.lt hk
theorem BookAt.keeps (h : BookAt w Bk g t) (hk : ∀ k, BkF Bk t k → w'.heap[k]? = w.heap[k]?) : BookAt w' Bk g t :=
  { h with
    root := by obtain ⟨x, hx, hr⟩ := h.root; exact ⟨x, hx, (hk Bk (.inl rfl)).trans hr⟩
    tree := h.tree.keeps fun k hf => hk k (.inr hf) }
theorem BookAt.below (h : BookAt w Bk g t) (hb : Below w.heap.size w w') : BookAt w' Bk g t := h.keeps fun k hk => hb.block k (h.lt hk)
theorem cnt_le (g : List Sb) (q : Pth) : cnt g q ≤ g.length := List.countP_le_length
theorem cnt_pos {g : List Sb} {q : Pth} : 0 < cnt g q ↔ ∃ s ∈ g, under q s = true := List.countP_pos_iff
theorem fitL_len {l : List UInt8} (h : fitL l = true) : l.length ≤ 200 := (fitL_iff.1 h).2.1
theorem filtL_fit {l : List UInt8} (h : filtL l = true) : fitL l = true ∧ okF (lv l) = true := by
  unfold filtL at h
  rw [Bool.and_eq_true] at h
  exact h
theorem cli_len {c : List UInt8} (h : cliL c = true) : c ≠ [] ∧ c.length ≤ 23 := of_decide_eq_true h
theorem lv_short' {l : List UInt8} {n : Nat} (h : l.length ≤ n) : ∀ x ∈ lv l, x.length ≤ n := fun x hx => Nat.le_trans (joinL_len_le hx) (by rw [joinL_lv]; exact h)
theorem BookAt.enOf (h : BookAt w Bk g t) : EnOf (look g) g :=
  ⟨fun _ _ _ => look_iff h.good.rise, rise_nodup h.good.rise, fun s hs => (filtL_fit (h.good.each s hs).1).2⟩
theorem okF_last {p : Pth} {m : Txt} {r : Pth} (h : okF (p ++ [35] :: m :: r) = true) : False := by
  have := okF_hash (okF_app h)
  cases this
theorem BookAt.hlast (h : BookAt w Bk g t) (q : Pth) (m : Txt) : t (q ++ [[35]] ++ [m]) = none := by
  cases hh : t (q ++ [[35]] ++ [m]) with
  | none => rfl
  | some y =>
    exfalso
    rcases (h.dom _).1 (by rw [hh]; rfl) with e | ⟨s, hs, hu⟩
    · simp at e
    · obtain ⟨r, hr⟩ := under_iff.1 hu
      have := (filtL_fit (h.good.each s hs).1).2
      rw [hr] at this
      simp only [List.append_assoc, List.cons_append, List.nil_append] at this
      exact okF_last this
theorem BookAt.pos (h : BookAt w Bk g t) {q : Pth} (hq : q ≠ []) (ht : (t q).isSome = true) : 0 < cnt g q := cnt_pos.2 (((h.dom q).1 ht).resolve_left hq)
/-- One stands at a branch: it stands at all that lead on. -/
theorem BookAt.solo (h : BookAt w Bk g t) {s : Sb} (hs : hasK s g = true) : Solo t (look g) (cnt g) (lv s.f) s.c := by
  obtain ⟨x, hx, hk⟩ := hasK_iff.1 hs
  have hxf : lv x.f = lv s.f := by rw [hk.1]
  have one : ∀ q, cnt g q = 1 → q <+: lv s.f → ∀ y ∈ g, under q y = true → y = x := fun q h1 hq y hy hu => by
    have hux : under q x = true := by unfold under; rw [hxf]; simpa using hq
    refine Classical.byContradiction fun hne => ?_
    have hp := nodup_le [x, y] (g.filter (under q)) (by simpa using fun e => hne e.symm) (fun z hz => by
      simp at hz
      rcases hz with rfl | rfl
      · exact List.mem_filter.2 ⟨hx, hux⟩
      · exact List.mem_filter.2 ⟨hy, hu⟩)
    unfold cnt at h1
    rw [List.countP_eq_length_filter] at h1
    simp at hp
    omega
  refine ⟨fun q m hq h1 hp hm => ?_, fun q c hq h1 hp hc => ?_, fun q hp ht => ?_⟩
  · rcases (h.dom _).1 hm with e | ⟨y, hy, hu⟩
    · simp at e
    · obtain ⟨r, hr⟩ := under_iff.1 hu
      have e := one q h1 hp y hy (under_iff.2 ⟨[m] ++ r, by rw [hr]; simp⟩)
      rw [e, hxf] at hr
      refine ⟨⟨r, hr.symm⟩, ?_⟩
      have h2 : 0 < cnt g (q ++ [m]) := cnt_pos.2 ⟨y, hy, hu⟩
      have h3 : cnt g (q ++ [m]) ≤ cnt g q := List.countP_mono_left fun z _ hz => by
        obtain ⟨r, hr⟩ := under_iff.1 hz
        exact under_iff.2 ⟨[m] ++ r, by rw [hr]; simp⟩
      omega
  · obtain ⟨y, hy⟩ := Option.isSome_iff_exists.1 hc
    obtain ⟨h2, h3, h4⟩ := (look_iff h.good.rise).1 hy
    have e := one q h1 hp y h2 (under_iff.2 ⟨[], by rw [h3]; simp⟩)
    rw [e] at h3 h4
    exact ⟨h3.symm.trans hxf, h4.symm.trans hk.2⟩
  · exact cnt_pos.2 ⟨x, hx, by unfold under; rw [hxf]; simpa using hp⟩
theorem there_nil (w : World) : Calls Tryz.prog 41 #[.pointer none] w fun e w' => e = .returned (.bool false) ∧ w = w' := by
  go_enter Tryz.func41, Tryz.ntmps41
  go_wp2
  go_ret
  exact ⟨rfl, rfl⟩
theorem there_zero (w : World) (Bk : Nat) (h : w.cell? ⟨Bk, 0, none⟩ = some (.pointer none)) : Calls Tryz.prog 41 #[.pointer (some ⟨Bk, 0, none⟩)] w fun e w' => e = .returned (.bool false) ∧ w = w' := by
  go_enter Tryz.func41, Tryz.ntmps41
  go_wp2
  go_ret
  exact ⟨rfl, rfl⟩
theorem there_yes (w : World) (Bk b : Nat) (h : w.cell? ⟨Bk, 0, none⟩ = some (.pointer (some ⟨b, 0, none⟩))) : Calls Tryz.prog 41 #[.pointer (some ⟨Bk, 0, none⟩)] w fun e w' => e = .returned (.bool true) ∧ w = w' := by
  go_enter Tryz.func41, Tryz.ntmps41
  go_wp2
  go_ret
  exact ⟨rfl, rfl⟩
theorem isClient_any (w : World) (c : ByteArray) (hc : c.size ≤ 1000000) : Calls Tryz.prog 53 #[.string c] w fun e w' => e = .returned (.bool (cliL c.data.toList)) ∧ w = w' := by
  have e : cliL c.data.toList = (decide (0 < c.size) && decide (c.size ≤ 23)) := by
    have hl : c.data.toList.length = c.size := by simp
    unfold cliL
    rw [Bool.eq_iff_iff]
    simp only [decide_eq_true_eq, Bool.and_eq_true, hl]
    have : c.data.toList ≠ [] ↔ 0 < c.size := by rw [← hl]; exact List.length_pos_iff.symm
    rw [this]
  rw [e]
  obtain ⟨n, hn⟩ : ∃ n, c.size = n := ⟨_, rfl⟩
  have hcl : c.size = n := hn
  rw [hn]
  by_cases h0 : 0 < n
  · have h1 : (0 : Int) < (n : Int) := by omega
    by_cases h2 : n ≤ 23
    · have h3 : (n : Int) ≤ 23 := by omega
      rw [decide_eq_true h0, decide_eq_true h2]
      go_enter Tryz.func53, Tryz.ntmps53
      go_wp2
      go_ret
      exact ⟨rfl, rfl⟩
    · have h3 : ¬ (n : Int) ≤ 23 := by omega
      rw [decide_eq_true h0, decide_eq_false h2]
      go_enter Tryz.func53, Tryz.ntmps53
      go_wp2
      go_ret
      exact ⟨rfl, rfl⟩
  · have h1 : ¬ (0 : Int) < (n : Int) := by omega
    rw [decide_eq_false h0]
    go_enter Tryz.func53, Tryz.ntmps53
    go_wp2
    go_ret
    exact ⟨rfl, rfl⟩
def subZ (bf bc : Bool) (q : Int) : Nat := if bf = false then 230 else if bc = false ∨ q < 0 ∨ 2 < q then 2 else 0
theorem subZ_two {q : Int} (h : 2 < q) : subZ true true q = 2 := by unfold subZ; rw [if_neg (by decide), if_pos (.inr (.inr h))]
theorem subZ_no {q : Int} (h : ¬ q < 0) (k : ¬ 2 < q) : subZ true true q = 0 := by
  unfold subZ
  rw [if_neg (by decide), if_neg (by rintro (h' | h' | h'); cases h'; exact h h'; exact k h')]
noncomputable def subE (f c : List UInt8) (q : Int) : Nat := subZ (filtL f) (cliL c) q
def SubPost (w : World) (n : Nat) (e : Ending) (w' : World) : Prop := e = .returned (.int .i64 (n : Int)) ∧ Below w.heap.size w w'
set_option maxRecDepth 100000 in
/-- may, of a book that is there. -/
theorem may_any (w : World) (ht : Tabs w) (Bk b : Nat) (h : w.cell? ⟨Bk, 0, none⟩ = some (.pointer (some ⟨b, 0, none⟩))) (f c : ByteArray) (hf : f.size ≤ 1000) (hc : c.size ≤ 1000000) (q : Int) :
    Calls Tryz.prog 37 #[.pointer (some ⟨Bk, 0, none⟩), .agg #[.string f, .string c, .int .i64 q]] w fun e w' => SubPost w (subE f.data.toList c.data.toList q) e w' := by
  have hb : Below w.heap.size w (w.alloc (.cells #[.string f, .string c, .int .i64 q] 31)) := (Below.refl _ w).alloc (Nat.le_refl _) _
  have HT := Lib.hid (there_yes (w.alloc (.cells #[.string f, .string c, .int .i64 q] 31)) Bk b ((hb.cell (p := ⟨Bk, 0, none⟩) (cell_lt h)).trans h))
  have HF := Lib.hid (filter_any f hf _ (ht.below hb ht.two))
  have HB := Lib.hid hb
  have hr := heap_alloc_new w (.cells #[.string f, .string c, .int .i64 q] 31)
  have HR := Lib.hid hr
  have HCl := Lib.hid (fun W => isClient_any W c hc)
  unfold subE
  obtain ⟨bf, hbf⟩ : ∃ b, filtL f.data.toList = b := ⟨_, rfl⟩
  obtain ⟨bc, hbc⟩ : ∃ b, cliL c.data.toList = b := ⟨_, rfl⟩
  rw [hbf] at HF ⊢
  rw [hbc] at HCl ⊢
  clear hb h ht hr hbf hbc
  go_enter Tryz.func37, Tryz.ntmps37
  go_wp2_with fail
  refine HT.out.mono ?_
  rintro e w1 ⟨rfl, rfl⟩
  go_wp2_with fail
  refine HF.out.mono ?_
  rintro e w1 ⟨rfl, hb1⟩
  obtain ⟨-, d0, d1, d2, -, -, -⟩ := box3 ((hb1.block w.heap.size (by simp)).trans HR.out)
  have HB1 := Lib.hid (show Below w.heap.size w w1 from HB.out.trans (hb1.mono HB.out.size))
  have hl1 : w.heap.size < w1.heap.size := by have := hb1.size; simp at this; omega
  clear hb1 HF HT HR
  cases bf with
  | false =>
    go_wp2
    go_ret
    exact ⟨rfl, HB1.out⟩
  | true =>
    go_wp2_with fail
    refine (HCl.out w1).mono ?_
    rintro e w2 ⟨rfl, rfl⟩
    cases bc with
    | false =>
      go_wp2
      go_ret
      exact ⟨rfl, HB1.out⟩
    | true =>
      by_cases h1 : q < 0
      · have hz : subZ true true q = 2 := by simp [subZ, h1]
        have h1d : decide (q < 0) = true := decide_eq_true h1
        have Hz := Lib.hid hz
        clear hz h1
        go_wp2
        go_ret
        exact ⟨by rw [Hz.out]; rfl, HB1.out⟩
      · have h1d : decide (q < 0) = false := decide_eq_false h1
        by_cases h2 : 2 < q
        · have h2d : decide (2 < q) = true := decide_eq_true h2
          have Hq := Lib.hid (And.intro h1 h2)
          clear h1 h2
          go_wp2
          go_ret
          exact ⟨by rw [subZ_two Hq.out.2]; rfl, HB1.out⟩
        · have h2d : decide (2 < q) = false := decide_eq_false h2
          have Hq := Lib.hid (And.intro h1 h2)
          clear h1 h2
          go_wp2
          go_ret
          exact ⟨by rw [subZ_no (by have := Hq.out.1; omega) (by have := Hq.out.2; omega)]; rfl, HB1.out⟩
end Go.Proofs.YtgcfgheamaoceaaGreatDoor
/- Layer 14: New, Len, apart, lay. -/
namespace Go.Proofs.YtgcfgheamaoceaaGreatDoor
open Go.RowKit Go.MapKept Go.ChangeMaps Go.Maps

variable {w w' : World} {Bk : Nat} {g : List Sb} {t : Tr}
def oneT (x : Nd) : Tr := fun p => if p = [] then some x else none
theorem goodNil : GoodG [] := ⟨List.Pairwise.nil, by simp, fun s hs => by cases hs⟩
theorem oneT_tree {x : Nd} (hn : NewNd w x w') : TreeAt w' (oneT x) (look []) (cnt []) ([] : List (Pth × Txt)) := by
  have hp : ∀ p y, oneT x p = some y → p = [] ∧ y = x := fun p y h => by
    unfold oneT at h
    by_cases e : p = []
    · rw [if_pos e] at h; injection h with h; exact ⟨e, h.symm⟩
    · rw [if_neg e] at h; cases h
  refine ⟨fun p y h => ?_, fun p y h => ?_, fun p y h => ?_, fun p q y z k h1 h2 _ _ => ?_, fun p y h => ?_, fun q l h => ?_, fun q c h => ?_, fun q h => rfl, fun q hq h => ?_, fun q c h => ?_, by simp, fun q => by simp [cnt]⟩
  · obtain ⟨rfl, rfl⟩ := hp p y h
    exact hn.b
  · obtain ⟨rfl, rfl⟩ := hp p y h
    have e : kidV (oneT y) [] = fun _ => none := by funext m; unfold kidV oneT; rw [if_neg (by simp)]; rfl
    rw [e]
    exact SMap.empty hn.n
  · obtain ⟨rfl, rfl⟩ := hp p y h
    exact SMap.empty hn.e
  · rw [(hp p y h1).1, (hp q z h2).1]
  · obtain ⟨rfl, rfl⟩ := hp p y h
    exact hn.own
  · unfold oneT at h
    rw [if_neg (by simp)] at h
    cases h
  · cases h
  · unfold oneT at h
    rw [if_neg hq] at h
    cases h
  · cases h
def NewPost (w : World) (g : List Sb) (e : Ending) (w' : World) : Prop := ∃ Bk t, e = .returned (.pointer (some ⟨Bk, 0, none⟩)) ∧ BookAt w' Bk g t ∧ (∀ k, BkF Bk t k → w.heap.size ≤ k) ∧ Below w.heap.size w w'
theorem new_any (w : World) : Calls Tryz.prog 10 #[] w fun e w' => NewPost w [] e w' := by
  have HN := Lib.hid (bare_new w)
  go_enter Tryz.func10, Tryz.ntmps10
  go_wp2_with (go_at_call 30; refine HN.out.mono ?_; rintro e w1 ⟨x, rfl, hn⟩; have HX := Lib.hid hn; clear hn)
  go_ret
  have hn := HX.out
  have hb1 : Below w.heap.size w1 (w1.alloc (.cells #[.pointer (some ⟨x.b, 0, none⟩)] 56)) := (Below.refl _ w1).alloc hn.below.size _
  have hb2 : Below w1.heap.size w1 (w1.alloc (.cells #[.pointer (some ⟨x.b, 0, none⟩)] 56)) := (Below.refl _ w1).alloc (Nat.le_refl _) _
  have hfoot : ∀ k, Foot (oneT x) k → x.has k := fun k ⟨p, y, hy, hh⟩ => by
    unfold oneT at hy
    by_cases e : p = []
    · rw [if_pos e] at hy; injection hy with hy; exact hy ▸ hh
    · rw [if_neg e] at hy; cases hy
  have hT := oneT_tree hn
  refine ⟨w1.heap.size, oneT x, rfl, ⟨⟨x, rfl, heap_alloc_new w1 _⟩, hT.below hb2, fun h => by have := hT.lt h; omega, fun p => ?_, goodNil⟩, fun k hk => ?_, hn.below.trans hb1⟩
  · unfold oneT
    by_cases e : p = []
    · simp [e]
    · simp [e]
  · rcases hk with rfl | hk
    · exact hn.below.size
    · rcases hfoot k hk with rfl | rfl | rfl
      · exact hn.high.1
      · exact hn.high.2.1
      · exact hn.high.2.2
theorem BookAt.cell (h : BookAt w Bk g t) : ∃ x, t [] = some x ∧ w.cell? ⟨Bk, 0, none⟩ = some (.pointer (some ⟨x.b, 0, none⟩)) := by
  obtain ⟨x, hx, hr⟩ := h.root
  refine ⟨x, hx, ?_⟩
  rw [cell_of_row _ _ _ _ _ _ hr]
  rfl
theorem cnt_nil (g : List Sb) : cnt g [] = g.length := by
  unfold cnt
  rw [List.countP_eq_length]
  intro s _
  unfold under
  simp
theorem len_any (h : BookAt w Bk g t) : Calls Tryz.prog 26 #[.pointer (some ⟨Bk, 0, none⟩)] w fun e w' => e = .returned (.int .i64 (g.length : Int)) ∧ w = w' := by
  obtain ⟨x, hx, hc⟩ := h.cell
  obtain ⟨-, -, c2⟩ := h.tree.cells hx
  rw [cnt_nil] at c2
  have HT := Lib.hid (there_yes w Bk x.b hc)
  clear h hx
  go_enter Tryz.func26, Tryz.ntmps26
  go_wp2_with (go_at_call 41; refine HT.out.mono ?_; rintro e w1 ⟨rfl, rfl⟩)
  go_ret
  exact ⟨rfl, rfl⟩
end Go.Proofs.YtgcfgheamaoceaaGreatDoor
/- The library's contracts on slices.Sorted of maps.Keys over texts, laid at this translation off the kit's shelf. -/
namespace Go.Proofs.YtgcfgheamaoceaaGreatDoor
open Go.Shelf
def keys46_ren : Go.Shelf.Ren := ⟨fun | 7 => 46 | 10 => 77 | n => n, fun | 23 => 85 | 26 => 9 | 3 => 3 | 28 => 90 | 0 => 0 | 27 => 89 | 33 => 61 | 4 => 4 | n => n, fun | n => n⟩
theorem keys46 : Go.Proofs.SlLaysZ.n7 Tryz.prog keys46_ren := {
  mixed := by kernel_rfl
  f7 := ⟨Tryz.f46.name, by decide, Tryz.func46.trans (congrArg some (by kernel_rfl))⟩
  f10 := ⟨Tryz.f77.name, by decide, Tryz.func77.trans (congrArg some (by kernel_rfl))⟩
  t0 := Tryz.underlying0
  a0 := Tryz.isAgg0
  z0 := Tryz.sizeOf0
  v0 := Tryz.zeroValue0
  t4 := Tryz.underlying4
  a4 := Tryz.isAgg4
  z4 := Tryz.sizeOf4
  v4 := Tryz.zeroValue4
  t23 := Tryz.underlying85
  a23 := Tryz.isAgg85
  z23 := Tryz.sizeOf85
  v23 := Tryz.zeroValue85
  t26 := Tryz.underlying9
  a26 := Tryz.isAgg9
  z26 := Tryz.sizeOf9
  v26 := Tryz.zeroValue9
  t27 := Tryz.underlying89
  a27 := Tryz.isAgg89
  z27 := Tryz.sizeOf89
  v27 := Tryz.zeroValue89
  t28 := Tryz.underlying90
  a28 := Tryz.isAgg90
  z28 := Tryz.sizeOf90
  v28 := Tryz.zeroValue90
  t33 := Tryz.underlying61
  a33 := Tryz.isAgg61
  z33 := Tryz.sizeOf61
  v33 := Tryz.zeroValue61 }
def sorted45_ren : Go.Shelf.Ren := ⟨fun | 6 => 45 | 8 => 75 | 9 => 76 | 11 => 97 | 13 => 87 | 12 => 98 | 23 => 109 | 24 => 110 | 14 => 118 | 15 => 119 | 16 => 120 | 17 => 121 | 18 => 122 | 19 => 123 | 20 => 124 | 21 => 125 | 22 => 126 | 25 => 140 | 26 => 130 | 27 => 131 | 28 => 141 | 29 => 142 | 30 => 143 | 31 => 153 | n => n, fun | 26 => 9 | 28 => 90 | 24 => 79 | 0 => 0 | 3 => 3 | 37 => 126 | 48 => 149 | 50 => 151 | 4 => 4 | 40 => 143 | 39 => 142 | 45 => 100 | 5 => 5 | 9 => 9 | 51 => 160 | 55 => 164 | 57 => 176 | 58 => 177 | 33 => 61 | n => n, fun | n => n⟩
theorem sorted45 : Go.Proofs.SlLaysZ.n6 Tryz.prog sorted45_ren := {
  mixed := by kernel_rfl
  f6 := ⟨Tryz.f45.name, by decide, Tryz.func45.trans (congrArg some (by kernel_rfl))⟩
  f8 := ⟨Tryz.f75.name, by decide, Tryz.func75.trans (congrArg some (by kernel_rfl))⟩
  f11 := ⟨Tryz.f97.name, by decide, Tryz.func97.trans (congrArg some (by kernel_rfl))⟩
  t0 := Tryz.underlying0
  a0 := Tryz.isAgg0
  z0 := Tryz.sizeOf0
  v0 := Tryz.zeroValue0
  t24 := Tryz.underlying79
  a24 := Tryz.isAgg79
  z24 := Tryz.sizeOf79
  v24 := Tryz.zeroValue79
  t26 := Tryz.underlying9
  a26 := Tryz.isAgg9
  z26 := Tryz.sizeOf9
  v26 := Tryz.zeroValue9
  t28 := Tryz.underlying90
  a28 := Tryz.isAgg90
  z28 := Tryz.sizeOf90
  v28 := Tryz.zeroValue90
  i26 := by kernel_rfl }
def sort76_ren : Go.Shelf.Ren := ⟨fun | 6 => 76 | 8 => 87 | 9 => 98 | 19 => 109 | 20 => 110 | 21 => 118 | 22 => 119 | 23 => 120 | 24 => 121 | 25 => 122 | 26 => 123 | 27 => 124 | 28 => 125 | 29 => 126 | 36 => 140 | 31 => 130 | 32 => 131 | 37 => 141 | 38 => 142 | 39 => 143 | 41 => 153 | n => n, fun | 27 => 79 | 29 => 9 | 3 => 3 | 32 => 126 | 26 => 79 | 0 => 0 | 44 => 149 | 46 => 151 | 4 => 4 | 36 => 143 | 35 => 142 | 41 => 100 | 5 => 5 | 9 => 9 | 53 => 160 | 57 => 164 | 63 => 176 | 64 => 177 | n => n, fun | n => n⟩
theorem sort76 : Go.Proofs.SlLaysM.n6 Tryz.prog sort76_ren := {
  mixed := by kernel_rfl
  f6 := ⟨Tryz.f76.name, by decide, Tryz.func76.trans (congrArg some (by kernel_rfl))⟩
  f8 := Tryz.func87.trans (congrArg some (by kernel_rfl))
  f9 := ⟨Tryz.f98.name, by decide, Tryz.func98.trans (congrArg some (by kernel_rfl))⟩
  f19 := Tryz.func109.trans (congrArg some (by kernel_rfl))
  f20 := Tryz.func110.trans (congrArg some (by kernel_rfl))
  f21 := ⟨Tryz.f118.name, by decide, Tryz.func118.trans (congrArg some (by kernel_rfl))⟩
  f22 := ⟨Tryz.f119.name, by decide, Tryz.func119.trans (congrArg some (by kernel_rfl))⟩
  f23 := ⟨Tryz.f120.name, by decide, Tryz.func120.trans (congrArg some (by kernel_rfl))⟩
  f24 := ⟨Tryz.f121.name, by decide, Tryz.func121.trans (congrArg some (by kernel_rfl))⟩
  f25 := ⟨Tryz.f122.name, by decide, Tryz.func122.trans (congrArg some (by kernel_rfl))⟩
  f26 := ⟨Tryz.f123.name, by decide, Tryz.func123.trans (congrArg some (by kernel_rfl))⟩
  f27 := ⟨Tryz.f124.name, by decide, Tryz.func124.trans (congrArg some (by kernel_rfl))⟩
  f28 := ⟨Tryz.f125.name, by decide, Tryz.func125.trans (congrArg some (by kernel_rfl))⟩
  f29 := ⟨Tryz.f126.name, by decide, Tryz.func126.trans (congrArg some (by kernel_rfl))⟩
  f31 := Tryz.func130.trans (congrArg some (by kernel_rfl))
  f32 := Tryz.func131.trans (congrArg some (by kernel_rfl))
  f36 := ⟨Tryz.f140.name, by decide, Tryz.func140.trans (congrArg some (by kernel_rfl))⟩
  f37 := ⟨Tryz.f141.name, by decide, Tryz.func141.trans (congrArg some (by kernel_rfl))⟩
  f38 := ⟨Tryz.f142.name, by decide, Tryz.func142.trans (congrArg some (by kernel_rfl))⟩
  f39 := ⟨Tryz.f143.name, by decide, Tryz.func143.trans (congrArg some (by kernel_rfl))⟩
  f41 := ⟨Tryz.f153.name, by decide, Tryz.func153.trans (congrArg some (by kernel_rfl))⟩
  t0 := Tryz.underlying0
  a0 := Tryz.isAgg0
  z0 := Tryz.sizeOf0
  v0 := Tryz.zeroValue0
  t3 := Tryz.underlying3
  a3 := Tryz.isAgg3
  z3 := Tryz.sizeOf3
  v3 := Tryz.zeroValue3
  t4 := Tryz.underlying4
  a4 := Tryz.isAgg4
  z4 := Tryz.sizeOf4
  v4 := Tryz.zeroValue4
  t5 := Tryz.underlying5
  a5 := Tryz.isAgg5
  z5 := Tryz.sizeOf5
  v5 := Tryz.zeroValue5
  t9 := Tryz.underlying9
  a9 := Tryz.isAgg9
  z9 := Tryz.sizeOf9
  v9 := Tryz.zeroValue9
  t26 := Tryz.underlying79
  a26 := Tryz.isAgg79
  z26 := Tryz.sizeOf79
  v26 := Tryz.zeroValue79
  t27 := Tryz.underlying79
  a27 := Tryz.isAgg79
  z27 := Tryz.sizeOf79
  v27 := Tryz.zeroValue79
  t29 := Tryz.underlying9
  a29 := Tryz.isAgg9
  z29 := Tryz.sizeOf9
  v29 := Tryz.zeroValue9
  t32 := Tryz.underlying126
  a32 := Tryz.isAgg126
  z32 := Tryz.sizeOf126
  v32 := Tryz.zeroValue126
  t35 := Tryz.underlying142
  a35 := Tryz.isAgg142
  z35 := Tryz.sizeOf142
  v35 := Tryz.zeroValue142
  t36 := Tryz.underlying143
  a36 := Tryz.isAgg143
  z36 := Tryz.sizeOf143
  v36 := Tryz.zeroValue143
  t41 := Tryz.underlying100
  a41 := Tryz.isAgg100
  z41 := Tryz.sizeOf100
  v41 := Tryz.zeroValue100
  t44 := Tryz.underlying149
  a44 := Tryz.isAgg149
  z44 := Tryz.sizeOf149
  v44 := Tryz.zeroValue149
  t46 := Tryz.underlying151
  a46 := Tryz.isAgg151
  z46 := Tryz.sizeOf151
  v46 := Tryz.zeroValue151
  t53 := Tryz.underlying160
  a53 := Tryz.isAgg160
  z53 := Tryz.sizeOf160
  v53 := Tryz.zeroValue160
  t57 := Tryz.underlying164
  a57 := Tryz.isAgg164
  z57 := Tryz.sizeOf164
  v57 := Tryz.zeroValue164
  t63 := Tryz.underlying176
  a63 := Tryz.isAgg176
  z63 := Tryz.sizeOf176
  v63 := Tryz.zeroValue176
  t64 := Tryz.underlying177
  a64 := Tryz.isAgg177
  z64 := Tryz.sizeOf177
  v64 := Tryz.zeroValue177 }
open Go.RowKit Go.Maps Go.Sort
/-- slices.Sort's two contracts at this dump, at the fence that asks nothing. -/
theorem sorts45 (m : Nat) : AnyZ.SortsIn Tryz.prog sorted45_ren Fence.wide m :=
  ⟨fun blk off cap ss W hH hblk hsz => callsIn_wide.2 (AnyM.slices_Sort_string sort76 blk off cap ss W hH hblk hsz),
   fun p cap W => callsIn_wide.2 (AnyM.slices_Sort_string_none sort76 p cap W)⟩
/-- maps.Keys: a function value over one new block, which holds the map. -/
theorem keysS_any (mb : Option Nat) (W : World) : Calls Tryz.prog 46 #[.map mb] W fun e w' => e = .returned (.func (.func 77) #[] #[.pointer (some ⟨W.heap.size, 0, none⟩)]) ∧ w' = W.alloc (.cells #[.map mb] 85) :=
  (callsIn_wide (n := 5)).1 (AnyZ.keys_in keys46 Fence.wide 5 trivial rfl mb W)
set_option maxHeartbeats 1000000 in
/-- slices.Sorted at what maps.Keys handed back for a map that is not nil: a new slice that holds the map's keys, sorted. -/
theorem sortedS_any {H : Type} (b nn Bm : Nat) (D0 : DataW H) (R : Value → Option (DataW H × List MemPlace)) (w : World) (hBm : Bm < w.heap.size) (hm : w.cell? ⟨Bm, 0, none⟩ = some (.map (some b))) (hown : w.ownsMap Tryz.prog 9 R b nn D0) (hmax : Maps.size D0 ≤ maxLen) (hbytes : Maps.size D0 * 16 ≤ 140737488355328) :
    Calls Tryz.prog 45 #[.func (.func 77) #[] #[.pointer (some ⟨Bm, 0, none⟩)]] w fun e w' => ∃ (v : Value) (ss : List (List UInt8)), e = .returned v ∧ ss.Perm (strKeys D0) ∧
      OwnT w' w.heap.size v (ss.mergeSort (fun x y => decide (x ≤ y))) ∧ Below w.heap.size w w' := by
  have hseq : SeqGives Fence.wide 2 Tryz.prog 77 #[.pointer (some ⟨Bm, 0, none⟩)] encStr (fun ss => ss.Perm (strKeys D0)) (Maps.size D0) w :=
    AnyZ.keys_gives (ρ := keys46_ren) { keys46 with } Fence.wide _ trivial rfl (by omega) Bm b nn D0 _ hBm hm hown
  refine ((callsIn_wide (n := 5)).1 (AnyZ.sorted_in sorted45 Fence.wide 5 trivial trivial trivial trivial rfl (by omega) (sorts45 _) (enters_of Tryz.func76 (by kernel_rfl) rfl) 77 #[.pointer (some ⟨Bm, 0, none⟩)] trivial (enters_of Tryz.func77 (by kernel_rfl) rfl) _ _ hmax hbytes _ hseq)).mono ?_
  rintro e w' ⟨v, ss, rfl, hS, hrow, -, hb⟩
  refine ⟨v, ss, rfl, hS, ?_, hb⟩
  unfold OwnT
  rw [List.length_mergeSort]
  exact hrow
end Go.Proofs.YtgcfgheamaoceaaGreatDoor
/- A statement whose order is open, and one of whose operations writes a slot that others read ahead of it. Of no program. -/
namespace Go.Proofs.YtgcfgheamaoceaaGreatDoor

section
variable {P : Program} {ops : Array Oper} {Q : Exit → Act → World → Prop}
/-- What is known when the operations in 'listed' have come up. -/
structure RegN (ops : Array Oper) (I : Array Bool → World → Prop) (Sp : Nat → Value → World → Prop) (a0 : Act) (listed : Array Bool) (a : Act) (w : World) : Prop where
  inv : I listed w
  size : listed.size = ops.size
  defers : a.defers = a0.defers
  len : a.tmps.size = a0.tmps.size
  old : ∀ t, (∀ (i : Nat) (o : Oper), ops[i]? = some o → listed.getD i false = true → o.dst ≠ some t) → a.tmps.getD t undef = a0.tmps.getD t undef
  said : ∀ (i : Nat) (o : Oper) (d : Tmp), ops[i]? = some o → listed.getD i false = true → o.dst = some d → Sp i (a.tmps.getD d undef) w
  closed : ∀ (i : Nat) (o : Oper), ops[i]? = some o → listed.getD i false = true → ∀ e ∈ o.after, Region.binds .any e = true → listed.getD e.on false = true

theorem RegN.toL {I : Array Bool → World → Prop} {Sp : Nat → Value → World → Prop} {a0 a : Act} {listed : Array Bool} {w : World} (h : RegN ops I Sp a0 listed a w) : RegL ops I Sp a0 listed a w :=
  ⟨h.inv, h.size, h.defers, h.len, fun t ht => h.old t (fun i o hi _ => ht i o hi), h.said, h.closed⟩
/-- Operation j alone writes slot t. -/
def onlyB (ops : Array Oper) (t : Tmp) (j : Nat) : Bool := (List.range ops.size).all fun i => i == j || match ops[i]? with | some o => o.dst != some t | none => true
theorem RegN.later {I : Array Bool → World → Prop} {Sp : Nat → Value → World → Prop} {a0 a : Act} {listed : Array Bool} {w : World} (h : RegN ops I Sp a0 listed a w) {t : Tmp} (j : Nat) (ht : onlyB ops t j = true) (hj : listed.getD j false = false) : a.eval (.tmp t) = a0.tmps.getD t undef :=
  h.old t (fun i o hi hl e => by
    have h1 := List.all_eq_true.1 ht i (List.mem_range.2 (Array.getElem?_eq_some_iff.1 hi).1)
    simp only [hi, e] at h1
    by_cases hij : i = j
    · subst hij; rw [hj] at hl; cases hl
    · simp [hij] at h1)
theorem wpAny_n (I : Array Bool → World → Prop) (Sp : Nat → Value → World → Prop) (a0 : Act)
    (hlex : ∀ i o, ops[i]? = some o → ∀ e ∈ o.after, Region.binds .any e = true → e.on < i)
    (hd : ∀ (i j : Nat) (oi oj : Oper) (d : Tmp), ops[i]? = some oi → ops[j]? = some oj → i ≠ j → oi.dst = some d → oj.dst ≠ some d)
    (hin : ∀ (i : Nat) (o : Oper) (d : Tmp), ops[i]? = some o → o.dst = some d → d < a0.tmps.size)
    (step : ∀ (i : Nat) (o : Oper), ops[i]? = some o → ∀ listed a w, RegN ops I Sp a0 listed a w → listed.getD i false = false → (∀ e ∈ o.after, Region.binds .any e = true → listed.getD e.on false = true) →
      wpOp P ops Q i (fun a' w' => ∃ v, a' = a.put o.dst v ∧ I (listed.setIfInBounds i true) w' ∧ (o.dst.isSome = true → Sp i v w') ∧ ∀ j u, listed.getD j false = true → Sp j u w → Sp j u w') a w)
    (fin : ∀ listed a w, RegN ops I Sp a0 listed a w → (∀ i, i < ops.size → listed.getD i false = true) → Q .normal a w) :
    ∀ (fuel : Nat) (listed : Array Bool) (a : Act) (w : World), RegN ops I Sp a0 listed a w → listed.toList.count false = fuel → wpAny P .any ops Q fuel listed a w := by
  intro fuel
  induction fuel with
  | zero =>
    intro listed a w hI hc
    have hno : ∀ i, i < ops.size → listed.getD i false = true := by
      intro i hi
      have hi2 : i < listed.size := by rw [hI.size]; exact hi
      have := List.count_eq_zero.1 hc
      rw [Array.getD, dif_pos hi2]
      have h2 : listed[i] ≠ false := fun hb => this (by rw [← hb]; exact Array.mem_toList_iff.2 (Array.getElem_mem hi2))
      exact (Bool.not_eq_false _).mp h2
    refine ⟨?_, fin listed a w hI hno⟩
    apply List.eq_nil_iff_forall_not_mem.2
    intro i hi
    obtain ⟨h0, o, ho, -⟩ := mem_ready.1 hi
    have hi1 := (Array.getElem?_eq_some_iff.1 ho).1
    have hi2 : i < listed.size := by rw [hI.size]; exact hi1
    have h1 := hno i hi1
    rw [Array.getD, dif_pos hi2] at h0 h1
    rw [h0] at h1
    cases h1
  | succ fuel ih =>
    intro listed a w hI hc
    refine ⟨fun h => fin listed a w hI (readyL_nil_all hI.size hlex h), fun i hi => ?_⟩
    obtain ⟨h0, o, ho, hpre⟩ := mem_ready.1 hi
    have hi1 := (Array.getElem?_eq_some_iff.1 ho).1
    have hi2 : i < listed.size := by rw [hI.size]; exact hi1
    have h0' : listed.getD i false = false := by
      rw [Array.getD, dif_pos hi2] at h0 ⊢; exact h0
    refine wpOp_mono ?_ (step i o ho listed a w hI h0' hpre)
    rintro a' w' ⟨v, rfl, hI', hS, hkeep⟩
    have hset : ∀ k, k ≠ i → (listed.setIfInBounds i true).getD k false = listed.getD k false := fun k hk => by
      simp [Ne.symm hk]
    have hseti : (listed.setIfInBounds i true).getD i false = true := by simp [hi2]
    have hup : ∀ k, listed.getD k false = true → (listed.setIfInBounds i true).getD k false = true := fun k hk => by
      by_cases hki : k = i
      · rw [hki]; exact hseti
      · rw [hset k hki]; exact hk
    refine ih _ _ _ ?_ ?_
    · refine ⟨hI', by simpa using hI.size, ?_, ?_, ?_, ?_, ?_⟩
      · cases hdst : o.dst <;> simp [Act.put, hI.defers]
      · cases hdst : o.dst <;> simp [Act.put, hI.len]
      · intro t ht
        rw [← hI.old t (fun j oj hj hl => ht j oj hj (hup j hl))]
        cases hdst : o.dst with
        | none => rfl
        | some d => exact getD_putL_other (fun e => ht i o ho hseti (by rw [hdst, e]))
      · intro j oj d hj hlist hdj
        by_cases hji : j = i
        · subst hji
          obtain rfl : o = oj := Option.some.inj (ho.symm.trans hj)
          rw [hdj, getD_putL_same (by rw [hI.len]; exact hin j o d ho hdj)]
          exact hS (by rw [hdj]; rfl)
        · rw [hset j hji] at hlist
          have hold := hkeep j _ hlist (hI.said j oj d hj hlist hdj)
          cases hdst : o.dst with
          | none => exact hold
          | some d' =>
            have hne : d' ≠ d := fun e => hd i j o oj d' ho hj (Ne.symm hji) hdst (by rw [hdj, e])
            rw [getD_putL_other hne]
            exact hold
      · intro k ok hk hlk e he hb
        by_cases hki : k = i
        · subst hki
          obtain rfl : o = ok := Option.some.inj (ho.symm.trans hk)
          exact hup _ (hpre e he hb)
        · rw [hset k hki] at hlk
          exact hup _ (hI.closed k ok hk hlk e he hb)
    · rw [Array.toList_setIfInBounds, List.count_set (by simpa using hi2)]
      have hf : listed.toList[i]'(by simpa using hi2) = false := by
        rw [Array.getElem_toList]
        rw [Array.getD, dif_pos hi2] at h0; exact h0
      simp [hf, hc]

theorem wp_region_n {id : Nat} (I : Array Bool → World → Prop) (Sp : Nat → Value → World → Prop) {a0 : Act} {w : World} (hm : P.follows .mixedOrders = true)
    (hlex : lexAnyB ops = true) (hdst : dstB ops = true) (hin : inB ops a0.tmps.size = true) (hI : I (Array.replicate ops.size false) w.drew)
    (step : ∀ (i : Nat) (o : Oper), ops[i]? = some o → ∀ listed a w', RegN ops I Sp a0 listed a w' → listed.getD i false = false → (∀ e ∈ o.after, Region.binds .any e = true → listed.getD e.on false = true) →
      wpOp P ops Q i (fun a' w'' => ∃ v, a' = a.put o.dst v ∧ I (listed.setIfInBounds i true) w'' ∧ (o.dst.isSome = true → Sp i v w'') ∧ ∀ j u, listed.getD j false = true → Sp j u w' → Sp j u w'') a w')
    (fin : ∀ listed a w', RegN ops I Sp a0 listed a w' → (∀ i, i < ops.size → listed.getD i false = true) → Q .normal a w') :
    (Code.region id ops true).wp P Q a0 w := by
  have hno : ∀ i, (Array.replicate ops.size false).getD i false = false := fun i => by
    simp only [Array.getD_eq_getD_getElem?, Array.getElem?_replicate]
    split <;> rfl
  refine wp_region_any hm (wpAny_n I Sp a0 (lexAny_of hlex) (fun i j oi oj d hi hj hne hd => dst_of hdst i j oi oj d hi hj hne hd) (fun i o d hi hd => in_of hin i o d hi hd) step fin _ _ _ _ ?_ (by simp))
  refine ⟨hI, by simp, rfl, rfl, fun _ _ => rfl, ?_, ?_⟩
  · intro i o d _ hl _
    rw [hno i] at hl; cases hl
  · intro i o _ hl
    rw [hno i] at hl; cases hl
end
end Go.Proofs.YtgcfgheamaoceaaGreatDoor
/- A loop over an iterator that, between two rounds, also writes cells of its own making of one type: the caller's invariant abides that. Of no program. -/
namespace Go.Proofs.YtgcfgheamaoceaaGreatDoor
open Go.RowKit

/-- What an iterator may turn: what is no cells, and cells of type T. -/
def Turns (T : TypeId) (o : Obj) : Prop := o.isCells = false ∨ ∃ cs, o = .cells cs T (0, 0)
/-- It abides the turn of such a block at or beyond B. -/
def Aside {β : Type} (T : TypeId) (B : Nat) (J : β → World → Prop) : Prop :=
  ∀ s W W' row, J s W → W.grownBy W' row → (∀ r, row = some r → B ≤ r ∧ ∃ o : Obj, W.heap[r]? = some o ∧ Turns T o) → J s W'
theorem Aside.own {β : Type} {T : TypeId} {B : Nat} {J : β → World → Prop} (h : Aside T B J) : OwnFrom B J := fun s W W' row hs hg hr => h s W W' row hs hg fun r e => by
  obtain ⟨h1, o, ho, hc⟩ := hr r e
  exact ⟨h1, o, ho, .inl hc⟩
theorem Aside.putObj {β : Type} {T : TypeId} {B : Nat} {I : β → World → Prop} (h : Aside T B I) {s : β} {W : World} {l : Nat} {o : Obj} (o' : Obj) (hs : I s W) (hB : B ≤ l) (hl : W.heap[l]? = some o) (ho : o.isCells = false) : I s (W.putObj l o') :=
  h.own.putObj o' hs hB hl ho
theorem Aside.mono {β : Type} {T : TypeId} {B B' : Nat} {J : β → World → Prop} (h : Aside T B J) (hB : B ≤ B') : Aside T B' J := fun s W W' row hs hg hr => h s W W' row hs hg fun r e => ⟨Nat.le_trans hB (hr r e).1, (hr r e).2⟩

section
variable {F : Fence} {n : Nat} {P : Program}
/-- What such an iterator promises: All: what it hands over if it is not left, Som: if it is, Nx: what is told of each call. -/
def HandsT {α : Type} (F : Fence) (n : Nat) (P : Program) (T : TypeId) (g : Nat) (lb : Array Value) (fr : α → Array Value) (Kp : World → World → Prop) (Nx : List α → α → Prop) (All Som : List α → Prop) (w : World) : Prop :=
  ∀ (l : Nat) (J Jx : List α → World → Prop) (W : World), Below w.heap.size w W → Aside T W.heap.size J → Aside T W.heap.size Jx →
    (∀ pre x W1, J pre W1 → Nx pre x → YieldAt F (n - 1) P l (fr x) W1 fun e W' =>
      (e = .returned (.bool true) ∧ J (pre ++ [x]) W' ∧ Kp W1 W') ∨ (e = .returned (.bool false) ∧ Jx (pre ++ [x]) W')) →
    J [] W → CallsIn F n P g (#[.func (.yield l) #[] #[]] ++ lb) W fun e W' => (∃ v, e = .returned v) ∧ ((∃ xs, All xs ∧ J xs W') ∨ ∃ xs, Som xs ∧ Jx xs W')
theorem HandsT.later {α : Type} {T : TypeId} {g : Nat} {lb : Array Value} {fr : α → Array Value} {Kp : World → World → Prop} {Nx : List α → α → Prop} {All Som : List α → Prop} {w w' : World} (h : HandsT F n P T g lb fr Kp Nx All Som w) (hb : Below w.heap.size w w') : HandsT F n P T g lb fr Kp Nx All Som w' :=
  fun l J Jx W hW hJ hJx hY h0 => h l J Jx W (hb.trans (hW.mono hb.size)) hJ hJx hY h0

variable {g : Operand} {ps : Array Tmp} {assign body : Code} {Q : Exit → Act → World → Prop} {a : Act} {w : World}
/-- A loop over such an iterator, in no round. -/
theorem wpIn_range_handsT {α : Type} {T : TypeId} (hro : F.round = none) (h1 : F.depth.isSome = true → 1 ≤ n) {gf : Nat} {lb : Array Value} (hg : a.eval g = .func (.func gf) #[] lb) (hFg : F.fn gf) (eg : ∀ args w, (callFunc gf args).run P w = .ok (.enter gf args) w)
    {fr : α → Array Value} {Kp : World → World → Prop} {Nx : List α → α → Prop} {All Som : List α → Prop} (hseq : HandsT F (n - 1) P T gf lb fr Kp Nx All Som w)
    (hKt : ∀ {A B C : World}, Kp A B → Kp B C → Kp A C) (hKb : ∀ (W : World) (l : Nat) (o o' : Obj), w.heap.size ≤ l → W.heap[l]? = some o → o.isCells = false → o.isWalk = false → Kp W (W.putObj l o'))
    (hKr : ∀ W, Kp W W) (hps : ∀ x, (fr x).size = ps.size)
    (I : List α → World → Prop) (Ix : Code → List α → World → Prop) (hI : Aside T w.heap.size I) (hIx : ∀ c, Aside T w.heap.size (Ix c)) (h0 : I [] w) (a₁ : α → Act)
    (hassign : ∀ (l : Nat) (x : α) (W : World) (K : Act → World → Prop), K (a₁ x) W →
      assign.wpIn (F.inRound l) (n - 1 - 1) P (Exit.then K (fun _ _ _ => False)) { tmps := (ps.zip (fr x)).foldl (fun t (p, v) => t.setIfInBounds p v) a.tmps, defers := [] } W)
    (hbody : ∀ (l : Nat) (pre : List α) (x : α) (W : World), w.heap.size ≤ l → (∃ r, W.heap[l]? = some (.loop r)) → I pre W → Nx pre x → body.wpIn (F.inRound l) (n - 1 - 1) P (leftBy w.heap.size Kp (I (pre ++ [x])) (fun c => Ix c (pre ++ [x])) W) (a₁ x) W)
    (hdone : ∀ (D : Nat) (xs : List α) (W : World), w.heap.size ≤ D → All xs → I xs W → W.heap[D]? = some (.deferred (some [])) → Q .normal { a with defers := { target := .collected D, args := #[] } :: a.defers } W)
    (hstop : ∀ (D : Nat) (c : Code) (xs : List α) (W : World), w.heap.size ≤ D → Som xs → Ix c xs W → W.heap[D]? = some (.deferred (some [])) → c.wpIn F n P Q { a with defers := { target := .collected D, args := #[] } :: a.defers } W) :
    (Code.rangeFunc g ps assign body).wpIn F n P Q a w := by
  refine wpIn_rangeFunc ?_
  intro fn hfn
  rw [hro]
  obtain ⟨rec, hrec⟩ : ∃ rec : LoopState → Option Code → Loop, rec = fun st pe => { state := st, pending := pe, fn, tmps := a.tmps, params := ps, assign, body, defers := w.heap.size } := ⟨_, rfl⟩
  obtain ⟨W1, hW1⟩ : ∃ W1, (w.alloc (.deferred (some []))).alloc (.loop (rec .ready none)) = W1 := ⟨_, rfl⟩
  have hs1 : W1.heap.size = w.heap.size + 2 := by rw [← hW1]; simp
  have hL1 : W1.heap[w.heap.size + 1]? = some (.loop (rec .ready none)) := by
    rw [← hW1]; have := World.alloc_heap_new (w.alloc (.deferred (some []))) (.loop (rec .ready none)); rwa [World.size_alloc] at this
  have hK1 : W1.heap[w.heap.size]? = some (.deferred (some [])) := by
    rw [← hW1]; exact (Below.heap_alloc _ _ _ (by simp)).trans (World.alloc_heap_new w _)
  have hI1 : I [] W1 := by rw [← hW1]; exact hI.own.alloc _ (hI.own.alloc _ h0)
  have hb1 : Below w.heap.size w W1 := by
    rw [← hW1]; exact ((Below.refl _ w).alloc (Nat.le_refl _) _).alloc (by simp) _
  refine ⟨w.heap.size + 1, [{ target := .collected w.heap.size, args := #[] }], W1, { target := .fn (.func gf) lb, args := #[.func (.yield (w.heap.size + 1)) #[] #[]] }, W1, gf,
    #[.func (.yield (w.heap.size + 1)) #[] #[]] ++ lb, W1, ?_, ?_, ?_, ?_, h1, ?_⟩
  · rw [← hW1, hrec]; exact run_enterLoop_outer _ _ _ _ _
  · simp only [resolve, hg]
    simp [go_sem]
  · intro f' hf'; simp [Target.leads] at hf'; subst hf'; exact hFg
  · simp [invoke, go_sem, eg]
  · have hold : ∀ {A B : World} {row : Option Nat} {k : Nat} {o : Obj}, A.grownBy B row → (∀ r, row = some r → W1.heap.size ≤ r ∧ ∃ o : Obj, A.heap[r]? = some o ∧ Turns T o) → k < W1.heap.size → A.heap[k]? = some o → B.heap[k]? = some o :=
      fun hg' hr hk ho => (hg'.block _ (Array.getElem?_eq_some_iff.1 ho).1 fun e => by have := (hr _ e.symm).1; omega).trans ho
    have hlow : ∀ {A : World} {row : Option Nat}, (∀ r, row = some r → W1.heap.size ≤ r ∧ ∃ o : Obj, A.heap[r]? = some o ∧ Turns T o) → ∀ r, row = some r → w.heap.size ≤ r ∧ ∃ o : Obj, A.heap[r]? = some o ∧ Turns T o :=
      fun hr r e => ⟨by have := (hr r e).1; omega, (hr r e).2⟩
    refine (hseq (w.heap.size + 1)
      (fun xs W => I xs W ∧ W.heap[w.heap.size + 1]? = some (.loop (rec .ready none)) ∧ W.heap[w.heap.size]? = some (.deferred (some [])))
      (fun xs W => ∃ c, Ix c xs W ∧ W.heap[w.heap.size + 1]? = some (.loop (rec .done (some c))) ∧ W.heap[w.heap.size]? = some (.deferred (some [])))
      W1 hb1
      (fun s A B row hs hg' hr => ⟨hI s A B row hs.1 hg' (hlow hr), hold hg' hr (by omega) hs.2.1, hold hg' hr (by omega) hs.2.2⟩)
      (fun s A B row hs hg' hr => by
        obtain ⟨c, hc, hl, hk⟩ := hs
        exact ⟨c, hIx c s A B row hc hg' (hlow hr), hold hg' hr (by omega) hl, hold hg' hr (by omega) hk⟩)
      ?_ ⟨hI1, hL1, hK1⟩).mono ?_
    · rintro pre x W ⟨hi, hl, hk⟩ hnx
      obtain ⟨fn', tmps', as', bd', hy, hR⟩ := round_yields (l := w.heap.size + 1) (N := 1) (Kp := Kp) (n := n - 1 - 1) (P := P) (M := fun _ args _ => args = fr x) hrec hfn (Nat.le_succ _) hKt hKb
        (fun _ _ _ e => by rw [e]; exact hps x)
        (fun k W => match k with | 0 => I pre W | _ + 1 => I (pre ++ [x]) W) (fun c _ W => Ix c (pre ++ [x]) W)
        (fun k A B row hs hg' hr => by
          cases k with
          | zero => exact hI.own _ A B row hs hg' hr
          | succ k => exact hI.own _ A B row hs hg' hr)
        (fun c k A B row hs hg' hr => (hIx c).own _ A B row hs hg' hr) (fun _ a' _ => a' = a₁ x) (fun _ _ _ _ _ _ hs _ _ => hs)
        (fun k args W K hi e hK => by subst e; exact hassign _ x W K (hK _ _ (KeepsFrom.refl _ _) (hKr W) hi rfl))
        (fun k a' W hr hi e hk1 => by
          subst e
          obtain rfl : k = 0 := by omega
          exact hbody _ pre x W (Nat.le_succ _) hr hi hnx) 0 (fr x) W hi hl rfl (by decide)
      refine ⟨fn', tmps', as', bd', hy, hR.mono ?_⟩
      rintro e W' (⟨rfl, ⟨h1, h2, h3⟩, h4⟩ | ⟨rfl, c, h1, h2, h3⟩)
      · exact .inl ⟨rfl, ⟨h1, h2, h3 _ _ (Nat.le_refl _) (by omega) hk rfl⟩, h4⟩
      · exact .inr ⟨rfl, c, h1, h2, h3 _ _ (Nat.le_refl _) (by omega) hk rfl⟩
    · rintro e W2 ⟨⟨v, rfl⟩, (⟨xs, hA, hi, hl, hk⟩ | ⟨xs, hS, c, hi, hl, hk⟩)⟩
      · exact ⟨none, _, by have := run_endLoop (P := P) hl (by rw [hrec]; simp); rw [hrec] at this; exact this, hdone _ xs _ (Nat.le_refl _) hA (hI.putObj _ hi (by omega) hl rfl) ((World.putObj_heap_other (by omega)).trans hk)⟩
      · exact ⟨some c, _, by have := run_endLoop (P := P) hl (by rw [hrec]; simp); rw [hrec] at this; exact this, hstop _ c xs _ (Nat.le_refl _) hS ((hIx c).putObj _ hi (by omega) hl rfl) ((World.putObj_heap_other (by omega)).trans hk)⟩
end
end Go.Proofs.YtgcfgheamaoceaaGreatDoor
/- Operations of statements in no fixed order: wanted or not, picks, comparisons of numbers, lengths, booleans. Of no program. -/
namespace Go.Proofs.YtgcfgheamaoceaaGreatDoor
open Go.RowKit

section
variable {P : Program} {ops : Array Oper} {Q : Exit → Act → World → Prop} {i : Nat} {o : Oper} {a : Act} {w w' : World} {K : Act → World → Prop}
theorem wantedOf {oi : Oper} {b : Bool} {d : Tmp} {j : Nat} (hg : o.guard = some (j, b)) (ho : ops[j]? = some oi) (hd : oi.dst = some d) (hsz : d < a.tmps.size) (hv : a.eval (.tmp d) = .bool b) : Region.wanted o (yielded ops a.tmps) = true := by
  have h1 : a.tmps[d]? = some (.bool b) := by
    have : a.tmps.getD d undef = .bool b := hv
    rw [Array.getD, dif_pos hsz] at this
    rw [Array.getElem?_eq_getElem hsz]; exact congrArg some this
  unfold Region.wanted
  rw [hg]
  simp [yielded, ho, hd, h1]
theorem wantedOff {oi : Oper} {b b' : Bool} {d : Tmp} {j : Nat} (hg : o.guard = some (j, b)) (ho : ops[j]? = some oi) (hd : oi.dst = some d) (hsz : d < a.tmps.size) (hv : a.eval (.tmp d) = .bool b') (hb : b' ≠ b) : Region.wanted o (yielded ops a.tmps) = false := by
  have h1 : a.tmps[d]? = some (.bool b') := by
    have : a.tmps.getD d undef = .bool b' := hv
    rw [Array.getD, dif_pos hsz] at this
    rw [Array.getElem?_eq_getElem hsz]; exact congrArg some this
  unfold Region.wanted
  rw [hg]
  simp [yielded, ho, hd, h1, hb]
theorem wpOp_off (ho : ops[i]? = some o) (hg : Region.wanted o (yielded ops a.tmps) = false) (hK : K (a.put o.dst undef) w) : wpOp P ops Q i K a w := by
  unfold wpOp
  simp only [ho]
  rw [if_neg (by rw [hg]; decide)]
  exact hK
theorem wpOp_pick2 {c x y : Operand} {b : Bool} {v u : Value} (ho : ops[i]? = some o) (hg : Region.wanted o (yielded ops a.tmps) = true) (hop : o.op = .pick c x y) (hc : a.eval c = .bool b) (hx : b = true → a.eval x = v) (hy : b = false → a.eval y = u) (hK : K (a.put o.dst (if b then v else u)) w) : wpOp P ops Q i K a w := by
  cases b with
  | true => exact wpOp_val (v := v) (w' := w) ho hg (by simp [execOp, hop, hc, hx rfl, asBool]) hK
  | false => exact wpOp_val (v := u) (w' := w) ho hg (by simp [execOp, hop, hc, hy rfl, asBool]) hK
/-- Two numbers held against each other. -/
theorem wpOp_bin {b : BinOp} {t u : TypeId} {x y : Operand} {vx vy v : Value} (ho : ops[i]? = some o) (hg : Region.wanted o (yielded ops a.tmps) = true) (hop : o.op = .binOp b t x y u) (hx : a.eval x = vx) (hy : a.eval y = vy)
    (heg : (eqGuard b t x y vx vy).run P w = .ok () w) (hrun : (binOp b t vx vy).run P w = .ok v w) (hK : K (a.put o.dst v) w) : wpOp P ops Q i K a w :=
  wpOp_val ho hg (by simp only [execOp, hop, hx, hy, heg, hrun, Sem.run_bind, Sem.run_pure, Result.andThen_ok]) hK
end
end Go.Proofs.YtgcfgheamaoceaaGreatDoor
/- Layer 13: what is known. -/
namespace Go.Proofs.YtgcfgheamaoceaaGreatDoor
open Go.RowKit Go.Shelf

theorem okU_ascii {l : List UInt8} (h : ∀ b ∈ l, 0 < b.toNat ∧ b.toNat < 128) : okU l := by
  induction l with
  | nil => exact okU_nil
  | cons b r ih => exact okU_app (x := [b]) (okU_one b (h b (by simp)).1 (h b (by simp)).2) (ih fun c hc => h c (by simp [hc]))
theorem fitL_ascii {l : List UInt8} (h : (l ≠ [] ∧ l.length ≤ 200) ∧ ∀ b ∈ l, 0 < b.toNat ∧ b.toNat < 128) : fitL l = true := fitL_iff.2 ⟨h.1.1, h.1.2, okU_ascii h.2⟩
theorem filtL_c {l : List UInt8} (h : (l ≠ [] ∧ l.length ≤ 200) ∧ ∀ b ∈ l, 0 < b.toNat ∧ b.toNat < 128) (h2 : okF (lv l) = true) : filtL l = true := by unfold filtL; rw [fitL_ascii h, h2]; rfl
theorem filtL_no {l : List UInt8} (h2 : okF (lv l) = false) : filtL l = false := by unfold filtL; rw [h2, Bool.and_false]
theorem nameL_c {l : List UInt8} (h : (l ≠ [] ∧ l.length ≤ 200) ∧ ∀ b ∈ l, 0 < b.toNat ∧ b.toNat < 128) (h2 : hasS l = false) : nameL l = true := by unfold nameL; rw [fitL_ascii h, h2]; rfl
theorem fitL_nil : fitL [] = false := by
  cases h : fitL []
  · rfl
  · exact absurd rfl (fitL_iff.1 h).1
theorem nameL_nil : nameL [] = false := by unfold nameL; rw [fitL_nil]; rfl
end Go.Proofs.YtgcfgheamaoceaaGreatDoor
/- Layer 14: maps.Values of what is next at a branch: what its iterator gives. -/
namespace Go.Proofs.YtgcfgheamaoceaaGreatDoor
open Go.RowKit Go.MapKept Go.ChangeMaps Go.Maps

def IsBr (v : Value) : Prop := ∃ n : Nat, v = .pointer (some ⟨n, 0, none⟩)
attribute [local go_sem] Oper.semAt_some
set_option maxRecDepth 100000 in
set_option maxHeartbeats 2000000 in
theorem vals1B_in (F : Fence) (n : Nat) (hfn : F.fn 99) (hro : F.round = none) (hn : 1 ≤ n) (l Bm b : Nat) (f : Txt → Option Value) (hf : ∀ k v, f k = some v → IsBr v) (J Jx : List Txt → World → Prop)
    (hY : ∀ pre k v W, f k = some v → J pre W → pre.length < 5000 → YieldAt F (n - 1) Tryz.prog l #[v] W fun e W' => (e = .returned (.bool true) ∧ J (pre ++ [k]) W' ∧ KeepsWalks W W') ∨ (e = .returned (.bool false) ∧ Jx (pre ++ [k]) W'))
    (W : World) (hJ : AbidesFrom W.heap.size J) (hm : W.cell? ⟨Bm, 0, none⟩ = some (.map (some b))) (hown : SMap Tryz.prog 9 W b f) (h0 : J [] W) :
    CallsIn F n Tryz.prog 99 #[.func (.yield l) #[] #[], .pointer (some ⟨Bm, 0, none⟩)] W fun e W' => (∃ v, e = .returned v) ∧ ((∃ ks, AllOf f ks ∧ J ks W') ∨ (∃ pre, SomeOf f pre ∧ Jx pre W')) := by
  obtain ⟨D0, hown, hr⟩ := hown
  have hsz5 : Maps.size D0 ≤ 5000 := by
    obtain ⟨es, clock, _, _, hs, rfl⟩ := hown
    rw [Maps.size_eq, length_sorted]
    simpa using hs
  refine callsIn_of_wp Tryz.func99 rfl hfn ?_ hro
  simp only [Tryz.ntmps99, List.size_toArray, List.length_cons, List.length_nil, Nat.reduceAdd, Nat.reduceSub, Array.replicate_succ, Array.replicate_zero, List.push_toArray, List.append_toArray, List.nil_append, List.cons_append]
  gi_wp2_with (first
    | (gi_at_range; refine wpListIn_range_own _ rfl _ 81 rfl 9 54 (string_keyed Tryz.underlying9) Tryz.underlying81 _ b 5000 _ rfl hown ?_; intro w0 hrg0 hg0 hs0)
    | gi_in)
  go_frame
  gi_loopw [4, 7, 8, 9, 10, 11, 12, 13, 14] (fun _ _ _ _ _ _ _ _ _ wr => ∃ (left : Lit → Bool) (cnt : Nat) (ss : List Txt), wr.ranges Tryz.prog 9 heldR b W.heap.size 5000 D0 left cnt ∧ ss.length + cnt ≤ Maps.size D0 ∧ Collected D0 left ss ∧ J ss wr)
    (fun _ _ _ _ _ _ _ _ _ wr => wr.rangeLeft b W.heap.size)
  case atStart =>
    exact ⟨_, _, [], hrg0, by simp, Collected.start D0, hJ [] W w0 none h0 hg0 (fun r e => by cases e)⟩
  case round =>
    obtain ⟨left, cnt, ss, hrg, hcs, hC, hJs⟩ := hrel
    gi_wp2_with (first
      | (gi_at_next; refine wpListIn_next_ranges _ rfl _ rfl 9 (string_keyed Tryz.underlying9) heldR encStr id (fun key kl hk => by obtain ⟨x, hx, _⟩ := Maps.keyOf_str Tryz.underlying9 hk; exact ⟨x, hx⟩) (fun v _ _ => ⟨v, rfl⟩) b W.heap.size 5000 _ _ _ rfl hrg ?_ ?_)
      | gi_in)
    · intro hc0 hl0
      gi_wp2
      go_end0
      exact ⟨⟨_, rfl⟩, .inl ⟨ss, hr.all hC hl0, hJs⟩⟩
    · intro x c kl yd yp w2 cnt2 hkey hlk hv hat hrg2 hlt hg2 hs2 hen
      obtain ⟨x', ex, rfl, _⟩ := Maps.keyOf_str Tryz.underlying9 hkey
      obtain rfl : x = x' := encStr_inj ex
      have hfx : f x = some c := by
        have h1 := hat .nil
        rw [hr.at_] at h1
        have hv' : some ((.held c : VD), ([] : List MemPlace)) = some (yd, yp) := hv
        cases hv'
        cases hfx : f x with
        | none => rw [hfx] at h1; cases h1
        | some u => rw [hfx] at h1; injection h1 with h1; rw [h1]
      obtain ⟨nb, rfl⟩ := hf x c hfx
      have hJ2 : J ss w2 := hJ ss wr w2 (some W.heap.size) hJs hg2 (fun r e => by cases e; exact ⟨Nat.le_refl _, hrg.iter_walk⟩)
      obtain ⟨fn, tmps, assign, body, hy, hR⟩ := hY ss x _ _ hfx hJ2 (by omega)
      clear hs2 ex hJ2
      gi_wp2
      refine hR.mono ?_
      rintro e W3 (⟨rfl, hJ4, hk3⟩ | ⟨rfl, hJx3⟩)
      · have hrg3 := hrg2.of_walks hk3
        have hC' := hC.step hlk hat
        clear hR hy
        gi_wp2
        go_roundw
        case rel => exact ⟨_, cnt2, ss ++ [x], hrg3, by simp; omega, hC', hJ4⟩
        case measure => rw [hrg3.left_eq, hrg.left_eq]; exact hlt
      · have hS := hr.some (hC.step hlk hat)
        clear hR hy
        gi_wp2
        refine bodyPost_ret (results_none rfl _ _ _) rfl ?_
        exact ⟨⟨_, rfl⟩, .inr ⟨ss ++ [x], hS, hJx3⟩⟩
/-- maps.Values(m) of what ends at a branch: an iterator over all that there is. -/
theorem valsB_stops (F : Fence) (n : Nat) (hfn : F.fn 99) (hro : F.round = none) (hn : 1 ≤ n) (Bm b : Nat) (f : Txt → Option Value) (g : Txt → Nat) (hg : ∀ k v, f k = some v → v = .pointer (some ⟨g k, 0, none⟩)) (w : World) (hBm : Bm < w.heap.size)
    (hm : w.cell? ⟨Bm, 0, none⟩ = some (.map (some b))) (hown : SMap Tryz.prog 9 w b f) :
    SeqStopsK (α := Nat) F n Tryz.prog 99 #[.pointer (some ⟨Bm, 0, none⟩)] (fun s => #[.pointer (some ⟨s, 0, none⟩)]) KeepsWalks (fun xs => ∃ ks, AllOf f ks ∧ xs = ks.map g) (fun xs => ∃ ks, SomeOf f ks ∧ xs = ks.map g) 5000 w := by
  intro l J Jx W hW hJ hJx hY h0
  refine (vals1B_in F n hfn hro hn l Bm b f (fun k v hk => by rw [hg k v hk]; exact ⟨_, rfl⟩) (fun ks W => J (ks.map g) W) (fun ks W => Jx (ks.map g) W) (fun pre k v W1 hk hJ1 hlen => ?_) W (fun ks A B row hs hgr hr => hJ _ A B row hs hgr hr)
    ((hW.cell (p := ⟨Bm, 0, none⟩) hBm).trans hm) (hown.below hW hown.lt) h0).mono ?_
  · have := hY (pre.map g) (g k) W1 hJ1 (by simpa using hlen)
    rw [hg k v hk]
    obtain ⟨fn, tmps, assign, body, hy, hR⟩ := this
    refine ⟨fn, tmps, assign, body, hy, hR.mono ?_⟩
    rintro e W' (⟨he, h1, h2⟩ | ⟨he, h1⟩)
    · exact .inl ⟨he, by rw [List.map_append]; exact h1, h2⟩
    · exact .inr ⟨he, by rw [List.map_append]; exact h1⟩
  · rintro e W' ⟨hv, ⟨ks, hk, h1⟩ | ⟨ks, hk, h1⟩⟩
    · exact ⟨hv, .inl ⟨_, ⟨ks, hk, rfl⟩, h1⟩⟩
    · exact ⟨hv, .inr ⟨_, ⟨ks, hk, rfl⟩, h1⟩⟩
theorem valsB_any (w : World) (b : Nat) : Calls Tryz.prog 82 #[.map (some b)] w fun e w' => e = .returned (.func (.func 99) #[] #[.pointer (some ⟨w.heap.size, 0, none⟩)]) ∧ w' = w.alloc (.cells #[.map (some b)] 81) := by
  go_enter Tryz.func82, Tryz.ntmps82
  go_wp2
  go_ret
  exact ⟨rfl, rfl⟩
end Go.Proofs.YtgcfgheamaoceaaGreatDoor
/- Layer 14: rows of branches that a call made; slices.AppendSeq of branches. -/
namespace Go.Proofs.YtgcfgheamaoceaaGreatDoor
open Go.RowKit Go.MapKept Go.ChangeMaps Go.Maps

def brL (n : Nat) : List Value := [.pointer (some ⟨n, 0, none⟩)]
def brsL (L : List Nat) : List Value := L.flatMap brL
theorem brsL_app (L M : List Nat) : brsL (L ++ M) = brsL L ++ brsL M := by simp [brsL]
theorem brsL_len (L : List Nat) : (brsL L).length = L.length * 1 := by
  induction L with
  | nil => rfl
  | cons c L ih => rw [show brsL (c :: L) = brL c ++ brsL L from rfl, List.length_append, ih]; simp [brL]; omega
theorem brsL_one (L : List Nat) : ∀ u ∈ brsL L, u.oneCell' = true := by
  intro u hu
  simp only [brsL, List.mem_flatMap] at hu
  obtain ⟨c, _, hu⟩ := hu
  simp [brL] at hu
  subst hu; rfl
/-- A slice that the call made, of these entries. -/
def OwnN9 (w : World) (base : Nat) (v : Value) (L : List Nat) : Prop := w.ownsRow base 54 1 v L.length (brsL L)
theorem OwnN9.nil (w : World) (base : Nat) : OwnN9 w base (.slice none 0 0) [] := World.ownsRow_nil w base _ _
theorem ownN9_block {w : World} {base : Nat} {v : Value} {L : List Nat} (h : OwnN9 w base v L) (g : Nat) (hg : v.ownBlock = some g) : ∃ cs, w.heap[g]? = some (.cells cs 54 (0, 0)) := by
  rcases h.2 with ⟨rfl, _⟩ | ⟨g', cap, cur, rfl, _, hh, _⟩
  · cases hg
  · cases hg; exact ⟨cur, hh⟩
theorem ownN9_lt {w : World} {base : Nat} {v : Value} {L : List Nat} (h : OwnN9 w base v L) (g : Nat) (hg : v.ownBlock = some g) : base ≤ g ∧ g < w.heap.size := by
  rcases h.2 with ⟨rfl, _⟩ | ⟨g', cap, cur, rfl, hb, hh, _⟩
  · cases hg
  · cases hg; exact ⟨hb, (Array.getElem?_eq_some_iff.1 hh).1⟩
theorem ownN9_slice {w : World} {base : Nat} {v : Value} {L : List Nat} (h : OwnN9 w base v L) : ∃ a cap, v = .slice a L.length cap := by
  rcases h.2 with ⟨rfl, h0⟩ | ⟨g', cap, cur, rfl, _⟩
  · exact ⟨none, 0, by rw [h0]⟩
  · exact ⟨_, cap, rfl⟩
theorem OwnN9.kept {w w' : World} {base : Nat} {v : Value} {L : List Nat} (h : OwnN9 w base v L) (hg : ∀ g, v.ownBlock = some g → w'.heap[g]? = w.heap[g]?) : OwnN9 w' base v L := by
  rcases h with ⟨hl, e | ⟨g, cp, cur, rfl, hb, hh, r⟩⟩
  · exact ⟨hl, .inl e⟩
  · exact ⟨hl, .inr ⟨g, cp, cur, rfl, hb, (hg g rfl).trans hh, r⟩⟩
theorem OwnN9.below {w w' : World} {base : Nat} {v : Value} {L : List Nat} (h : OwnN9 w base v L) (hb : Below w.heap.size w w') : OwnN9 w' base v L := h.kept fun g hg => hb.block g (ownN9_lt h g hg).2
theorem OwnN9.mono {w : World} {b b' : Nat} {v : Value} {L : List Nat} (h : OwnN9 w b v L) (hn : b' ≤ b) : OwnN9 w b' v L := by
  rcases h with ⟨hl, e | ⟨g, cp, cur, rfl, hb, r⟩⟩
  · exact ⟨hl, .inl e⟩
  · exact ⟨hl, .inr ⟨g, cp, cur, rfl, Nat.le_trans hn hb, r⟩⟩
theorem infoBr : (Tryz.prog.info? 54).map (fun i => (i.zero, i.size, i.bytes)) = some (some (.pointer none), 1, 8) := by kernel_rfl
/-- append of one entry that lies in a block of its own. -/
theorem run_append_br (w : World) (base ty : Nat) (v : Value) (L : List Nat) (hown : OwnN9 w base v L) (B : Nat) (s : Nat) (hB : w.heap[B]? = some (.cells #[.pointer (some ⟨s, 0, none⟩)] 54 (0, 0))) (hL : L.length ≤ 1000000) (hbase : base ≤ w.heap.size) :
    ∃ v' w', (Builtin.append_ #[117, 117] ty #[v, .slice (some ⟨B, 0, none⟩) 1 1]).run Tryz.prog w = .ok v' w' ∧ OwnN9 w' base v' (L ++ [s]) ∧ w.grownBy w' v.ownBlock ∧ (v'.ownBlock = v.ownBlock ∨ v'.ownBlock = some w.heap.size) := by
  obtain ⟨i0, hi, hz0, hz1, hz2⟩ := info_parts infoBr
  have c0 : w.cell? ⟨B, 0, none⟩ = some (.pointer (some ⟨s, 0, none⟩)) := by rw [cell_of_row _ _ _ _ _ _ hB]; rfl
  obtain ⟨v', w', h1, h2, h3, -, h5⟩ := run_append_own_at (P := Tryz.prog) (w := w) base 117 ty 54 i0 _ 1 8 Tryz.underlying117 hi hz0 hz1 hz2 rfl (by decide) v L.length (brsL L) hown ⟨B, 0, none⟩ 1 1 (brL s) rfl (fun j u hu => by
      rw [addr_add, Nat.zero_add]
      match j, hu with
      | 0, hu => cases hu; exact c0
      | j + 1, hu => simp [brL] at hu) (fun u hu => by
      simp [brL] at hu
      subst hu; rfl) (by unfold maxLen; omega) (by omega) hbase
  refine ⟨v', w', h1, ?_, h3, h5⟩
  unfold OwnN9
  rw [brsL_app, List.length_append]
  simpa [brsL] using h2
/-- What AppendSeq's box holds between two rounds. -/
structure ApN (w : World) (base : Nat) (v : Value) (L : List Nat) (Bs : Nat) (pre : List Nat) (W : World) (u : Value) : Prop where
  box : Boxed W Bs 117 u
  row : OwnN9 W base u (L ++ pre)
  grown : w.grownBy W v.ownBlock
  loc : u.ownBlock = v.ownBlock ∨ ∀ k, u.ownBlock = some k → w.heap.size ≤ k
theorem ApN.kept {w : World} {base : Nat} {v : Value} {L : List Nat} {Bs : Nat} {pre : List Nat} {W W' : World} {u : Value} (h : ApN w base v L Bs pre W u) {row : Option Nat} (hg : W.grownBy W' row) (hr : ∀ r, row = some r → w.heap.size ≤ r ∧ ∃ o : Obj, W.heap[r]? = some o ∧ o.isCells = false) : ApN w base v L Bs pre W' u :=
  ⟨h.box.kept hg (fun e => by obtain ⟨-, o, ho, hc⟩ := hr Bs e.symm; rw [show W.heap[Bs]? = _ from h.box] at ho; cases ho; cases hc),
   h.row.kept fun g hgb => hg.block g (ownN9_lt h.row g hgb).2 (fun e => by obtain ⟨-, o, ho, hc⟩ := hr g e.symm; obtain ⟨cs, hcs⟩ := ownN9_block h.row g hgb; rw [hcs] at ho; cases ho; cases hc),
   grownBy.trans' h.grown hg (.inr fun g e => (hr g e).1), h.loc⟩
attribute [local go_sem] Oper.semAt_some
set_option maxRecDepth 100000 in
set_option maxHeartbeats 4000000 in
theorem appN_in (F : Fence) (n : Nat) (hfn : F.fn 81) (hro : F.round = none) (hn : 2 ≤ n) (g : Nat) (lb : Array Value) (hFg : F.fn g) (eg : ∀ args w, (callFunc g args).run Tryz.prog w = .ok (.enter g args) w)
    (S Sp : List Nat → Prop) (w : World) (hseq : SeqStopsK F (n - 1) Tryz.prog g lb (fun s => #[.pointer (some ⟨s, 0, none⟩)]) KeepsWalks S Sp 5000 w) (base : Nat) (v : Value) (L : List Nat) (hO : OwnN9 w base v L) (hL : L.length ≤ 900000) (hbase : base ≤ w.heap.size) :
    CallsIn F n Tryz.prog 81 #[v, .func (.func g) #[] lb] w fun e w' => ∃ v' xs, e = .returned v' ∧ S xs ∧ OwnN9 w' base v' (L ++ xs) ∧ w.grownBy w' v.ownBlock := by
  have h1 : 1 ≤ n := by omega
  obtain ⟨va, vc, rfl⟩ := ownN9_slice hO
  refine callsIn_of_wp_marks Tryz.func81 rfl hfn ?_ hro
  simp only [Tryz.ntmps81, List.size_toArray, List.length_cons, List.length_nil, Nat.reduceAdd, Nat.reduceSub, Array.replicate_succ, Array.replicate_zero, List.push_toArray, List.append_toArray, List.nil_append, List.cons_append]
  gi_wp2
  obtain ⟨w1, hw1⟩ : ∃ w1, w.alloc (.cells #[.slice va L.length vc] 117) = w1 := ⟨_, rfl⟩
  have hs1 : w1.heap.size = w.heap.size + 1 := by rw [← hw1]; simp
  have bV : Boxed w1 w.heap.size 117 (.slice va L.length vc) := by rw [← hw1]; exact Boxed.new w _ _
  have hB0 : Below w.heap.size w w1 := by rw [← hw1]; exact (Below.refl _ w).alloc (Nat.le_refl _) _
  have hg1 : w.grownBy w1 (Value.slice va L.length vc).ownBlock := by rw [← hw1]; exact World.grownBy_alloc w _ _
  rw [hw1]
  clear hw1
  refine wpIn_rangeFunc_ownH hro h1 (gf := g) (lb := lb) rfl hFg eg hseq walksK_t walksK_b hB0 (fun _ => rfl)
    (fun pre W => ∃ u, ApN w base (.slice va L.length vc) L w.heap.size pre W u)
    (fun _ _ _ => False)
    (fun s A B row hs hg' hr => by
      obtain ⟨u, hu⟩ := hs
      exact ⟨u, hu.kept hg' fun r e => ⟨by have := (hr r e).1; omega, (hr r e).2⟩⟩)
    (fun _ _ _ _ _ hs _ _ => hs)
    ⟨_, bV, by rw [List.append_nil]; exact hO.below hB0, hg1, .inl rfl⟩
    (fun x a' _ => a' = { tmps := #[.slice va L.length vc, .func (.func g) #[] lb, .pointer (some ⟨w.heap.size, 0, none⟩), undef, .slice none 0 0, .pointer (some ⟨x, 0, none⟩), .func (.func g) #[] lb, .pointer (some ⟨x, 0, none⟩), undef, undef, undef, undef, undef], defers := [] })
    (fun x a' _ A B row hs hg' hr => hs) ?assign ?body ?done ?stop
  case assign =>
    rintro l pre x W K ⟨u, hI⟩ hK
    gi_wp2
    exact hK _ _ ((KeepsOthers.refl _).from _) (KeepsWalks.refl _) ⟨u, hI⟩ rfl
  case body =>
    rintro l pre x a' W hl - ⟨u, hI⟩ rfl hlen
    have hc := hI.box.cell
    have hf := hI.box.frozen
    have hBl := hI.box.lt
    have hsz := hI.grown.size
    have hrow2 := hI.row.kept (w' := W.alloc (Obj.cells #[.pointer (some ⟨x, 0, none⟩)] 54)) fun g hgb => (World.grownBy_alloc W (Obj.cells #[.pointer (some ⟨x, 0, none⟩)] 54) none).block g (ownN9_lt hI.row g hgb).2 (by simp)
    obtain ⟨v', w3, hr, ho3, hg3, hloc3⟩ := run_append_br (W.alloc (Obj.cells #[.pointer (some ⟨x, 0, none⟩)] 54)) base 117 u (L ++ pre) hrow2 W.heap.size x (MapKept.heap_alloc W _).1 (by rw [List.length_append]; omega) (by simp; omega)
    have hne : some w.heap.size ≠ u.ownBlock := fun e => by
      obtain ⟨cs, hcs⟩ := ownN9_block hI.row _ e.symm
      have := (show W.heap[w.heap.size]? = _ from hI.box).symm.trans hcs
      injection this with this
      injection this with _ e2
      exact absurd e2 (by decide)
    have hbx3 : Boxed w3 w.heap.size 117 u := (hI.box.alloc _).kept hg3 hne
    have hc3 := hbx3.cell
    have hf3 := hbx3.frozen
    have hbl3 := hbx3.lt
    obtain ⟨ua, uc, hu⟩ := ownN9_slice hI.row
    obtain ⟨va', vc', hv'⟩ := ownN9_slice ho3
    obtain ⟨k1, hk1⟩ : ∃ k, (L ++ pre).length = k := ⟨_, rfl⟩
    obtain ⟨k2, hk2⟩ : ∃ k, (L ++ pre ++ [x]).length = k := ⟨_, rfl⟩
    rw [hk1] at hu
    rw [hk2] at hv'
    subst hv' hu
    have HX := Lib.hid (And.intro hI (And.intro ho3 (And.intro hg3 (And.intro hloc3 (And.intro hbx3 hne)))))
    clear hk1 hk2
    clear hI ho3 hg3 hloc3 hbx3 hne hrow2
    gi_wp2_with (first
      | (gi_at_builtin; refine wpListIn_append_run (T := 117) rfl _ _ rfl _ _ _ rfl rfl hr ?_)
      | gi_in)
    obtain ⟨hI, ho3, hg3, hloc3, hbx3, hne⟩ := HX.out
    have hgA := World.grownBy_alloc W (Obj.cells #[.pointer (some ⟨x, 0, none⟩)] 54) none
    have hrc : ∀ (j : Nat) (o : Obj), (Value.slice ua k1 uc).ownBlock = some j → (W.alloc (Obj.cells #[.pointer (some ⟨x, 0, none⟩)] 54)).heap[j]? = some o → o.isCells = true := fun j o ej ho => by
      obtain ⟨cs, hcs⟩ := ownN9_block hI.row j ej
      rw [hgA.block j (ownN9_lt hI.row j ej).2 (by simp), hcs] at ho
      cases ho; rfl
    have hko : KeepsOthers W (w3.setCell ⟨w.heap.size, 0, none⟩ (.slice va' k2 vc')) := ((KeepsOthers.alloc W (Obj.cells #[.pointer (some ⟨x, 0, none⟩)] 54)).trans (KeepsOthers.of_grownBy hg3 hrc)).trans (KeepsOthers.setCell _ _ _)
    have hlocN : (Value.slice va' k2 vc').ownBlock = (Value.slice va L.length vc).ownBlock ∨ ∀ k, (Value.slice va' k2 vc').ownBlock = some k → w.heap.size ≤ k := by
      rcases hloc3 with e | e
      · rw [e]; exact hI.loc
      · refine .inr fun k hk => ?_
        rw [e] at hk
        have : (W.alloc (Obj.cells #[.pointer (some ⟨x, 0, none⟩)] 54)).heap.size = k := by injection hk
        rw [← this]; simp; omega
    have hne' : some w.heap.size ≠ (Value.slice va' k2 vc').ownBlock := by
      rcases hloc3 with e | e
      · rw [e]; exact hne
      · rw [e]; intro e2
        have : w.heap.size = (W.alloc (Obj.cells #[.pointer (some ⟨x, 0, none⟩)] 54)).heap.size := by injection e2
        simp at this; omega
    have hgS := grownBy_setCell' w3 w.heap.size (.slice va' k2 vc')
    refine ⟨hko.from _, hko.walks, .slice va' k2 vc', ⟨hbx3.set _, ?_, ?_, hlocN⟩⟩
    · rw [← List.append_assoc]
      exact ho3.kept fun g hgb => hgS.block g (ownN9_lt ho3 g hgb).2 (fun e => hne' (by rw [hgb]; exact e.symm))
    · exact grownBy.trans' (grownBy.trans' (grownBy.trans' hI.grown hgA (.inr fun g e => by cases e)) hg3 hI.loc) hgS (.inr fun g e => by injection e with e; omega)
  case done =>
    rintro D xs W hD hS ⟨u, hI⟩ hK
    obtain ⟨ua, uc, hu⟩ := ownN9_slice hI.row
    obtain ⟨k1, hk1⟩ : ∃ k, (L ++ xs).length = k := ⟨_, rfl⟩
    rw [hk1] at hu
    subst hu
    have hc := hI.box.cell
    have HX := Lib.hid (And.intro hI hS)
    clear hI hS hk1
    gi_wp2
    refine ⟨by simp, .inl ⟨_, _, rfl, run_takeDeferred hK, ?_⟩⟩
    refine ⟨_, results_tmp rfl _ _ _, ?_⟩
    obtain ⟨hI, hS⟩ := HX.out
    refine ⟨_, xs, rfl, hS, ?_, ?_⟩
    · exact hI.row.kept fun g hgb => World.putObj_heap_other (fun e => by
        obtain ⟨cs, hcs⟩ := ownN9_block hI.row g hgb
        rw [e, hK] at hcs
        cases hcs)
    · exact grownBy.trans' hI.grown (grownBy_putObj' W D _) (.inr fun g e => by injection e with e; omega)
  case stop =>
    rintro D c pre W _ _ h _
    exact h.elim
end Go.Proofs.YtgcfgheamaoceaaGreatDoor
/- Layer 14: apart. -/
namespace Go.Proofs.YtgcfgheamaoceaaGreatDoor
open Go.RowKit Go.MapKept Go.ChangeMaps Go.Maps

set_option maxRecDepth 100000 in
set_option maxHeartbeats 8000000 in
theorem apart_any (w : World) (f c : ByteArray) (hf : f.size ≤ 1000000) (hc : c.size ≤ 1000000) (q : Int) : Calls Tryz.prog 61 #[.agg #[.string f, .string c, .int .i64 q]] w fun e w' => e = .returned (.agg #[.string f, .string c, .int .i64 q]) ∧ Below w.heap.size w w' := by
  go_enter Tryz.func61, Tryz.ntmps61
  go_wp2_with fail
  generalize hwq : (w.alloc (.cells #[.string f, .string c, .int .i64 q] 31)).alloc (.cells #[.string ⟨#[]⟩, .string ⟨#[]⟩, .int .i64 0] 31) = wq
  have hbq : Below w.heap.size w wq := by rw [← hwq]; exact ((Below.refl _ w).alloc (Nat.le_refl _) _).alloc (by simp) _
  have rA : wq.drew.heap[w.heap.size]? = some (.cells #[.string f, .string c, .int .i64 q] 31 (0, 0)) := by
    show wq.heap[w.heap.size]? = _
    rw [← hwq, (World.grownBy_alloc _ _ none).block _ (by simp) (by simp)]; exact (MapKept.heap_alloc w _).1
  have rB : wq.drew.heap[w.heap.size + 1]? = some (.cells #[.string ⟨#[]⟩, .string ⟨#[]⟩, .int .i64 0] 31 (0, 0)) := by
    show wq.heap[w.heap.size + 1]? = _
    have := (MapKept.heap_alloc (w.alloc (.cells #[.string f, .string c, .int .i64 q] 31)) (.cells #[.string ⟨#[]⟩, .string ⟨#[]⟩, .int .i64 0] 31)).1
    rw [← hwq]
    rwa [show (w.alloc (.cells #[.string f, .string c, .int .i64 q] 31)).heap.size = w.heap.size + 1 by simp] at this
  have HB := Lib.hid (show Below w.heap.size w wq.drew from hbq.drew)
  obtain ⟨lA, a0, a1, a2, -, -, -⟩ := box3 rA
  obtain ⟨lB, b0, b1, b2, d0, d1, d2⟩ := box3 rB
  clear hwq hbq
  go_region_with (go_at_call 47; refine (clone_any _ _ (by omega)).mono ?_; rintro e wz ⟨rfl, hb⟩; replace rA := row_of rA hb lA; replace rB := row_of rB hb lB; replace HB := Lib.hid (HB.out.trans (hb.mono HB.out.size)); obtain ⟨lA, a0, a1, a2, -, -, -⟩ := box3 rA; obtain ⟨lB, b0, b1, b2, d0, d1, d2⟩ := box3 rB; clear hb)
  all_goals
    go_wp2
    refine bodyPost_ret (results_cell_row rfl _ _ _ _ _ _ _ rfl (set3_row rB (.string f) (.string c) (.int .i64 q)) Tryz.underlying31 rfl (by kernel_rfl)) rfl ?_
    exact ⟨rfl, ((HB.out.setCell (p := ⟨w.heap.size + 1, 0, none⟩) (Nat.le_add_right _ _) _).setCell (p := ⟨w.heap.size + 1, 1, none⟩) (Nat.le_add_right _ _) _).setCell (p := ⟨w.heap.size + 1, 2, none⟩) (Nat.le_add_right _ _) _⟩
end Go.Proofs.YtgcfgheamaoceaaGreatDoor
/- Layer 14: lay. -/
namespace Go.Proofs.YtgcfgheamaoceaaGreatDoor
open Go.RowKit Go.MapKept Go.ChangeMaps Go.Maps

variable {w w' : World} {Bk : Nat} {g : List Sb} {t : Tr}
/-- A row of levels, as an argument. -/
theorem lvl_of {w : World} {base : Nat} {v : Value} {L : List (List UInt8)} (h : OwnT w base v L) (hL : L ≠ []) : ∃ B k, v = .slice (some ⟨B, 0, none⟩) L.length k ∧ L.length ≤ k ∧ k ≤ 9223372036854775807 ∧ base ≤ B ∧ B < w.heap.size ∧ LvAt w B 0 L := by
  rcases h.2 with ⟨-, h0⟩ | ⟨g, cap, cur, rfl, hb, hh, hn, hcap, -, htk⟩
  · exact absurd (List.eq_nil_of_length_eq_zero h0) hL
  · refine ⟨g, cap, rfl, hn, hcap, hb, (Array.getElem?_eq_some_iff.1 hh).1, fun j x hj => ?_⟩
    have hjl := (List.getElem?_eq_some_iff.1 hj).1
    rw [Nat.zero_add, cell_of_row w g j _ _ _ hh]
    have h1 : (cur.toList.take (L.length * 1))[j]? = some (.string (str x)) := by
      rw [htk]
      unfold strVals
      rw [List.getElem?_map, hj]
      rfl
    rw [List.getElem?_take, if_pos (by omega), Array.getElem?_toList] at h1
    exact h1
theorem TreeAt.regs {En : Pth → Txt → Option Sb} {C : Pth → Nat} {gs gs' : List (Pth × Txt)} (h : TreeAt w t En C gs) (hs : ∀ r ∈ gs, r ∈ gs') (hf : gs'.length ≤ 5000) : TreeAt w t En C gs' :=
  { h with
    cover := fun q hq ht => by obtain ⟨r, hr, hp⟩ := h.cover q hq ht; exact ⟨r, hs r hr, hp⟩
    ents := fun q c hc => hs _ (h.ents q c hc)
    few := hf }
theorem keys_ins {g : List Sb} (h : Rise g) (s : Sb) : ∀ r ∈ g.map keyOfS, r ∈ (insG s g).map keyOfS := fun r hr => by
  obtain ⟨x, hx, rfl⟩ := List.mem_map.1 hr
  by_cases k : sameK x s
  · refine List.mem_map.2 ⟨s, (mem_insG h).2 (.inl rfl), ?_⟩
    unfold keyOfS; rw [k.1, k.2]
  · exact List.mem_map.2 ⟨x, (mem_insG h).2 (.inr ⟨hx, k⟩), rfl⟩
theorem good_ins {g : List Sb} (h : GoodG g) {s : Sb} (hf : filtL s.f = true) (hc : cliL s.c = true) (hq : s.q ≤ 2) (hl : hasK s g = true ∨ g.length < 4096) : GoodG (insG s g) :=
  ⟨rise_insG h.rise, by
    rw [len_insG h.rise]
    have := h.len
    rcases hl with e | e
    · rw [e]; simp; exact this
    · split <;> omega, fun x hx => by
    rcases (mem_insG h.rise).1 hx with rfl | ⟨hx, -⟩
    · exact ⟨hf, hc, hq⟩
    · exact h.each x hx⟩
structure LayTree (w : World) (Bk : Nat) (g : List Sb) (t : Tr) (t' : Tr) (w' : World) : Prop where
  book : BookAt w' Bk g t'
  foot : ∀ k, BkF Bk t' k → BkF Bk t k ∨ w.heap.size ≤ k
  kp : Kp (BkF Bk t) w w'
def LayPost (w : World) (Bk : Nat) (g' : List Sb) (t : Tr) (v : Value) (e : Ending) (w' : World) : Prop := e = .returned v ∧ ∃ t', LayTree w Bk g' t t' w'
/-- Behind put: a book again. -/
theorem lay_tree (h : BookAt w Bk g t) {s : Sb} (hf : filtL s.f = true) (hc : cliL s.c = true) (hq : s.q ≤ 2) (hl : hasK s g = true ∨ g.length < 4096) {W : World} (hb : Below w.heap.size w W) {t' : Tr}
    (hp : PutTree W t (look g) (cnt g) ((insG s g).map keyOfS) [] (lv s.f) s.c s t' w') : LayTree w Bk (insG s g) t t' w' := by
  obtain ⟨x, hx, hr⟩ := h.root
  have hbl := h.lt (.inl rfl)
  have hft : ∀ k, Foot t' k → Foot t k ∨ w.heap.size ≤ k := fun k hk => (hp.foot k hk).imp_right fun e => Nat.le_trans hb.size e
  have hT := hp.tree
  rw [look_ins h.good.rise, look_has h.good.rise, cnt_ins h.good.rise] at hT
  refine ⟨⟨⟨x, hp.old [] x hx, ?_⟩, hT, fun hk => ?_, fun p => ?_, good_ins h.good hf hc hq hl⟩, fun k hk => ?_, (Kp.of_below hb).trans' hp.kp fun k _ hk => .inr hk⟩
  · rw [hp.kp.block Bk (Nat.lt_of_lt_of_le hbl hb.size) h.bk, hb.block Bk hbl]; exact hr
  · rcases hft Bk hk with e | e
    · exact h.bk e
    · omega
  · rw [hp.dom p, h.dom p]
    constructor
    · rintro ((e | ⟨y, hy, hu⟩) | ⟨-, hu⟩)
      · exact .inl e
      · by_cases k : sameK y s
        · exact .inr ⟨s, (mem_insG h.good.rise).2 (.inl rfl), by rw [← under_same k]; exact hu⟩
        · exact .inr ⟨y, (mem_insG h.good.rise).2 (.inr ⟨hy, k⟩), hu⟩
      · exact .inr ⟨s, (mem_insG h.good.rise).2 (.inl rfl), by unfold under; simpa using hu⟩
    · rintro (e | ⟨y, hy, hu⟩)
      · exact .inl (.inl e)
      · rcases (mem_insG h.good.rise).1 hy with rfl | ⟨hy, -⟩
        · exact .inr ⟨List.nil_prefix, by unfold under at hu; simpa using hu⟩
        · exact .inl (.inr ⟨y, hy, hu⟩)
  · rcases hk with rfl | hk
    · exact .inl (.inl rfl)
    · exact (hft k hk).imp_left .inr
end Go.Proofs.YtgcfgheamaoceaaGreatDoor
/- Layer 14: lay (its drawn region by one look at each operation; the region's text: wip/tools/mkmatv.py). -/
namespace Go.Proofs.YtgcfgheamaoceaaGreatDoor
open Go.RowKit Go.MapKept Go.ChangeMaps Go.Maps

/-- Till operation K has come nothing that lay has changed; behind it this is so. -/
def LayI (K : Nat) (w0 : World) (Post : World → Prop) (l : Array Bool) (W : World) : Prop := (l.getD K false = false → Below w0.heap.size w0 W) ∧ (l.getD K false = true → Post W)
theorem getD_set_ne {l : Array Bool} {i K : Nat} (hi : i ≠ K) : (l.setIfInBounds i true).getD K false = l.getD K false := by simp [hi]
theorem LayI.still {K : Nat} {w0 : World} {Post : World → Prop} {l : Array Bool} {W : World} (h : LayI K w0 Post l W) {i : Nat} (hi : i ≠ K) : LayI K w0 Post (l.setIfInBounds i true) W := by
  unfold LayI at h ⊢
  rwa [getD_set_ne hi]
theorem LayI.go {K : Nat} {w0 : World} {Post : World → Prop} {l : Array Bool} {W W' : World} (h : LayI K w0 Post l W) {i : Nat} (hi : i ≠ K) (hn : l.getD K false = false) (hb : Below W.heap.size W W') : LayI K w0 Post (l.setIfInBounds i true) W' := by
  unfold LayI at h ⊢
  rw [getD_set_ne hi]
  exact ⟨fun _ => (h.1 hn).trans (hb.mono (h.1 hn).size), fun e => by rw [hn] at e; cases e⟩
theorem LayI.post {K : Nat} {w0 : World} {Post : World → Prop} {l : Array Bool} {W : World} (hK : K < l.size) (hp : Post W) : LayI K w0 Post (l.setIfInBounds K true) W := by
  refine ⟨fun e => ?_, fun _ => hp⟩
  simp [hK] at e
theorem load_c {T : TypeId} {w : World} {a : Addr} {v : Value} (hT : (isAgg T).run Tryz.prog w = .ok false w) (h : w.cell? a = some v) : (Instr.loadAt T (.pointer (some a))).run Tryz.prog w = .ok v w := by
  simp [Instr.loadAt, Instr.sureAddr, loadVar, hT, go_sem, Result.andThen, h]
theorem load_sb {w : World} {b : Nat} {x y : ByteArray} {q : Int} (h0 : w.cell? ⟨b, 0, none⟩ = some (.string x)) (h1 : w.cell? ⟨b, 1, none⟩ = some (.string y)) (h2 : w.cell? ⟨b, 2, none⟩ = some (.int .i64 q)) : (Instr.loadAt 31 (.pointer (some ⟨b, 0, none⟩))).run Tryz.prog w = .ok (.agg #[.string x, .string y, .int .i64 q]) w :=
  run_loadAt_mid w b 0 _ [.string x, .string y, .int .i64 q] _ (fun j v hv => by
    match j, hv with
    | 0, hv => cases hv; exact h0
    | 1, hv => cases hv; exact h1
    | 2, hv => cases hv; exact h2
    | j + 3, hv => cases hv) Tryz.underlying31 rfl (by kernel_rfl)
theorem ownT_mono {w : World} {b b' : Nat} {v : Value} {L : List (List UInt8)} (h : OwnT w b v L) (hn : b' ≤ b) : OwnT w b' v L := by
  rcases h with ⟨hl, e | ⟨g, cp, cur, rfl, hb, r⟩⟩
  · exact ⟨hl, .inl e⟩
  · exact ⟨hl, .inr ⟨g, cp, cur, rfl, Nat.le_trans hn hb, r⟩⟩
theorem ownT_keep {w w' : World} {base : Nat} {v : Value} {L : List (List UInt8)} (h : OwnT w base v L) (hk : ∀ k, base ≤ k → k < w.heap.size → w'.heap[k]? = w.heap[k]?) : OwnT w' base v L := by
  rcases h with ⟨hl, e | ⟨g, cp, cur, rfl, hb, hh, r⟩⟩
  · exact ⟨hl, .inl e⟩
  · exact ⟨hl, .inr ⟨g, cp, cur, rfl, hb, (hk g hb (Array.getElem?_eq_some_iff.1 hh).1).trans hh, r⟩⟩
def LayV (Bk b A base : Nat) (f c : ByteArray) (q : Int) (L : List (List UInt8)) (r : Bool) : Nat → Value → World → Prop
  | 0, v, _ => v = .pointer (some ⟨Bk, 0, none⟩)
  | 1, v, _ => v = .pointer (some ⟨Bk, 0, none⟩)
  | 2, v, _ => v = .pointer (some ⟨Bk, 0, none⟩)
  | 3, v, _ => v = .pointer (some ⟨b, 0, none⟩)
  | 4, v, _ => v = .pointer (some ⟨A, 0, none⟩)
  | 5, v, _ => v = .string f
  | 6, v, w => OwnT w base v L
  | 7, v, _ => v = .pointer (some ⟨A, 1, none⟩)
  | 8, v, _ => v = .string c
  | 9, v, _ => v = .agg #[.string f, .string c, .int .i64 q]
  | 10, v, _ => v = .bool r
  | 11, v, _ => v = .bool r
  | _, _, _ => True
theorem LayV.keep {Bk b A base : Nat} {f c : ByteArray} {q : Int} {L : List (List UInt8)} {r : Bool} {w w' : World} (hk : ∀ k, base ≤ k → k < w.heap.size → w'.heap[k]? = w.heap[k]?) : ∀ j u, LayV Bk b A base f c q L r j u w → LayV Bk b A base f c q L r j u w' := by
  intro j u h
  unfold LayV at h ⊢
  split at h <;> first | exact h | exact ownT_keep h hk | trivial
section
variable {w : World} {Bk : Nat} {g : List Sb} {t : Tr}
set_option maxRecDepth 100000 in
set_option maxHeartbeats 8000000 in
theorem lay_walk (w : World) (Bk b : Nat) (f c : ByteArray) (q : Int) (L : List (List UInt8)) (r : Bool) (Post : World → Prop) (c0 : w.cell? ⟨Bk, 0, none⟩ = some (.pointer (some ⟨b, 0, none⟩))) (hbl : Bk < w.heap.size)
    (HL : Hid (∀ W, Calls Tryz.prog 39 #[.string f] W fun e w' => LvPost W L e w'))
    (HA : Hid (∀ W, Calls Tryz.prog 61 #[.agg #[.string f, .string c, .int .i64 q]] W fun e w' => e = .returned (.agg #[.string f, .string c, .int .i64 q]) ∧ Below W.heap.size W w'))
    (HP : Hid (∀ base, w.heap.size ≤ base → ∀ W, Below w.heap.size w W → ∀ v, OwnT W base v L → Calls Tryz.prog 68 #[.pointer (some ⟨b, 0, none⟩), v, .string c, .agg #[.string f, .string c, .int .i64 q]] W fun e w' => e = .returned (.bool r) ∧ Post w' ∧ ∀ k, w.heap.size ≤ k → k < W.heap.size → w'.heap[k]? = W.heap[k]?)) :
    Calls Tryz.prog 40 #[.pointer (some ⟨Bk, 0, none⟩), .agg #[.string f, .string c, .int .i64 q]] w fun e w' => e = .returned (.bool r) ∧ Post w' := by
  unfold LvPost at HL
  go_enter Tryz.func40, Tryz.ntmps40
  go_wp2_with fail
  refine (HA.out _).mono ?_
  rintro e w1 ⟨rfl, hb1⟩
  have HB1 := Lib.hid (show Below w.heap.size w w1 from ((Below.refl _ w).alloc (Nat.le_refl _) _).trans (hb1.mono (by simp)))
  clear hb1
  go_wp2_with fail
  generalize hwq : w1.alloc (.cells #[.string f, .string c, .int .i64 q] 31) = wq
  have hbq : Below w.heap.size w wq := by rw [← hwq]; exact HB1.out.alloc HB1.out.size _
  obtain ⟨A, hA⟩ : ∃ A, w1.heap.size = A := ⟨_, rfl⟩
  have rA : wq.heap[A]? = some (.cells #[.string f, .string c, .int .i64 q] 31 (0, 0)) := by
    rw [← hwq, ← hA]; exact (MapKept.heap_alloc w1 _).1
  rw [hA]
  have hB0 := (hbq.cell (p := ⟨Bk, 0, none⟩) hbl).trans c0
  have hBl : Bk < wq.heap.size := Nat.lt_of_lt_of_le hbl hbq.size
  obtain ⟨hAl, hA0, hA1, hA2, -, -, -⟩ := box3 rA
  have HP := Lib.hid (fun W (hb : Below wq.heap.size wq W) v hO => (HP.out wq.heap.size hbq.size W (hbq.trans (hb.mono hbq.size)) v hO).mono (fun e w' (h : _ ∧ _ ∧ _) => (⟨h.1, h.2.1, fun k hk hk2 => h.2.2 k (Nat.le_trans hbq.size hk) hk2⟩ : e = .returned (.bool r) ∧ Post w' ∧ ∀ k, wq.heap.size ≤ k → k < W.heap.size → w'.heap[k]? = W.heap[k]?)))
  clear hwq hA rA HB1 HA hbq
  refine wp_region_m (LayI 10 wq Post) (LayV Bk b A wq.heap.size f c q L r) (by kernel_rfl) (by kernel_rfl) (by kernel_rfl) (by kernel_rfl) ⟨fun _ => (Below.refl _ _).drew, fun h => by cases h⟩ ?step ?fin
  case step =>
    intro i o ho listed a w' hI hn' hpre
    have hJ := hI.inv
    have hi : i < 12 := (Array.getElem?_eq_some_iff.1 ho).1
    match i, hi with
    | 0, _ =>
      cases ho
      exact wpOp_move rfl rfl (.inl rfl) (hI.kept (t := 0) (by kernel_rfl)) ⟨_, rfl, (hJ.still (by decide)), fun _ => rfl, fun _ _ _ h => h⟩
    | 1, _ =>
      cases ho
      exact wpOp_nilCheck rfl rfl rfl (hI.slot 0 8 rfl (hpre ⟨0, .data⟩ (by simp) rfl) rfl) ⟨_, rfl, (hJ.still (by decide)), fun _ => rfl, fun _ _ _ h => h⟩
    | 2, _ =>
      cases ho
      exact wpOp_field rfl rfl rfl (hI.slot 1 9 rfl (hpre ⟨1, .data⟩ (by simp) rfl) rfl) (by simp [go_sem]) ⟨_, rfl, (hJ.still (by decide)), fun _ => rfl, fun _ _ _ h => h⟩
    | 3, _ =>
      cases ho
      exact wpOp_load rfl rfl rfl (hI.slot 2 10 rfl (hpre ⟨2, .data⟩ (by simp) rfl) rfl) (load_c (Tryz.isAgg54 w') (((hJ.1 (hI.notyet hn' 10 (by kernel_rfl))).cell (p := ⟨Bk, 0, none⟩) hBl).trans hB0)) ⟨_, rfl, (hJ.still (by decide)), fun _ => rfl, fun _ _ _ h => h⟩
    | 4, _ =>
      cases ho
      exact wpOp_field rfl rfl rfl (hI.kept (t := 5) (by kernel_rfl)) (by simp [go_sem]) ⟨_, rfl, (hJ.still (by decide)), fun _ => rfl, fun _ _ _ h => h⟩
    | 5, _ =>
      cases ho
      exact wpOp_load rfl rfl rfl (hI.slot 4 12 rfl (hpre ⟨4, .data⟩ (by simp) rfl) rfl) (load_c (Tryz.isAgg9 w') (((hJ.1 (hI.notyet (hI.notyet hn' 6 (by kernel_rfl)) 10 (by kernel_rfl))).cell (p := ⟨A, 0, none⟩) hAl).trans hA0)) ⟨_, rfl, (hJ.still (by decide)), fun _ => rfl, fun _ _ _ h => h⟩
    | 6, _ =>
      cases ho
      have hb0 := hJ.1 (hI.notyet hn' 10 (by kernel_rfl))
      refine wpOp_callFn rfl rfl rfl (vs := #[.string f]) (by simp only [List.map_toArray, List.map_cons, List.map_nil, (show a.eval (.tmp 13) = .string f from (hI.slot 5 13 rfl (hpre ⟨5, .data⟩ (by simp) rfl) rfl))]) (fun _ _ => by kernel_rfl) ((HL.out w').mono ?_)
      rintro e' w2 ⟨v2, rfl, hO, hb2⟩
      exact ⟨_, rfl, _, rfl, hJ.go (by decide) (hI.notyet hn' 10 (by kernel_rfl)) hb2, fun _ => ownT_mono hO hb0.size, fun j u _ h => LayV.keep (fun k hk hk2 => hb2.block k hk2) j u h⟩
    | 7, _ =>
      cases ho
      exact wpOp_field rfl rfl rfl (hI.kept (t := 5) (by kernel_rfl)) (by simp [go_sem]) ⟨_, rfl, (hJ.still (by decide)), fun _ => rfl, fun _ _ _ h => h⟩
    | 8, _ =>
      cases ho
      exact wpOp_load rfl rfl rfl (hI.slot 7 15 rfl (hpre ⟨7, .data⟩ (by simp) rfl) rfl) (load_c (Tryz.isAgg9 w') (((hJ.1 (hI.notyet hn' 10 (by kernel_rfl))).cell (p := ⟨A, 1, none⟩) hAl).trans hA1)) ⟨_, rfl, (hJ.still (by decide)), fun _ => rfl, fun _ _ _ h => h⟩
    | 9, _ =>
      cases ho
      exact wpOp_load rfl rfl rfl (hI.kept (t := 5) (by kernel_rfl)) (load_sb (((hJ.1 (hI.notyet hn' 10 (by kernel_rfl))).cell (p := ⟨A, 0, none⟩) hAl).trans hA0) (((hJ.1 (hI.notyet hn' 10 (by kernel_rfl))).cell (p := ⟨A, 1, none⟩) hAl).trans hA1) (((hJ.1 (hI.notyet hn' 10 (by kernel_rfl))).cell (p := ⟨A, 2, none⟩) hAl).trans hA2)) ⟨_, rfl, (hJ.still (by decide)), fun _ => rfl, fun _ _ _ h => h⟩
    | 10, _ =>
      cases ho
      have hb0 := hJ.1 hn'
      have hO : OwnT w' wq.heap.size (a.eval (.tmp 14)) L := (hI.slot 6 14 rfl (hpre ⟨6, .data⟩ (by simp) rfl) rfl)
      refine wpOp_callFn rfl rfl rfl (vs := #[.pointer (some ⟨b, 0, none⟩), a.eval (.tmp 14), .string c, .agg #[.string f, .string c, .int .i64 q]]) (by simp only [List.map_toArray, List.map_cons, List.map_nil, (show a.eval (.tmp 11) = .pointer (some ⟨b, 0, none⟩) from (hI.slot 3 11 rfl (hpre ⟨3, .data⟩ (by simp) rfl) rfl)), (show a.eval (.tmp 16) = .string c from (hI.slot 8 16 rfl (hpre ⟨8, .data⟩ (by simp) rfl) rfl)), (show a.eval (.tmp 17) = .agg #[.string f, .string c, .int .i64 q] from (hI.slot 9 17 rfl (hpre ⟨9, .data⟩ (by simp) rfl) rfl))]) (fun _ _ => by kernel_rfl) ((HP.out w' hb0 _ hO).mono ?_)
      rintro e' w2 ⟨rfl, hp, hk2⟩
      exact ⟨_, rfl, _, rfl, LayI.post (by rw [hI.size]; decide) hp, fun _ => rfl, fun j u _ h => LayV.keep (fun k hk hk3 => hk2 k hk hk3) j u h⟩
    | 11, _ =>
      cases ho
      exact wpOp_move rfl rfl (.inr rfl) (hI.slot 10 18 rfl (hpre ⟨10, .data⟩ (by simp) rfl) rfl) ⟨_, rfl, (hJ.still (by decide)), fun _ => rfl, fun _ _ _ h => h⟩
  case fin =>
    intro listed a w' hI hall
    have hJ := hI.inv
    have eS4 : a.tmps.getD 4 undef = .bool r := hI.slot 11 4 rfl (hall 11 (by decide)) rfl
    obtain ⟨vs, us, hvl, hul, hvs, hus, e⟩ := hI.frame2 4 1 8 11 (by decide) (Nat.le_of_ble_eq_true (by kernel_rfl)) (by kernel_rfl)
    have vS4 := hvs 0 (by decide)
    clear hI hvs hus
    match vs, us, hvl, hul with
    | [x0], [y0, y1, y2, y3, y4, y5, y6, y7, y8, y9, y10], _, _ =>
    simp only [List.getElem?_cons_zero, Option.some.injEq] at vS4
    rw [show 4 + 0 = 4 from rfl, eS4] at vS4
    subst vS4
    simp only [List.take_succ_cons, List.take_zero, List.drop_succ_cons, List.drop_zero, List.cons_append, List.nil_append, Nat.reduceAdd, Nat.reduceSub] at e
    subst e
    clear eS4
    have HQ := Lib.hid (hJ.2 (hall 10 (by decide)))
    clear hJ
    go_wp2
    go_ret
    exact ⟨rfl, HQ.out⟩
/-- put, of a book's levels. -/
theorem lay_put (h : BookAt w Bk g t) {s : Sb} (hf : filtL s.f = true) (hc : cliL s.c = true) (hq : s.q ≤ 2) (hl : hasK s g = true ∨ g.length < 4096) {x : Nd} (hx : t [] = some x) (W : World) (hb : Below w.heap.size w W) (v : Value) (base : Nat) (hbase : w.heap.size ≤ base) (hO : OwnT W base v (lv s.f)) :
    Calls Tryz.prog 68 #[.pointer (some ⟨x.b, 0, none⟩), v, .string (str s.c), sbV s] W fun e w' => LayPost w Bk (insG s g) t (.bool (!hasK s g)) e w' ∧ ∀ k, w.heap.size ≤ k → k < W.heap.size → w'.heap[k]? = W.heap[k]? := by
  obtain ⟨B, k, rfl, hk, hk2, hBb, hBl, hlv⟩ := lvl_of hO (lv_ne _)
  have hlen := fitL_len (filtL_fit hf).1
  have hcl := (cli_len hc).2
  have hgl := (good_ins h.good hf hc hq hl).len
  have hT := ((h.tree.below hb).regs (keys_ins h.good.rise s) (by simp; omega))
  refine (put_any s.c s (by unfold maxLen; omega) (fun q => by have := cnt_le g q; have := h.good.len; omega) (lv s.f) [] t x W B 0 k hT hx (List.mem_map.2 ⟨s, (mem_insG h.good.rise).2 (.inl rfl), rfl⟩)
    (fun l hl => by have := lv_short' hlen l hl; unfold maxLen; omega) hBl (fun hf => by have := h.tree.lt hf; omega) hk hk2 hlv).mono ?_
  rintro e w' ⟨rfl, t', ht'⟩
  rw [List.nil_append, look_has h.good.rise]
  exact ⟨⟨rfl, t', lay_tree h hf hc hq hl hb ht'⟩, fun k hk hk2 => ht'.kp.block k hk2 fun hF => by have := h.tree.lt hF; omega⟩
theorem blay_any (h : BookAt w Bk g t) (s : Sb) (hf : filtL s.f = true) (hc : cliL s.c = true) (hq : s.q ≤ 2) (hl : hasK s g = true ∨ g.length < 4096) :
    Calls Tryz.prog 40 #[.pointer (some ⟨Bk, 0, none⟩), sbV s] w fun e w' => LayPost w Bk (insG s g) t (.bool (!hasK s g)) e w' := by
  obtain ⟨x, hx, c0⟩ := h.cell
  have hbl := h.lt (.inl rfl)
  have hlen := fitL_len (filtL_fit hf).1
  have hcl := (cli_len hc).2
  have hfs : (str s.f).size ≤ 1000 := by have : (str s.f).size = s.f.length := rfl; omega
  have hcs : (str s.c).size ≤ 1000 := by have : (str s.c).size = s.c.length := rfl; omega
  refine (lay_walk w Bk x.b (str s.f) (str s.c) (s.q : Int) (lv s.f) (!hasK s g) (fun w' => ∃ t', LayTree w Bk (insG s g) t t' w') c0 hbl
    (Lib.hid fun W => by have := levelsF_any (str s.f) hfs W; rwa [str_toList] at this) (Lib.hid fun W => apart_any W (str s.f) (str s.c) (by omega) (by omega) (s.q : Int))
    (Lib.hid fun base hbase W hb v hO => (lay_put h hf hc hq hl hx W hb v base hbase hO).mono ?_)).mono fun e w' h => h
  rintro e w' ⟨⟨rfl, t', ht'⟩, hk⟩
  exact ⟨rfl, ⟨t', ht'⟩, hk⟩
end
end Go.Proofs.YtgcfgheamaoceaaGreatDoor
/- Layer 14: drop, of a book. -/
namespace Go.Proofs.YtgcfgheamaoceaaGreatDoor
open Go.RowKit Go.MapKept Go.ChangeMaps Go.Maps

variable {w w' : World} {Bk : Nat} {g : List Sb} {t : Tr}
theorem good_del {g : List Sb} (h : GoodG g) (s : Sb) : GoodG (delG s g) :=
  ⟨rise_delG h.rise, Nat.le_trans (List.length_filter_le _ _) h.len, fun x hx => h.each x (mem_delG.1 hx).1⟩
theorem delG_no {g : List Sb} {s : Sb} (h : hasK s g = false) : delG s g = g := by
  unfold delG
  rw [List.filter_eq_self]
  intro x hx
  have : ¬ sameK x s := fun k => by rw [hasK_iff.2 ⟨x, hx, k⟩] at h; cases h
  simp [this]
theorem look_none {g : List Sb} (h : Rise g) {s : Sb} (hn : hasK s g = false) : look g (lv s.f) s.c = none := by
  have := look_has h s
  rw [hn] at this
  cases he : look g (lv s.f) s.c with
  | none => rfl
  | some x => rw [he] at this; cases this
/-- Behind drop: a book again. -/
theorem drop_tree (h : BookAt w Bk g t) (s : Sb) {W : World} (hb : Below w.heap.size w W) (hp : DropTree W t (look g) (cnt g) (g.map keyOfS) [] (lv s.f) s.c w') : ∃ t', LayTree w Bk (delG s g) t t' w' := by
  obtain ⟨x, hx, hr⟩ := h.root
  have hbl := h.lt (.inl rfl)
  have hBk : w'.heap[Bk]? = w.heap[Bk]? := (hp.kp.block Bk (Nat.lt_of_lt_of_le hbl hb.size) h.bk).trans (hb.block Bk hbl)
  have hK : Kp (BkF Bk t) w w' := (Kp.of_below hb).trans' hp.kp fun k _ hk => .inr hk
  cases hs : hasK s g with
  | false =>
    rw [delG_no hs]
    refine ⟨t, ⟨⟨x, hx, hBk.trans hr⟩, hp.no (look_none h.good.rise hs), h.bk, h.dom, h.good⟩, fun k hk => .inl hk, hK⟩
  | true =>
    have hT := hp.yes (by rw [look_has h.good.rise]; exact hs)
    rw [look_del h.good.rise, cnt_del h.good.rise hs] at hT
    have hsub : ∀ k, Foot (cutP t (cnt g) [] (lv s.f)) k → Foot t k := fun k ⟨q, z, hz, hh⟩ => by
      unfold cutP at hz
      split at hz
      · cases hz
      · exact ⟨q, z, hz, hh⟩
    have hcd := congrFun (cnt_del h.good.rise hs)
    have hdom : ∀ p, (cutP t (cnt g) [] (lv s.f) p).isSome = true ↔ p = [] ∨ ∃ y ∈ delG s g, under p y = true := fun p => by
      by_cases hp0 : p = []
      · subst hp0
        unfold cutP
        rw [if_neg (fun e => e.2.1 rfl), hx]
        simp
      · have e1 : (∃ y ∈ delG s g, under p y = true) ↔ 0 < cnt (delG s g) p := cnt_pos.symm
        rw [e1, ← hcd p]
        simp only [hp0, false_or]
        unfold cutP subP
        by_cases hpr : p <+: lv s.f
        · by_cases h1 : cnt g p = 1
          · rw [if_pos ⟨List.nil_prefix, hp0, hpr, h1⟩, if_pos ⟨List.nil_prefix, hpr⟩, h1]; simp
          · rw [if_neg (fun e => h1 e.2.2.2), if_pos ⟨List.nil_prefix, hpr⟩, h.dom p]
            simp only [hp0, false_or]
            rw [← cnt_pos]
            omega
        · rw [if_neg (fun e => hpr e.2.2.1), if_neg (fun e => hpr e.2), h.dom p]
          simp only [hp0, false_or]
          exact cnt_pos.symm
    refine ⟨_, ⟨⟨x, ?_, hBk.trans hr⟩, { hT with cover := fun q hq ht => ?_, ents := fun q c hc => ?_, few := ?_ }, fun hk => h.bk (hsub Bk hk), hdom, good_del h.good s⟩, fun k hk => .inl (hk.imp_right (hsub k)), hK⟩
    · unfold cutP
      rw [if_neg (fun e => e.2.1 rfl)]
      exact hx
    · rcases (hdom q).1 ht with e | ⟨y, hy, hu⟩
      · exact absurd e hq
      · have hu2 : q <+: lv y.f := by unfold under at hu; simpa using hu
        exact ⟨keyOfS y, List.mem_map.2 ⟨y, hy, rfl⟩, hu2⟩
    · obtain ⟨y, hy⟩ := Option.isSome_iff_exists.1 hc
      obtain ⟨h1, h2, h3⟩ := (look_iff (rise_delG h.good.rise)).1 hy
      exact List.mem_map.2 ⟨y, h1, by unfold keyOfS; rw [h2, h3]⟩
    · have := (good_del h.good s).len
      simp
      omega
/-- drop, of a book's levels. -/
theorem book_drop (h : BookAt w Bk g t) {s : Sb} (hf : filtL s.f = true) (hc : cliL s.c = true) {x : Nd} (hx : t [] = some x) (W : World) (hb : Below w.heap.size w W) (v : Value) (base : Nat) (hbase : w.heap.size ≤ base) (hO : OwnT W base v (lv s.f)) :
    Calls Tryz.prog 50 #[.pointer (some ⟨x.b, 0, none⟩), v, .string (str s.c)] W fun e w' => LayPost w Bk (delG s g) t (.bool (hasK s g)) e w' ∧ ∀ k, w.heap.size ≤ k → k < W.heap.size → w'.heap[k]? = W.heap[k]? := by
  obtain ⟨B, k, rfl, hk, hk2, hBb, hBl, hlv⟩ := lvl_of hO (lv_ne _)
  have hlen := fitL_len (filtL_fit hf).1
  have hcl := (cli_len hc).2
  have hd := drop_any (C := cnt g) s.c (by unfold maxLen; omega) (lv s.f) (lv_ne _) (fun hs => h.solo (by rw [look_has h.good.rise] at hs; exact hs)) (fun q hq ht => h.pos hq ht) (lv s.f) [] W B 0 k (by simp) (h.tree.below hb)
    (fun l hl => by have := lv_short' hlen l hl; unfold maxLen; omega) hBl (fun hf => by have := h.tree.lt hf; omega) hk hk2 hlv
  rw [hx] at hd
  refine hd.mono ?_
  rintro e w' ⟨rfl, ht⟩
  rw [look_has h.good.rise]
  exact ⟨⟨rfl, drop_tree h s hb ht⟩, fun k hk hk2 => ht.kp.block k hk2 fun hF => by have := h.tree.lt hF; omega⟩
end Go.Proofs.YtgcfgheamaoceaaGreatDoor
/- Layer 14: who is told: the greatest Qos by Client (raise), rows of what is told, keys in order. -/
namespace Go.Proofs.YtgcfgheamaoceaaGreatDoor
open Go.RowKit Go.MapKept Go.ChangeMaps Go.Maps

theorem wp_loop_ghost {P : Program} {Q : Exit → Act → World → Prop} {c : Code} {σ : Type} (I : σ → Act → World → Prop) (μ : σ → Nat) {s0 : σ} {a : Act} {w : World} (h0 : I s0 a w)
    (step : ∀ s a w, I s a w → c.wp P (Exit.then (fun a' w' => ∃ s', μ s' < μ s ∧ I s' a' w') Q) a w) : (Code.loop c).wp P Q a w := by
  have key : ∀ m s a w, μ s < m → I s a w → Code.rounds P c Q m a w := by
    intro m
    induction m with
    | zero => intro s a w h; omega
    | succ m ih =>
      intro s a w h hI
      rw [rounds_succ]
      refine wp_mono (step s a w hI) ?_
      rintro e a' w' he
      cases e with
      | normal => obtain ⟨s', h1, h2⟩ := he; exact ih s' a' w' (by omega) h2
      | _ => exact he
  exact wp_loop_rounds _ (key _ s0 a w (Nat.lt_succ_self _) h0)

/-- A map of numbers by texts. -/
def intM (M : Txt → Option Nat) : Txt → Option Value := fun c => (M c).map fun (q : Nat) => .int .i64 (q : Int)
def raiseM (M : Txt → Option Nat) (c : Txt) (q : Nat) : Txt → Option Nat := fun d => if d = c then some (match M c with | none => q | some p => if p < q then q else p) else M d
theorem intM_put (M : Txt → Option Nat) (c : Txt) (q : Nat) : putT (intM M) c (.int .i64 (q : Int)) = intM fun d => if d = c then some q else M d := by
  funext d
  unfold putT intM
  by_cases h : d = c
  · simp [h]
  · simp [h]
theorem zeroI : ∀ w, (zeroValue 3).run Tryz.prog w = .ok (.int .i64 0) w := (zero_of_info (n := 1) (by kernel_rfl)).1
set_option maxRecDepth 100000 in
theorem raise_any (w : World) (b : Nat) (M : Txt → Option Nat) (h : SMap Tryz.prog 9 w b (intM M)) (c : Txt) (hc : c.length ≤ maxLen) (q : Nat) (hF : ∀ v, Few (putT (intM M) c v)) :
    Calls Tryz.prog 44 #[.map (some b), .string (str c), .int .i64 (q : Int)] w fun e w' => e = .returned (.tuple #[]) ∧ SMap Tryz.prog 9 w' b (intM (raiseM M c q)) ∧ w.grownBy w' (some b) := by
  have hlk := h.look Tryz.underlying9 Tryz.underlying85 zeroI (str c) hc true
  rw [str_toList] at hlk
  have arm := fun v => h.put Tryz.underlying9 Tryz.underlying85 (str c) hc v (by rw [str_toList]; exact hF v)
  rw [str_toList] at arm
  obtain ⟨w1, r1, m1, g1⟩ := arm (.int .i64 (q : Int))
  rw [intM_put] at m1
  have he0 : ∀ p, M c = some p → ¬ p < q → raiseM M c q = M := fun p hp hn => by
    funext d
    unfold raiseM
    rw [hp]
    by_cases hd : d = c
    · rw [if_pos hd, hd, hp]; simp only [if_neg hn]
    · rw [if_neg hd]
  have he1 : (M c = none ∨ ∃ p, M c = some p ∧ p < q) → (fun d => if d = c then some q else M d) = raiseM M c q := fun hp => by
    funext d
    unfold raiseM
    rcases hp with hp | ⟨p, hp, hlt⟩
    · rw [hp]
    · rw [hp]; simp only [if_pos hlt]
  have H := Lib.hid (And.intro h (And.intro m1 (And.intro g1 (And.intro he0 he1))))
  clear h m1 g1 he0 he1 arm hF
  cases hM : M c with
  | none =>
    unfold intM at hlk
    rw [hM] at hlk
    simp only [Option.map_none, Option.getD_none, Option.isSome_none, if_true] at hlk
    go_enter Tryz.func44, Tryz.ntmps44
    go_wp2
    refine bodyPost_end (results_none rfl _ _ _) rfl ?_
    obtain ⟨h, m1, g1, he0, he1⟩ := H.out
    exact ⟨rfl, he1 (.inl hM) ▸ m1, g1⟩
  | some p =>
    unfold intM at hlk
    rw [hM] at hlk
    simp only [Option.map_some, Option.getD_some, Option.isSome_some, if_true] at hlk
    by_cases hlt : p < q
    · have hl2 : (p : Int) < q := by omega
      go_enter Tryz.func44, Tryz.ntmps44
      go_wp2
      refine bodyPost_end (results_none rfl _ _ _) rfl ?_
      obtain ⟨h, m1, g1, he0, he1⟩ := H.out
      exact ⟨rfl, he1 (.inr ⟨p, hM, hlt⟩) ▸ m1, g1⟩
    · have hl2 : ¬ (p : Int) < q := by omega
      go_enter Tryz.func44, Tryz.ntmps44
      go_wp2
      refine bodyPost_end (results_none rfl _ _ _) rfl ?_
      obtain ⟨h, m1, g1, he0, he1⟩ := H.out
      exact ⟨rfl, by rw [he0 p hM hlt]; exact h, ⟨rfl, rfl, rfl, Nat.le_refl _, fun _ _ _ => rfl⟩⟩
/-- Of these entries it has each Client's greatest Qos. -/
def GreatOf (L : List Sb) (M : Txt → Option Nat) : Prop := ∀ c, (M c = none ↔ ∀ s ∈ L, s.c ≠ c) ∧ ∀ q, M c = some q → (∃ s ∈ L, s.c = c ∧ s.q = q) ∧ ∀ s ∈ L, s.c = c → s.q ≤ q
theorem GreatOf.nil : GreatOf [] fun _ => none := fun c => ⟨by simp, fun q h => by cases h⟩
theorem GreatOf.snoc {L : List Sb} {M : Txt → Option Nat} (h : GreatOf L M) (s : Sb) : GreatOf (L ++ [s]) (raiseM M s.c s.q) := by
  intro c
  unfold raiseM
  by_cases hc : c = s.c
  · subst hc
    rw [if_pos rfl]
    refine ⟨⟨fun e => (by cases e), fun e => absurd rfl (e s (by simp))⟩, ?_⟩
    intro q hq
    cases hM : M s.c with
    | none =>
      rw [hM] at hq
      injection hq with hq
      subst hq
      refine ⟨⟨s, by simp, rfl, rfl⟩, fun y hy hyc => ?_⟩
      rcases List.mem_append.1 hy with hy | hy
      · exact absurd hyc (((h s.c).1.1 hM) y hy)
      · rw [List.mem_singleton.1 hy]; exact Nat.le_refl _
    | some p =>
      rw [hM] at hq
      simp only [Option.some.injEq] at hq
      obtain ⟨⟨y0, hy0, e0, q0⟩, hmax⟩ := (h s.c).2 p hM
      by_cases hlt : p < s.q
      · rw [if_pos hlt] at hq
        subst hq
        refine ⟨⟨s, by simp, rfl, rfl⟩, fun y hy hyc => ?_⟩
        rcases List.mem_append.1 hy with hy | hy
        · have := hmax y hy hyc; omega
        · rw [List.mem_singleton.1 hy]; exact Nat.le_refl _
      · rw [if_neg hlt] at hq
        subst hq
        refine ⟨⟨y0, List.mem_append_left _ hy0, e0, q0⟩, fun y hy hyc => ?_⟩
        rcases List.mem_append.1 hy with hy | hy
        · exact hmax y hy hyc
        · rw [List.mem_singleton.1 hy]; omega
  · rw [if_neg hc]
    refine ⟨(h c).1.trans ⟨fun e y hy => ?_, fun e y hy => e y (List.mem_append_left _ hy)⟩, fun q hq => ?_⟩
    · rcases List.mem_append.1 hy with hy | hy
      · exact e y hy
      · rw [List.mem_singleton.1 hy]; exact fun e => hc e.symm
    · obtain ⟨⟨y0, hy0, e0⟩, hmax⟩ := (h c).2 q hq
      refine ⟨⟨y0, List.mem_append_left _ hy0, e0⟩, fun y hy hyc => ?_⟩
      rcases List.mem_append.1 hy with hy | hy
      · exact hmax y hy hyc
      · rw [List.mem_singleton.1 hy] at hyc; exact absurd hyc.symm hc
theorem GreatOf.perm {L L' : List Sb} {M : Txt → Option Nat} (h : GreatOf L M) (hp : L.Perm L') : GreatOf L' M := fun c =>
  ⟨(h c).1.trans ⟨fun e s hs => e s (hp.mem_iff.2 hs), fun e s hs => e s (hp.mem_iff.1 hs)⟩, fun q hq => by
    obtain ⟨⟨y, hy, e⟩, hm⟩ := (h c).2 q hq
    exact ⟨⟨y, hp.mem_iff.1 hy, e⟩, fun s hs => hm s (hp.mem_iff.2 hs)⟩⟩
theorem GreatOf.few {L : List Sb} {M : Txt → Option Nat} (h : GreatOf L M) (hL : L.length + 1 ≤ 5000) (c : Txt) (v : Value) : Few (putT (intM M) c v) :=
  ⟨c :: L.map (·.c), by simpa using hL, fun k hk => by
    unfold putT at hk
    by_cases e : k = c
    · rw [e]; simp
    · rw [if_neg e] at hk
      unfold intM at hk
      rw [Option.isSome_map] at hk
      obtain ⟨q, hq⟩ := Option.isSome_iff_exists.1 hk
      obtain ⟨⟨y, hy, e2, -⟩, -⟩ := (h k).2 q hq
      exact List.mem_cons_of_mem _ (List.mem_map.2 ⟨y, hy, e2⟩)⟩
theorem dedup_of {α : Type} [DecidableEq α] (L : List α) : ∃ K : List α, K.Nodup ∧ ∀ x, x ∈ K ↔ x ∈ L := by
  induction L with
  | nil => exact ⟨[], List.nodup_nil, fun x => Iff.rfl⟩
  | cons a L ih =>
    obtain ⟨K, hn, hm⟩ := ih
    by_cases ha : a ∈ K
    · exact ⟨K, hn, fun x => by rw [hm, List.mem_cons]; exact ⟨.inr, fun h => h.elim (fun e => e ▸ (hm a).1 ha) id⟩⟩
    · exact ⟨a :: K, List.nodup_cons.2 ⟨ha, hn⟩, fun x => by rw [List.mem_cons, List.mem_cons, hm]⟩
/-- The keys of a map of texts, in whatever order. -/
theorem keys_of {w : World} {b n : Nat} {D : VD} {f : Txt → Option Value} (hown : w.ownsMap Tryz.prog 9 heldR b n D) (hr : SReads D f) (hF : Few f) {ss : List Txt} (hs : ss.Perm (strKeys D)) : ss.Nodup ∧ ∀ c, c ∈ ss ↔ (f c).isSome = true := by
  obtain ⟨L, -, hL⟩ := hF
  obtain ⟨K, hn, hm⟩ := dedup_of (L.filter fun c => (f c).isSome)
  have hK : ∀ c, c ∈ K ↔ (f c).isSome = true := fun c => by
    rw [hm, List.mem_filter]
    exact ⟨fun h => h.2, fun h => ⟨hL c h, h⟩⟩
  obtain ⟨es, rfl, hp, hkl⟩ := hown.entries (Maps.string_keyed Tryz.underlying9)
  have hpm : K.Perm (strKeys (.map es)) := by
    refine perm_strKeys hp (fun q hq => ?_) hn (fun x => ?_)
    · obtain ⟨k, e⟩ := hr.keys q.1 (by rw [Maps.has_eq, List.any_eq_true]; exact ⟨q, hq, WideAt.sameKey_self (hkl q hq)⟩)
      exact ⟨_, e⟩
    · rw [hK, hr.has]
  have hss := hs.trans hpm.symm
  exact ⟨hss.nodup_iff.2 hn, fun c => by rw [hss.mem_iff, hK]⟩
def tdL (s : Txt × Nat) : List Value := [.string (str s.1), .int .i64 (s.2 : Int)]
def tdsL (L : List (Txt × Nat)) : List Value := L.flatMap tdL
theorem tdsL_app (L M : List (Txt × Nat)) : tdsL (L ++ M) = tdsL L ++ tdsL M := by simp [tdsL]
theorem tdsL_len (L : List (Txt × Nat)) : (tdsL L).length = L.length * 2 := by
  induction L with
  | nil => rfl
  | cons c L ih => rw [show tdsL (c :: L) = tdL c ++ tdsL L from rfl, List.length_append, ih]; simp [tdL]; omega
theorem tdsL_one (L : List (Txt × Nat)) : ∀ u ∈ tdsL L, u.oneCell' = true := by
  intro u hu
  simp only [tdsL, List.mem_flatMap] at hu
  obtain ⟨c, _, hu⟩ := hu
  simp [tdL] at hu
  rcases hu with rfl | rfl <;> rfl
/-- A slice that the call made, of these entries. -/
def OwnTd (w : World) (base : Nat) (v : Value) (L : List (Txt × Nat)) : Prop := w.ownsRow base 65 2 v L.length (tdsL L)
theorem OwnTd.nil (w : World) (base : Nat) : OwnTd w base (.slice none 0 0) [] := World.ownsRow_nil w base _ _
theorem ownTd_block {w : World} {base : Nat} {v : Value} {L : List (Txt × Nat)} (h : OwnTd w base v L) (g : Nat) (hg : v.ownBlock = some g) : ∃ cs, w.heap[g]? = some (.cells cs 65 (0, 0)) := by
  rcases h.2 with ⟨rfl, _⟩ | ⟨g', cap, cur, rfl, _, hh, _⟩
  · cases hg
  · cases hg; exact ⟨cur, hh⟩
theorem ownTd_lt {w : World} {base : Nat} {v : Value} {L : List (Txt × Nat)} (h : OwnTd w base v L) (g : Nat) (hg : v.ownBlock = some g) : base ≤ g ∧ g < w.heap.size := by
  rcases h.2 with ⟨rfl, _⟩ | ⟨g', cap, cur, rfl, hb, hh, _⟩
  · cases hg
  · cases hg; exact ⟨hb, (Array.getElem?_eq_some_iff.1 hh).1⟩
theorem ownTd_slice {w : World} {base : Nat} {v : Value} {L : List (Txt × Nat)} (h : OwnTd w base v L) : ∃ a cap, v = .slice a L.length cap := by
  rcases h.2 with ⟨rfl, h0⟩ | ⟨g', cap, cur, rfl, _⟩
  · exact ⟨none, 0, by rw [h0]⟩
  · exact ⟨_, cap, rfl⟩
theorem OwnTd.kept {w w' : World} {base : Nat} {v : Value} {L : List (Txt × Nat)} (h : OwnTd w base v L) (hg : ∀ g, v.ownBlock = some g → w'.heap[g]? = w.heap[g]?) : OwnTd w' base v L := by
  rcases h with ⟨hl, e | ⟨g, cp, cur, rfl, hb, hh, r⟩⟩
  · exact ⟨hl, .inl e⟩
  · exact ⟨hl, .inr ⟨g, cp, cur, rfl, hb, (hg g rfl).trans hh, r⟩⟩
theorem OwnTd.below {w w' : World} {base : Nat} {v : Value} {L : List (Txt × Nat)} (h : OwnTd w base v L) (hb : Below w.heap.size w w') : OwnTd w' base v L := h.kept fun g hg => hb.block g (ownTd_lt h g hg).2
theorem OwnTd.mono {w : World} {b b' : Nat} {v : Value} {L : List (Txt × Nat)} (h : OwnTd w b v L) (hn : b' ≤ b) : OwnTd w b' v L := by
  rcases h with ⟨hl, e | ⟨g, cp, cur, rfl, hb, r⟩⟩
  · exact ⟨hl, .inl e⟩
  · exact ⟨hl, .inr ⟨g, cp, cur, rfl, Nat.le_trans hn hb, r⟩⟩
theorem infoTold : (Tryz.prog.info? 65).map (fun i => (i.zero, i.size, i.bytes)) = some (some (.agg #[.string ⟨#[]⟩, .int .i64 0]), 2, 24) := by kernel_rfl
/-- append of one entry that lies in a block of its own. -/
theorem run_append_told (w : World) (base ty : Nat) (v : Value) (L : List (Txt × Nat)) (hown : OwnTd w base v L) (B : Nat) (s : Txt × Nat) (hB : w.heap[B]? = some (.cells #[.string (str s.1), .int .i64 (s.2 : Int)] 65 (0, 0))) (hL : L.length ≤ 1000000) (hbase : base ≤ w.heap.size) :
    ∃ v' w', (Builtin.append_ #[42, 42] ty #[v, .slice (some ⟨B, 0, none⟩) 1 1]).run Tryz.prog w = .ok v' w' ∧ OwnTd w' base v' (L ++ [s]) ∧ w.grownBy w' v.ownBlock ∧ (v'.ownBlock = v.ownBlock ∨ v'.ownBlock = some w.heap.size) := by
  obtain ⟨i0, hi, hz0, hz1, hz2⟩ := info_parts infoTold
  have c0 : w.cell? ⟨B, 0, none⟩ = some (.string (str s.1)) := by rw [cell_of_row _ _ _ _ _ _ hB]; rfl
  have c1 : w.cell? ⟨B, 1, none⟩ = some (.int .i64 (s.2 : Int)) := by rw [cell_of_row _ _ _ _ _ _ hB]; rfl
  obtain ⟨v', w', h1, h2, h3, -, h5⟩ := run_append_own_at (P := Tryz.prog) (w := w) base 42 ty 65 i0 _ 2 24 Tryz.underlying42 hi hz0 hz1 hz2 rfl (by decide) v L.length (tdsL L) hown ⟨B, 0, none⟩ 1 1 (tdL s) rfl (fun j u hu => by
      rw [addr_add, Nat.zero_add]
      match j, hu with
      | 0, hu => cases hu; exact c0
      | 1, hu => cases hu; exact c1
      | j + 2, hu => simp [tdL] at hu) (fun u hu => by
      simp [tdL] at hu
      rcases hu with rfl | rfl <;> rfl) (by unfold maxLen; omega) (by omega) hbase
  refine ⟨v', w', h1, ?_, h3, h5⟩
  unfold OwnTd
  rw [tdsL_app, List.length_append]
  simpa [tdsL] using h2
end Go.Proofs.YtgcfgheamaoceaaGreatDoor
