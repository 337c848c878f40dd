/- Layer 7: maps.Equal; Same. -/
import Derived.Maps.Ext
import Derived.Maps.RangeWalk
import Derived.Maps.OwnSet
import Derived.Test.YtmjjgdoekblelaaSpM
namespace Go.Proofs.Ytmjjgdoekblelaa
open Go.RowKit Go.Maps

theorem length_of_subset {α : Type} [BEq α] [LawfulBEq α] : ∀ (l m : List α), l.Nodup → (∀ x ∈ l, x ∈ m) → l.length ≤ m.length
  | [], m, _, _ => Nat.zero_le _
  | x :: l, m, hn, hs => by
    obtain ⟨h1, h2⟩ := List.nodup_cons.1 hn
    have hm := hs x (by simp)
    have := length_of_subset l (m.erase x) h2 (fun y hy => (List.mem_erase_of_ne (by rintro rfl; exact h1 hy)).2 (hs y (by simp [hy])))
    rw [List.length_erase_of_mem hm] at this
    have := List.length_pos_of_mem hm
    simp only [List.length_cons]; omega
/-- The keys of a map that reads as f. -/
theorem keys_of {P : Program} {kT : TypeId} {w : World} {b n : Nat} {D : VD} {f : Nat → Option Value} (hr : MapReads D f) (ho : w.ownsMap P kT heldR b n D) (K : Keyed P kT) : ∃ l : List Nat, l.Nodup ∧ Maps.size D = l.length ∧ ∀ k, k ∈ l ↔ (f k).isSome = true := by
  obtain ⟨es, rfl, hp, hkl⟩ := ho.entries K
  have hkey : ∀ p ∈ es, ∃ k : Nat, p.1 = .int .i64 k ∧ k < 4096 := fun p hpm => hr.keys p.1 (by
    rw [Maps.has_eq, List.any_eq_true]; exact ⟨p, hpm, WideAt.sameKey_self (hkl p hpm)⟩)
  refine ⟨es.map fun p => match p.1 with | .int _ k => k.toNat | _ => 0, ?_, by rw [Maps.size_eq]; simp, fun k => ?_⟩
  · rw [List.nodup_iff_pairwise_ne, List.pairwise_map]
    refine hp.imp_of_mem (fun {p q} hpm hqm hne e => hne ?_)
    obtain ⟨a, ha, _⟩ := hkey p hpm
    obtain ⟨c, hc, _⟩ := hkey q hqm
    rw [ha, hc] at e ⊢
    simp at e
    rw [e]
  · rw [← hr.has k, Maps.has_eq, List.any_eq_true, List.mem_map]
    constructor
    · rintro ⟨p, hpm, e⟩
      obtain ⟨a, ha, _⟩ := hkey p hpm
      rw [ha] at e
      simp only [Int.toNat_natCast] at e
      subst e
      exact ⟨p, hpm, by rw [ha]; exact WideAt.sameKey_self (by trivial)⟩
    · rintro ⟨p, hpm, e⟩
      obtain ⟨a, ha, _⟩ := hkey p hpm
      refine ⟨p, hpm, ?_⟩
      rw [ha]
      by_cases hak : a = k
      · simp [hak]
      · rw [ha, Maps.sameKey_ne (fun e => by have : (a : Int) = k := by injection e
                                             omega)] at e
        cases e
theorem size_same {P : Program} {kT : TypeId} {w : World} {b1 b2 n1 n2 : Nat} {D1 D2 : VD} {f : Nat → Option Value} (h1 : MapReads D1 f) (h2 : MapReads D2 f) (o1 : w.ownsMap P kT heldR b1 n1 D1) (o2 : w.ownsMap P kT heldR b2 n2 D2) (K : Keyed P kT) : Maps.size D1 = Maps.size D2 := by
  obtain ⟨l1, d1, e1, m1⟩ := keys_of h1 o1 K
  obtain ⟨l2, d2, e2, m2⟩ := keys_of h2 o2 K
  have := length_of_subset l1 l2 d1 (fun x hx => (m2 x).2 ((m1 x).1 hx))
  have := length_of_subset l2 l1 d2 (fun x hx => (m1 x).2 ((m2 x).1 hx))
  omega
theorem same_of_sub {P : Program} {kT : TypeId} {w : World} {b1 b2 n1 n2 : Nat} {D1 D2 : VD} {f g : Nat → Option Value} (h1 : MapReads D1 f) (h2 : MapReads D2 g) (o1 : w.ownsMap P kT heldR b1 n1 D1) (o2 : w.ownsMap P kT heldR b2 n2 D2) (K : Keyed P kT)
    (hs : Maps.size D1 = Maps.size D2) (hsub : ∀ k v, f k = some v → g k = some v) : f = g := by
  obtain ⟨l1, d1, e1, m1⟩ := keys_of h1 o1 K
  obtain ⟨l2, d2, e2, m2⟩ := keys_of h2 o2 K
  have hin : ∀ x ∈ l1, x ∈ l2 := fun x hx => (m2 x).2 (by obtain ⟨v, hv⟩ := Option.isSome_iff_exists.1 ((m1 x).1 hx); rw [hsub x v hv]; rfl)
  funext k
  cases hf : f k with
  | some v => rw [hsub k v hf]
  | none =>
    cases hg : g k with
    | none => rfl
    | some v =>
      have hk2 : k ∈ l2 := (m2 k).2 (by rw [hg]; rfl)
      have hk1 : k ∉ l1 := fun hm => by have := (m1 k).1 hm; rw [hf] at this; cases this
      have := length_of_subset l1 (l2.erase k) d1 (fun y hy => (List.mem_erase_of_ne (by rintro rfl; exact hk1 hy)).2 (hin y hy))
      rw [List.length_erase_of_mem hk2] at this
      have := List.length_pos_of_mem hk2
      omega
def EqPost (w : World) (f g : Pl) (e : Ending) (w' : World) : Prop := ∃ r : Bool, e = .returned (.bool r) ∧ (r = true ↔ f = g) ∧ Below w.heap.size w w'
theorem plV_inj {f g : Pl} (h : plV f = plV g) : f = g := by
  funext k
  have := congrFun h k
  unfold plV at this
  cases hf : f k <;> cases hg : g k <;> rw [hf, hg] at this <;> simp at this
  · rw [Option.some.injEq]; omega
set_option maxHeartbeats 4000000 in
set_option maxRecDepth 100000 in
theorem equal_pl {w : World} {b1 b2 : Nat} {f g : Pl} (h1 : IntMap Try.prog 2 w b1 (plV f)) (h2 : IntMap Try.prog 2 w b2 (plV g)) :
    Calls Try.prog 35 #[.map (some b1), .map (some b2)] w fun e w' => EqPost w f g e w' := by
  have h2' := h2
  obtain ⟨D1, o1, r1⟩ := h1
  obtain ⟨D2, o2, r2⟩ := h2'
  have hb2 := h2.lt
  have K : Maps.Keyed Try.prog 2 := Maps.int_keyed Try.underlying2
  have l1 := fun ty => o1.len (t := 55) Try.underlying55 ty
  have l2 := fun ty => o2.len (t := 55) Try.underlying55 ty
  by_cases hsz : Maps.size D1 = Maps.size D2
  · have HS := Lib.hid (fun hsub => plV_inj (same_of_sub r1 r2 o1 o2 K hsz hsub))
    have HR1 := Lib.hid r1
    clear r1
    rw [hsz] at l1
    go_enter Try.func35, Try.ntmps35
    clear hsz
    go_wp2_with (at_range; refine wpList_range_own _ rfl _ 55 rfl 2 32 K Try.underlying55 heldR b1 4096 _ rfl o1 ?_; intro w0 hrg0 hg0 hs0)
    go_frame
    go_loopw [5, 6, 7, 8, 16, 17, 18, 19, 20, 21, 22, 23, 24, 25, 26, 27, 28, 29, 30, 31, 32, 33] (fun _ _ _ _ _ _ _ _ _ _ _ _ _ _ _ _ _ _ _ _ _ _ wr => ∃ (left : Lit → Bool) (cnt : Nat), wr.ranges Try.prog 2 heldR b1 w.heap.size 4096 D1 left cnt ∧ IntMap Try.prog 2 wr b2 (plV g) ∧ Below w.heap.size w wr ∧ Hid (∀ k p, f k = some p → left (.int .i64 (k : Nat)) = false → g k = some p))
      (fun _ _ _ _ _ _ _ _ _ _ _ _ _ _ _ _ _ _ _ _ _ _ wr => wr.rangeLeft b1 w.heap.size)
    case atStart =>
      refine ⟨_, _, hrg0, h2.kept hg0 (by simp), (Below.refl _ w).grown hg0 (Nat.le_refl _) (fun q e => by cases e), Lib.hid (fun k p hk hl => ?_)⟩
      rw [HR1.out.has] at hl
      unfold plV at hl; rw [hk] at hl; cases hl
    case round =>
      obtain ⟨left, cnt, hrg, h2r, hbw, G⟩ := hrel
      go_wp2_with (at_next; refine wpList_next_ranges _ rfl _ rfl 2 K heldR (Value.int .i64) id (fun key kl hk => by obtain ⟨x, hx, _⟩ := Maps.keyOf_int_inv Try.underlying2 hk; exact ⟨x, hx⟩) (fun v _ _ => ⟨v, rfl⟩) b1 w.heap.size 4096 _ _ _ rfl hrg ?_ ?_)
      · intro hc0 hl0
        have HF := Lib.hid (HS.out (fun k v hv => by
          unfold plV at hv ⊢
          cases hf : f k with
          | none => rw [hf] at hv; cases hv
          | some p => rw [hf] at hv; rw [G.out k p hf (hl0 _)]; exact hv))
        go_wp2
        go_ret
        exact ⟨true, rfl, ⟨fun _ => HF.out, fun _ => rfl⟩, hbw⟩
      · intro x c kl yd yp w1 cnt1 hkey hlx hv hat hrg1 hlt hg1 hs1 hen
        have h2w1 := h2r.kept hg1 (fun e => by have := Option.some.inj e; omega)
        have hbw1 := hbw.grown hg1 hbw.size (fun q e => by cases e; exact Nat.le_refl _)
        obtain ⟨x', ex, rfl, -⟩ := Maps.keyOf_int_inv Try.underlying2 hkey
        cases ex
        obtain ⟨k, ek, hk⟩ := HR1.out.keys _ (Maps.has_true_of_atKey hat)
        obtain rfl : x = (k : Int) := by injection ek
        obtain ⟨p, hfp, rfl⟩ : ∃ p, f k = some p ∧ c = .int .i64 ((p : Nat) : Int) := by
          have e1 := hat .nil
          rw [HR1.out.at_] at e1
          unfold heldR at hv
          cases hv
          unfold plV at e1
          cases hf : f k with
          | none => rw [hf] at e1; cases e1
          | some p => rw [hf] at e1; injection e1 with e1; exact ⟨p, rfl, e1.symm⟩
        have hl := h2w1.look Try.underlying2 Try.underlying55 zero_pl k (by omega) true
        simp only [if_true] at hl
        have HG := Lib.hid (And.intro hfp (And.intro G.out (And.intro hbw1 h2w1)))
        have HX := Lib.hid (And.intro hrg1 (And.intro hlt hrg))
        cases hgk : g k with
        | none =>
          have hv0 : plV g k = none := by unfold plV; rw [hgk]; rfl
          rw [hv0] at hl
          simp only [Option.getD_none, Option.isSome_none] at hl
          have HQ := Lib.hid hgk
          clear hat hv hlx hkey hfp ek hgk hv0 hrg hrg1 hlt G hg1 hs1
          go_wp2
          go_ret
          exact ⟨false, rfl, ⟨(fun h => by cases h), fun h => by have := HG.out.1; rw [h, HQ.out] at this; cases this⟩, HG.out.2.2.1⟩
        | some q =>
          have hv0 : plV g k = some (.int .i64 q) := by unfold plV; rw [hgk]; rfl
          rw [hv0] at hl
          simp only [Option.getD_some, Option.isSome_some] at hl
          have HQ := Lib.hid hgk
          by_cases hpq : p = q
          · subst hpq
            clear hat hv hlx hkey hfp ek hgk hv0 hrg hrg1 hlt G hg1 hs1
            go_wp2
            go_roundw
            case rel =>
              refine ⟨_, cnt1, HX.out.1, HG.out.2.2.2, HG.out.2.2.1, Lib.hid (fun j p' hj hl' => ?_)⟩
              by_cases hjk : j = k
              · subst hjk; rw [HQ.out, ← HG.out.1]; exact hj
              · refine HG.out.2.1 j p' hj ?_
                have e : (Lit.int .i64 (j : Int)).sameKey (.int .i64 k) = false := Maps.sameKey_ne (fun e => by have : (j : Int) = k := by injection e
                                                                                                                omega)
                rw [e] at hl'; simpa using hl'
            case measure => rw [HX.out.1.left_eq, HX.out.2.2.left_eq]; exact HX.out.2.1
          · have hne : ((p : Int) != (q : Int)) = true := by simp; omega
            have HPQ := Lib.hid hpq
            clear hat hv hlx hkey hfp ek hgk hv0 hrg hrg1 hlt G hg1 hs1 hpq
            go_wp2
            go_ret
            exact ⟨false, rfl, ⟨(fun h => by cases h), fun h => by have := HG.out.1; rw [h, HQ.out] at this; injection this with this; exact absurd this.symm HPQ.out⟩, HG.out.2.2.1⟩
  · have hne : ((Maps.size D1 : Int) != (Maps.size D2 : Int)) = true := by simp; omega
    have HN : Hid (f ≠ g) := Lib.hid (fun e => hsz (by subst e; exact size_same r1 r2 o1 o2 K))
    go_enter Try.func35, Try.ntmps35
    go_wp2
    go_ret
    exact ⟨false, rfl, ⟨(fun h => by cases h), fun h => absurd h HN.out⟩, Below.refl _ _⟩
end Go.Proofs.Ytmjjgdoekblelaa
