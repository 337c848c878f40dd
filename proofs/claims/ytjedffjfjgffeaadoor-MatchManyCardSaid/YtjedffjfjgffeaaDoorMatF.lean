/- Layer 14: put, further on. -/
import Derived.Test.YtjedffjfjgffeaaDoorMatE
namespace Go.Proofs.YtjedffjfjgffeaaDoor
open Go.RowKit Go.MapKept Go.ChangeMaps

variable {w w' : World} {t : Tr} {En : Pth → Txt → Option Sb} {C : Pth → Nat} {gs : List (Pth × Txt)}
/-- One more at each branch from p on to r, if there was none. -/
def addP (C : Pth → Nat) (p r : Pth) (was : Bool) : Pth → Nat := fun q => if was = false ∧ p <+: q ∧ q <+: r then C q + 1 else C q
theorem addP_same (C : Pth → Nat) (p : Pth) (was : Bool) : addP C p p was = addC C p was := by
  funext q
  unfold addP addC
  by_cases hq : q = p
  · subst hq
    cases was <;> simp
  · rw [if_neg hq, if_neg (fun h => hq (pre_anti h.2.1 h.2.2))]
theorem pre_next {p q : Pth} {l : Txt} {ls : Pth} : (p <+: q ∧ q <+: p ++ l :: ls) ↔ q = p ∨ (p ++ [l] <+: q ∧ q <+: p ++ l :: ls) := by
  constructor
  · rintro ⟨⟨a, rfl⟩, ⟨b, h⟩⟩
    cases a with
    | nil => exact .inl (by simp)
    | cons m a =>
      rw [List.append_assoc] at h
      have h2 := List.append_cancel_left h
      simp at h2
      obtain ⟨rfl, h2⟩ := h2
      exact .inr ⟨⟨a, by simp⟩, ⟨b, by simp [h2]⟩⟩
  · rintro (rfl | ⟨⟨a, rfl⟩, h⟩)
    · exact ⟨List.prefix_rfl, List.prefix_append _ _⟩
    · exact ⟨⟨l :: a, by simp⟩, h⟩
theorem not_on (p : Pth) (l : Txt) : ¬ p ++ [l] <+: p := fun ⟨a, h⟩ => by
  have := congrArg List.length h
  simp at this
theorem addP_true (C : Pth → Nat) (p r : Pth) : addP C p r true = C := by
  funext q
  unfold addP
  rw [if_neg (fun h => by cases h.1)]
theorem addP_off (C : Pth → Nat) (p : Pth) (l : Txt) (r : Pth) (was : Bool) : addP C (p ++ [l]) r was p = C p := by
  unfold addP
  rw [if_neg (fun h => not_on p l h.2.1)]
theorem addP_next (C : Pth → Nat) (p : Pth) (l : Txt) (ls : Pth) : (fun q => if q = p then C p + 1 else addP C (p ++ [l]) (p ++ l :: ls) false q) = addP C p (p ++ l :: ls) false := by
  funext q
  by_cases hq : q = p
  · subst hq
    unfold addP
    rw [if_pos rfl, if_pos ⟨rfl, pre_next.2 (.inl rfl)⟩]
  · have : (p <+: q ∧ q <+: p ++ l :: ls) ↔ (p ++ [l] <+: q ∧ q <+: p ++ l :: ls) := pre_next.trans ⟨fun h => h.resolve_left hq, .inr⟩
    unfold addP
    simp only [if_neg hq, this]
structure PutTree (w : World) (t : Tr) (En : Pth → Txt → Option Sb) (C : Pth → Nat) (gs : List (Pth × Txt)) (p r : Pth) (n : Txt) (s : Sb) (t' : Tr) (w' : World) : Prop where
  tree : TreeAt w' t' (putE En r n (some s)) (addP C p r (En r n).isSome) gs
  dom : ∀ q, (t' q).isSome = true ↔ (t q).isSome = true ∨ (p <+: q ∧ q <+: r)
  old : ∀ q y, t q = some y → t' q = some y
  foot : ∀ k, Foot t' k → Foot t k ∨ w.heap.size ≤ k
  kp : Kp (Foot t) w w'
def PutPost (w : World) (t : Tr) (En : Pth → Txt → Option Sb) (C : Pth → Nat) (gs : List (Pth × Txt)) (p r : Pth) (n : Txt) (s : Sb) (e : Ending) (w' : World) : Prop :=
  e = .returned (.bool (!(En r n).isSome)) ∧ ∃ t', PutTree w t En C gs p r n s t' w'
theorem Foot.mono {t t' : Tr} (h : ∀ q y, t q = some y → t' q = some y) {k : Nat} (hk : Foot t k) : Foot t' k := by
  obtain ⟨q, y, hy, hh⟩ := hk
  exact ⟨q, y, h q y hy, hh⟩
set_option maxRecDepth 100000 in
set_option maxHeartbeats 2000000 in
/-- The branch further on is there. -/
theorem put_next (h : TreeAt w t En C gs) {p : Pth} {x y : Nd} (hx : t p = some x) (B off k m : Nat) (l n : Txt) (ls : Pth) (hy : t (p ++ [l]) = some y) (hl : l.length ≤ maxLen) (hB : B < w.heap.size) (hk : m + 1 ≤ k) (hk2 : k ≤ 9223372036854775807) (hc : w.cell? ⟨B, off, none⟩ = some (.string (str l))) (s : Sb) (hle : C p < 5000)
    (hIH : ∀ W off', (1 ≤ m → off' = off + 1) → Below w.heap.size w W → Calls Tryd.prog 30 #[.pointer (some ⟨y.b, 0, none⟩), .slice (some ⟨B, off', none⟩) m (k - 1), .string (str n), sbV s] W fun e w' => PutPost W t En C gs (p ++ [l]) (p ++ l :: ls) n s e w') :
    Calls Tryd.prog 30 #[.pointer (some ⟨x.b, 0, none⟩), .slice (some ⟨B, off, none⟩) (m + 1) k, .string (str n), sbV s] w fun e w' => PutPost w t En C gs p (p ++ l :: ls) n s e w' := by
  obtain ⟨c0, c1, c2⟩ := h.cells hx
  have hlk := (h.alloc (boxOf s)).look_kid hx l hl
  have hlk2 := (h.alloc (boxOf s)).drew.look_kid hx l hl
  rw [hy] at hlk hlk2
  simp only [ptrV] at hlk hlk2
  have hlt := h.lt ⟨p, x, hx, .inl rfl⟩
  obtain ⟨off', ho, hsl⟩ := slice_tl (m + 1) B off k (by omega) hk hk2
  have hm1 : (0 : Int) < ((m : Int) + 1) := by omega
  have HI := Lib.hid (fun W hb => hIH W off' (fun h => ho (by omega)) hb)
  have H := Lib.hid (And.intro h (And.intro hx hle))
  clear hIH c1 c2 ho h hy hx hle
  obtain ⟨i, hi⟩ : ∃ i, (En (p ++ l :: ls) n).isSome = i := ⟨_, rfl⟩
  unfold PutPost at HI ⊢
  rw [hi] at HI ⊢
  have Hi := Lib.hid hi
  clear hi
  simp only [Nat.add_sub_cancel] at hsl
  unfold sbV at HI ⊢
  go_enter Tryd.func30, Tryd.ntmps30
  go_wp2_with fail
  generalize hwq : w.alloc (boxOf s) = wq at hlk hlk2 ⊢
  have hs1 : w.heap.size < wq.heap.size := by rw [← hwq]; simp
  have hbq : Below w.heap.size w wq := by rw [← hwq]; exact (Below.refl _ w).alloc (Nat.le_refl _) _
  have hrq : wq.heap[w.heap.size]? = some (boxOf s) := by rw [← hwq]; exact (MapKept.heap_alloc w _).1
  have d0 := hbq.cell (p := ⟨x.b, 0, none⟩) hlt; rw [c0] at d0
  have dc := hbq.cell (p := ⟨B, off, none⟩) hB; rw [hc] at dc
  obtain ⟨b3, b0, b1, b2, -, -, -⟩ := box3 hrq
  have HX := Lib.hid (And.intro hs1 (And.intro hbq hrq))
  have HB := Lib.hid (show Below w.heap.size w wq.drew from ⟨hbq.os, hbq.tape, hbq.output, hbq.size, hbq.block⟩)
  clear hwq hs1 hbq hrq c0 hc
  go_region_with (go_at_call 30; (refine (HI.out wq.drew HB.out).mono ?_; rintro e wz ⟨rfl, t', ht'⟩; have HP := Lib.hid ht'; clear ht'))
  all_goals
    obtain ⟨hT, hdom, hold, hfoot, hkp⟩ := HP.out
    rw [Hi.out] at hT
    have hx' := hold p x H.out.2.1
    obtain ⟨-, -, c2⟩ := hT.cells hx'
    rw [addP_off] at c2
    have z2 := (box3 (hT.row p x hx')).2.2.2.2.2.2
    have hxl := hT.lt ⟨p, x, hx', .inl rfl⟩
    have hle := H.out.2.2
    have hC : (IntKind.i64.wrap ((C p : Int) + 1)) = ((C p + 1 : Nat) : Int) := by rw [IntKind.wrap_i64]; omega
    have hK : Kp (Foot t) w wz := (Kp.of_below (F := Foot t) HB.out).trans hkp
    have hdom' : ∀ q, (t' q).isSome = true ↔ (t q).isSome = true ∨ (p <+: q ∧ q <+: p ++ l :: ls) := fun q => (hdom q).trans ⟨fun h => h.elim .inl fun h => .inr (pre_next.2 (.inr h)), fun h => h.elim .inl fun h => (pre_next.1 h).elim (fun e => .inl (by rw [e, H.out.2.1]; rfl)) .inr⟩
    have hfoot' : ∀ k, Foot t' k → Foot t k ∨ w.heap.size ≤ k := fun k hk => (hfoot k hk).imp_right fun h => Nat.le_trans HB.out.size h
    have HK := Lib.hid (And.intro hT (And.intro hx' (And.intro hK (And.intro hdom' (And.intro hfoot' hold)))))
    clear hT hdom hold hfoot hkp hx' hle hK hdom' hfoot' d0 dc b0 b1 b2 b3 hlk hlk2
    obtain ⟨cp, hcp⟩ : ∃ cp, C p = cp := ⟨_, rfl⟩
    rw [hcp] at c2 hC
    cases i with
    | true =>
      go_wp2
      go_ret
      obtain ⟨hT, hx', hK, hdom', hfoot', hold⟩ := HK.out
      rw [addP_true] at hT
      exact ⟨rfl, t', { tree := by rw [Hi.out, addP_true]; exact hT, dom := hdom', old := hold, foot := hfoot', kp := hK }⟩
    | false =>
      go_wp2
      go_ret
      obtain ⟨hT, hx', hK, hdom', hfoot', hold⟩ := HK.out
      obtain ⟨hS, hK2⟩ := hT.sized hx' (cp + 1) (by have := H.out.2.2; omega)
      rw [← hcp, addP_next] at hS
      exact ⟨rfl, t', { tree := by rw [Hi.out]; rw [← hcp]; exact hS, dom := hdom', old := hold, foot := hfoot', kp := by rw [← hcp] at hK2 ⊢; exact hK.trans' hK2 fun k hk hf => (hfoot' k hf).resolve_right (Nat.not_le.2 hk) }⟩
end Go.Proofs.YtjedffjfjgffeaaDoor
