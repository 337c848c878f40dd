/- Layer 14: drop. -/
import Derived.Test.YtjedffjfjgffeaaDoorMatG
namespace Go.Proofs.YtjedffjfjgffeaaDoor
open Go.RowKit Go.MapKept Go.ChangeMaps

variable {w w' : World} {t : Tr} {En : Pth → Txt → Option Sb} {C : Pth → Nat} {gs : List (Pth × Txt)}
theorem putE_del (En : Pth → Txt → Option Sb) (p : Pth) (n : Txt) : endV (putE En p n none) p = delT (endV En p) n := by
  funext c
  unfold endV putE delT
  by_cases hc : c = n
  · simp [hc]
  · simp [hc]
theorem putE_same {En : Pth → Txt → Option Sb} {r : Pth} {n : Txt} (h : En r n = none) : putE En r n none = En := by
  funext q c
  unfold putE
  by_cases e : q = r ∧ c = n
  · rw [if_pos e, e.1, e.2, h]
  · rw [if_neg e]
/-- One less at each branch from p on to r. -/
def subP (C : Pth → Nat) (p r : Pth) : Pth → Nat := fun q => if p <+: q ∧ q <+: r then C q - 1 else C q
/-- Without those behind p at which but one was. -/
def cutP (t : Tr) (C : Pth → Nat) (p r : Pth) : Tr := fun q => if p <+: q ∧ q ≠ p ∧ q <+: r ∧ C q = 1 then none else t q
theorem subP_same (C : Pth → Nat) (p : Pth) : subP C p p = fun q => if q = p then C p - 1 else C q := by
  funext q
  unfold subP
  by_cases hq : q = p
  · subst hq; simp
  · rw [if_neg hq, if_neg (fun h => hq (pre_anti h.1 h.2))]
theorem cutP_same (t : Tr) (C : Pth → Nat) (p : Pth) : cutP t C p p = t := by
  funext q
  unfold cutP
  rw [if_neg (fun h => h.2.1 (pre_anti h.1 h.2.2.1))]
theorem subP_next (C : Pth → Nat) (p : Pth) (l : Txt) (ls : Pth) : (fun q => if q = p then C p - 1 else subP C (p ++ [l]) (p ++ l :: ls) q) = subP C p (p ++ l :: ls) := by
  funext q
  by_cases hq : q = p
  · subst hq
    unfold subP
    rw [if_pos rfl, if_pos (pre_next.2 (.inl rfl))]
  · have : (p <+: q ∧ q <+: p ++ l :: ls) ↔ (p ++ [l] <+: q ∧ q <+: p ++ l :: ls) := pre_next.trans ⟨fun h => h.resolve_left hq, .inr⟩
    unfold subP
    simp only [if_neg hq, this]
theorem subP_off (C : Pth → Nat) (p : Pth) (l : Txt) (r : Pth) : subP C (p ++ [l]) r p = C p := by
  unfold subP
  rw [if_neg (fun h => not_on p l h.1)]
theorem kid_ne (p : Pth) (l : Txt) : p ++ [l] ≠ p := fun h => by
  have := congrArg List.length h
  simp at this
theorem on_kid (p : Pth) (l : Txt) (ls : Pth) : p ++ [l] <+: p ++ l :: ls := ⟨ls, by simp⟩
theorem cutP_keep {t : Tr} {C : Pth → Nat} {p : Pth} {l : Txt} {ls : Pth} (h : C (p ++ [l]) ≠ 1) : cutP t C (p ++ [l]) (p ++ l :: ls) = cutP t C p (p ++ l :: ls) := by
  funext q
  unfold cutP
  by_cases hq : q = p ++ [l]
  · subst hq
    rw [if_neg (fun e => e.2.1 rfl), if_neg (fun e => h e.2.2.2)]
  · have e : (p ++ [l] <+: q ∧ q ≠ p ++ [l] ∧ q <+: p ++ l :: ls ∧ C q = 1) ↔ (p <+: q ∧ q ≠ p ∧ q <+: p ++ l :: ls ∧ C q = 1) := by
      constructor
      · rintro ⟨h1, -, h3, h4⟩
        refine ⟨(pre_next.2 (.inr ⟨h1, h3⟩)).1, fun e => ?_, h3, h4⟩
        rw [e] at h1
        exact not_on p l h1
      · rintro ⟨h1, h2, h3, h4⟩
        exact ⟨((pre_next.1 ⟨h1, h3⟩).resolve_left h2).1, hq, h3, h4⟩
    simp only [e]
theorem cutP_cut {t : Tr} {C : Pth → Nat} {p : Pth} {l : Txt} {ls : Pth} (h : C (p ++ [l]) = 1) : putN (cutP t C (p ++ [l]) (p ++ l :: ls)) (p ++ [l]) none = cutP t C p (p ++ l :: ls) := by
  funext q
  unfold putN
  by_cases hq : q = p ++ [l]
  · subst hq
    unfold cutP
    rw [if_pos rfl, if_pos ⟨List.prefix_append _ _, kid_ne p l, on_kid p l ls, h⟩]
  · rw [if_neg hq]
    unfold cutP
    have e : (p ++ [l] <+: q ∧ q ≠ p ++ [l] ∧ q <+: p ++ l :: ls ∧ C q = 1) ↔ (p <+: q ∧ q ≠ p ∧ q <+: p ++ l :: ls ∧ C q = 1) := by
      constructor
      · rintro ⟨h1, -, h3, h4⟩
        refine ⟨(pre_next.2 (.inr ⟨h1, h3⟩)).1, fun e => ?_, h3, h4⟩
        rw [e] at h1
        exact not_on p l h1
      · rintro ⟨h1, h2, h3, h4⟩
        exact ⟨((pre_next.1 ⟨h1, h3⟩).resolve_left h2).1, hq, h3, h4⟩
    simp only [e]
/-- Where but one is at a branch that leads to r, it is what stands at r by that name. -/
structure Solo (t : Tr) (En : Pth → Txt → Option Sb) (C : Pth → Nat) (r : Pth) (n : Txt) : Prop where
  kid : ∀ q m, q ≠ [] → C q = 1 → q <+: r → (t (q ++ [m])).isSome = true → q ++ [m] <+: r ∧ C (q ++ [m]) = 1
  ent : ∀ q c, q ≠ [] → C q = 1 → q <+: r → (En q c).isSome = true → q = r ∧ c = n
  pos : ∀ q, q <+: r → (t q).isSome = true → 0 < C q
/-- A branch at which nothing ends, behind which none is: it goes. -/
theorem TreeAt.prune (h : TreeAt w t En C gs) {p : Pth} {x : Nd} (hx : t p = some x) {l : Txt} (hg : w.grownBy w' (some x.n)) (hm : SMap Tryd.prog 9 w' x.n (delT (kidV t p) l))
    (hk : ∀ m, t (p ++ [l] ++ [m]) = none) (he : ∀ c, En (p ++ [l]) c = none) (hC : C (p ++ [l]) = 0) : TreeAt w' (putN t (p ++ [l]) none) En C gs ∧ Kp (Foot t) w w' := by
  have hold : ∀ k, Foot t k → k ≠ x.n → w'.heap[k]? = w.heap[k]? := fun k hk hne => hg.block k (h.lt hk) fun e => hne (by injection e)
  have hput : ∀ (q : Pth) (z : Nd), putN t (p ++ [l]) none q = some z → q ≠ p ++ [l] ∧ t q = some z := fun q z hz => by
    unfold putN at hz
    by_cases e : q = p ++ [l]
    · rw [if_pos e] at hz; cases hz
    · rw [if_neg e] at hz; exact ⟨e, hz⟩
  have hsome : ∀ q, (putN t (p ++ [l]) none q).isSome = true → q ≠ p ++ [l] ∧ (t q).isSome = true := fun q hq => by
    unfold putN at hq
    by_cases e : q = p ++ [l]
    · rw [if_pos e] at hq; cases hq
    · rw [if_neg e] at hq; exact ⟨e, hq⟩
  have hkeep : ∀ q, q ≠ p ++ [l] → putN t (p ++ [l]) none q = t q := fun q hq => by unfold putN; rw [if_neg hq]
  refine ⟨{ h with
    row := fun q z hz => ?_
    kids := fun q z hz => ?_
    ends := fun q z hz => ?_
    one := fun q r z u k hz hu k1 k2 => h.one q r z u k (hput q z hz).2 (hput r u hu).2 k1 k2
    own := fun q z hz => h.own q z (hput q z hz).2
    clos := fun q m hq => ?_
    ent := fun q c hc => ?_
    none' := fun q hq => ?_
    cover := fun q hq hs => h.cover q hq (hsome q hs).2 }, Kp.of_grown hg ⟨p, x, hx, .inr (.inl rfl)⟩⟩
  · have hz2 := (hput q z hz).2
    exact (hold z.b ⟨q, z, hz2, .inl rfl⟩ fun e => by
        obtain rfl : q = p := h.one q p z x z.b hz2 hx (.inl rfl) (.inr (.inl e))
        obtain rfl : z = x := Option.some.inj (hz2.symm.trans hx)
        exact (h.own q z hz2).1 e).trans (h.row q z hz2)
  · have hz2 := (hput q z hz).2
    by_cases hqp : q = p
    · subst hqp
      obtain rfl : z = x := Option.some.inj (hz2.symm.trans hx)
      have e : kidV (putN t (q ++ [l]) none) q = delT (kidV t q) l := by
        funext m
        unfold kidV putN delT
        by_cases hml : m = l
        · subst hml; simp
        · have : q ++ [m] ≠ q ++ [l] := fun e => hml (by simpa using List.append_cancel_left e)
          rw [if_neg this, if_neg hml]
      rw [e]
      exact hm
    · have e : kidV (putN t (p ++ [l]) none) q = kidV t q := by
        funext m
        unfold kidV putN
        have : q ++ [m] ≠ p ++ [l] := fun e => hqp (List.append_inj_left' e rfl)
        rw [if_neg this]
      rw [e]
      exact (h.kids q z hz2).at_block (hold z.n ⟨q, z, hz2, .inr (.inl rfl)⟩ fun e => hqp (h.one q p z x z.n hz2 hx (.inr (.inl rfl)) (.inr (.inl e))))
  · have hz2 := (hput q z hz).2
    refine (h.ends q z hz2).at_block (hold z.e ⟨q, z, hz2, .inr (.inr rfl)⟩ fun e => ?_)
    obtain rfl : q = p := h.one q p z x z.e hz2 hx (.inr (.inr rfl)) (.inr (.inl e))
    obtain rfl : z = x := Option.some.inj (hz2.symm.trans hx)
    exact (h.own q z hz2).2.2 e.symm
  · obtain ⟨-, hq⟩ := hsome _ hq
    have hne : q ≠ p ++ [l] := fun e => by rw [e, hk m] at hq; cases hq
    rw [hkeep q hne]
    exact h.clos q m hq
  · have hne : q ≠ p ++ [l] := fun e => by rw [e, he c] at hc; cases hc
    rw [hkeep q hne]
    exact h.ent q c hc
  · by_cases e : q = p ++ [l]
    · rw [e]; exact hC
    · rw [hkeep q e] at hq; exact h.none' q hq
structure DropTree (w : World) (t : Tr) (En : Pth → Txt → Option Sb) (C : Pth → Nat) (gs : List (Pth × Txt)) (p r : Pth) (n : Txt) (w' : World) : Prop where
  no : En r n = none → TreeAt w' t En C gs
  yes : (En r n).isSome = true → TreeAt w' (cutP t C p r) (putE En r n none) (subP C p r) gs
  kp : Kp (Foot t) w w'
def DropPost (w : World) (t : Tr) (En : Pth → Txt → Option Sb) (C : Pth → Nat) (gs : List (Pth × Txt)) (p r : Pth) (n : Txt) (e : Ending) (w' : World) : Prop := e = .returned (.bool (En r n).isSome) ∧ DropTree w t En C gs p r n w'
set_option maxRecDepth 100000 in
theorem drop_none (w : World) (a b : Value) : Calls Tryd.prog 25 #[.pointer none, a, b] w fun e w' => e = .returned (.bool false) ∧ w = w' := by
  go_enter Tryd.func25, Tryd.ntmps25
  go_wp2
  go_ret
  exact ⟨rfl, rfl⟩
set_option maxRecDepth 100000 in
set_option maxHeartbeats 2000000 in
theorem drop_here (h : TreeAt w t En C gs) {p : Pth} {x : Nd} (hx : t p = some x) (a : Option Addr) (k : Nat) (n : Txt) (hn : n.length ≤ maxLen) (hpos : 0 < C p) :
    Calls Tryd.prog 25 #[.pointer (some ⟨x.b, 0, none⟩), .slice a 0 k, .string (str n)] w fun e w' => DropPost w t En C gs p p n e w' := by
  obtain ⟨c0, c1, c2⟩ := h.cells hx
  have hlk := h.look_end hx n hn
  have hlt := h.lt ⟨p, x, hx, .inl rfl⟩
  obtain ⟨sa, sb, sq, hsf⟩ := sbO_form (En p n)
  rw [hsf] at hlk
  obtain ⟨i, hi⟩ : ∃ i, (En p n).isSome = i := ⟨_, rfl⟩
  rw [hi] at hlk
  obtain ⟨w1, r1, m1, g1⟩ := (h.ends p x hx).drop (T := 50) (E := 30) Tryd.underlying9 Tryd.underlying50 (str n) hn 0
  rw [str_toList, ← putE_del] at m1
  obtain ⟨hT1, hK1⟩ := h.ended hx g1 m1 (fun q hq c => by unfold putE; rw [if_neg (fun e => hq e.1)]) (fun q c hc => by
    unfold putE at hc
    by_cases e : q = p ∧ c = n
    · rw [if_pos e] at hc; cases hc
    · rw [if_neg e] at hc; exact h.ents q c hc)
  obtain ⟨-, -, k2⟩ := hT1.cells hx
  have z2 := (box3 (hT1.row p x hx)).2.2.2.2.2.2
  have hl1 := hT1.lt ⟨p, x, hx, .inl rfl⟩
  have hCle := h.le p
  have HT := Lib.hid (And.intro hT1 (And.intro hK1 (And.intro hx hi)))
  unfold DropPost
  rw [hi]
  clear h hsf hi c0 hT1 hK1 m1 g1 hx
  obtain ⟨cp, hcp⟩ : ∃ cp, C p = cp := ⟨_, rfl⟩
  rw [hcp] at k2 hpos hCle c2
  have hC : (IntKind.i64.wrap ((cp : Int) - 1)) = ((cp - 1 : Nat) : Int) := by rw [IntKind.wrap_i64]; omega
  cases i with
  | false =>
    go_enter Tryd.func25, Tryd.ntmps25
    go_wp2
    go_ret
    obtain ⟨hT1, hK1, hx, hi⟩ := HT.out
    refine ⟨rfl, fun hno => ?_, (fun h => by rw [hi] at h; cases h), hK1⟩
    rw [putE_same hno] at hT1
    exact hT1
  | true =>
    go_enter Tryd.func25, Tryd.ntmps25
    go_wp2
    go_ret
    obtain ⟨hT1, hK1, hx, hi⟩ := HT.out
    obtain ⟨hS, hK2⟩ := hT1.sized hx (cp - 1) (by omega)
    refine ⟨rfl, (fun hno => by rw [hno] at hi; cases hi), fun _ => ?_, hK1.trans hK2⟩
    rw [cutP_same, subP_same, hcp]
    exact hS
set_option maxRecDepth 100000 in
set_option maxHeartbeats 2000000 in
/-- What is behind the first level: nothing of that name. -/
theorem drop_not (h : TreeAt w t En C gs) {p : Pth} {x : Nd} (hx : t p = some x) (B off k m : Nat) (l n : Txt) (ls : Pth) (hl : l.length ≤ maxLen) (hk : m + 1 ≤ k) (hk2 : k ≤ 9223372036854775807) (hc : w.cell? ⟨B, off, none⟩ = some (.string (str l))) (hno : En (p ++ l :: ls) n = none)
    (hIH : ∀ W off', (1 ≤ m → off' = off + 1) → Below w.heap.size w W → Calls Tryd.prog 25 #[ptrV (t (p ++ [l])), .slice (some ⟨B, off', none⟩) m (k - 1), .string (str n)] W fun e w' => DropPost W t En C gs (p ++ [l]) (p ++ l :: ls) n e w') :
    Calls Tryd.prog 25 #[.pointer (some ⟨x.b, 0, none⟩), .slice (some ⟨B, off, none⟩) (m + 1) k, .string (str n)] w fun e w' => DropPost w t En C gs p (p ++ l :: ls) n e w' := by
  obtain ⟨c0, c1, c2⟩ := h.cells hx
  have hlk := h.drew.look_kid hx l hl
  have hlt := h.lt ⟨p, x, hx, .inl rfl⟩
  obtain ⟨off', ho, hsl⟩ := slice_tl (m + 1) B off k (by omega) hk hk2
  have hm1 : (0 : Int) < ((m : Int) + 1) := by omega
  have HI := Lib.hid (fun W hb => hIH W off' (fun h => ho (by omega)) hb)
  unfold DropPost at HI ⊢
  rw [hno] at HI ⊢
  obtain ⟨v, hv⟩ : ∃ v, ptrV (t (p ++ [l])) = v := ⟨_, rfl⟩
  rw [hv] at hlk HI
  have Hno := Lib.hid hno
  clear hIH c1 c2 ho h hx hv hno
  simp only [Nat.add_sub_cancel] at hsl
  simp only [Option.isSome_none] at HI ⊢
  go_enter Tryd.func25, Tryd.ntmps25
  go_wp2_with fail
  go_region_with fail
  all_goals
    go_wp2_with fail
    refine (HI.out w.drew ⟨rfl, rfl, rfl, Nat.le_refl _, fun _ _ => rfl⟩).mono ?_
    rintro e wz ⟨rfl, hd⟩
    have HD := Lib.hid hd
    clear hd
    go_wp2
    go_ret
    exact ⟨rfl, HD.out.no, (fun h => by rw [Hno.out] at h; cases h), (Kp.of_below (F := Foot t) (⟨rfl, rfl, rfl, Nat.le_refl _, fun _ _ => rfl⟩ : Below w.heap.size w w.drew)).trans HD.out.kp⟩
set_option maxRecDepth 100000 in
set_option maxHeartbeats 4000000 in
/-- What is behind the first level: one of that name. -/
theorem drop_yes (h : TreeAt w t En C gs) {p : Pth} {x y : Nd} (hx : t p = some x) (B off k m : Nat) (l n : Txt) (ls : Pth) (hy : t (p ++ [l]) = some y) (hl : l.length ≤ maxLen) (hB : B < w.heap.size) (hBF : ¬ Foot t B) (hk : m + 1 ≤ k) (hk2 : k ≤ 9223372036854775807) (hc : w.cell? ⟨B, off, none⟩ = some (.string (str l))) (hyes : (En (p ++ l :: ls) n).isSome = true)
    (hS : Solo t En C (p ++ l :: ls) n)
    (hIH : ∀ W off', (1 ≤ m → off' = off + 1) → Below w.heap.size w W → Calls Tryd.prog 25 #[.pointer (some ⟨y.b, 0, none⟩), .slice (some ⟨B, off', none⟩) m (k - 1), .string (str n)] W fun e w' => DropPost W t En C gs (p ++ [l]) (p ++ l :: ls) n e w') :
    Calls Tryd.prog 25 #[.pointer (some ⟨x.b, 0, none⟩), .slice (some ⟨B, off, none⟩) (m + 1) k, .string (str n)] w fun e w' => DropPost w t En C gs p (p ++ l :: ls) n e w' := by
  obtain ⟨c0, c1, c2⟩ := h.cells hx
  have hlk := h.drew.look_kid hx l hl
  rw [hy] at hlk
  simp only [ptrV] at hlk
  have hlt := h.lt ⟨p, x, hx, .inl rfl⟩
  have hxn := (h.own p x hx).1
  obtain ⟨off', ho, hsl⟩ := slice_tl (m + 1) B off k (by omega) hk hk2
  have hm1 : (0 : Int) < ((m : Int) + 1) := by omega
  have HI := Lib.hid (fun W hb => hIH W off' (fun h => ho (by omega)) hb)
  unfold DropPost at HI ⊢
  rw [hyes] at HI ⊢
  have hp1 := hS.pos (p ++ [l]) (on_kid p l ls) (by rw [hy]; rfl)
  have hp0 := hS.pos p ⟨l :: ls, rfl⟩ (by rw [hx]; rfl)
  have hC0 := h.le p
  have H := Lib.hid (And.intro h (And.intro hx (And.intro hy (And.intro hyes (And.intro hS hBF)))))
  have HC := Lib.hid (And.intro c0 hc)
  have hK0 : Kp (Foot t) w w.drew := Kp.of_below ⟨rfl, rfl, rfl, Nat.le_refl _, fun _ _ => rfl⟩
  have HK0 := Lib.hid hK0
  clear hIH c1 c2 ho h hx hy hyes hS hBF hK0
  simp only [Nat.add_sub_cancel] at hsl
  go_enter Tryd.func25, Tryd.ntmps25
  go_wp2_with fail
  go_region_with fail
  all_goals
    go_wp2_with fail
    refine (HI.out w.drew ⟨rfl, rfl, rfl, Nat.le_refl _, fun _ _ => rfl⟩).mono ?_
    rintro e wz ⟨rfl, hd⟩
    have hT1 := hd.yes H.out.2.2.2.1
    have hKz : Kp (Foot t) w wz := HK0.out.trans hd.kp
    have hcx : cutP t C (p ++ [l]) (p ++ l :: ls) p = some x := by
      unfold cutP
      rw [if_neg (fun h => not_on p l h.1)]
      exact H.out.2.1
    have hcy : cutP t C (p ++ [l]) (p ++ l :: ls) (p ++ [l]) = some y := by
      unfold cutP
      rw [if_neg (fun h => h.2.1 rfl)]
      exact H.out.2.2.1
    obtain ⟨x0, -, x2⟩ := hT1.cells hcx
    obtain ⟨-, -, y2⟩ := hT1.cells hcy
    rw [subP_off] at x2
    have e1 : subP C (p ++ [l]) (p ++ l :: ls) (p ++ [l]) = C (p ++ [l]) - 1 := by unfold subP; rw [if_pos ⟨List.prefix_rfl, on_kid p l ls⟩]
    rw [e1] at y2
    have zx := (box3 (hT1.row p x hcx)).2.2.2.2.2.2
    have lx := hT1.lt ⟨p, x, hcx, .inl rfl⟩
    have ly := hT1.lt ⟨_, y, hcy, .inl rfl⟩
    have hne : x.b ≠ y.b := fun e => kid_ne p l (hT1.one _ _ y x y.b hcy hcx (.inl rfl) (.inl e.symm))
    have hBz : wz.heap[B]? = w.heap[B]? := hKz.block B hB H.out.2.2.2.2.2
    have dc := (World.cell?_of_block (a := ⟨B, off, none⟩) hBz).trans HC.out.2
    have hBl : B < wz.heap.size := Nat.lt_of_lt_of_le hB hKz.size
    have HZ := Lib.hid (And.intro hT1 (And.intro hKz (And.intro hcx hcy)))
    clear hd hT1 hKz hcx hcy hBz e1
    obtain ⟨cp, hcp⟩ : ∃ cp, C p = cp := ⟨_, rfl⟩
    have Hcp := Lib.hid hcp
    rw [hcp] at x2 hp0 hC0
    have hCw : (IntKind.i64.wrap ((cp : Int) - 1)) = ((cp - 1 : Nat) : Int) := by rw [IntKind.wrap_i64]; omega
    clear hcp
    by_cases h1 : C (p ++ [l]) = 1
    · rw [h1] at y2
      have y2 : wz.cell? ⟨y.b, 2, none⟩ = some (.int .i64 0) := y2
      have H1 := Lib.hid h1
      clear h1 hp1
      obtain ⟨w2, r2, m2, g2⟩ := (HZ.out.1.drew.kids p x HZ.out.2.2.1).drop (T := 49) (E := 40) Tryd.underlying9 Tryd.underlying49 (str l) hl 0
      have H2 := Lib.hid (And.intro m2 g2)
      clear m2 g2
      go_wp2_with fail
      go_region_with fail
      all_goals
        obtain ⟨m2, g2⟩ := H2.out
        obtain ⟨hT1, hKz, hcx, hcy⟩ := HZ.out
        obtain ⟨hT, hx, hy, hyes, hS, hBF⟩ := H.out
        rw [str_toList] at m2
        have hnil : p ++ [l] ≠ [] := by simp
        obtain ⟨hT2, hK2⟩ := hT1.drew.prune hcx g2 m2 (fun q => by
          unfold cutP
          cases hq : t (p ++ [l] ++ [q]) with
          | none => split <;> rfl
          | some z =>
            obtain ⟨e1, e2⟩ := hS.kid (p ++ [l]) q hnil H1.out (on_kid p l ls) (by rw [hq]; rfl)
            rw [if_pos ⟨List.prefix_append _ _, kid_ne _ _, e1, e2⟩]) (fun c => by
          unfold putE
          by_cases e : p ++ [l] = p ++ l :: ls ∧ c = n
          · rw [if_pos e]
          · rw [if_neg e]
            cases hE : En (p ++ [l]) c with
            | none => rfl
            | some z => exact absurd (hS.ent (p ++ [l]) c hnil H1.out (on_kid p l ls) (by rw [hE]; rfl)) e) (by unfold subP; rw [if_pos ⟨List.prefix_rfl, on_kid p l ls⟩, H1.out])
        have hcx2 : putN (cutP t C (p ++ [l]) (p ++ l :: ls)) (p ++ [l]) none p = some x := by
          unfold putN
          rw [if_neg (fun e => kid_ne p l e.symm)]
          exact hcx
        obtain ⟨-, -, v2⟩ := hT2.cells hcx2
        rw [subP_off, Hcp.out] at v2
        have vx := (box3 (hT2.row p x hcx2)).2.2.2.2.2.2
        have vl := hT2.lt ⟨p, x, hcx2, .inl rfl⟩
        rw [cutP_cut H1.out] at hT2 hcx2
        have hsub : ∀ k, Foot (cutP t C (p ++ [l]) (p ++ l :: ls)) k → Foot t k := fun k ⟨q, z, hz, hh⟩ => by
          unfold cutP at hz
          split at hz
          · cases hz
          · exact ⟨q, z, hz, hh⟩
        have hsub2 : ∀ k, Foot (cutP t C p (p ++ l :: ls)) k → Foot t k := fun k ⟨q, z, hz, hh⟩ => by
          unfold cutP at hz
          split at hz
          · cases hz
          · exact ⟨q, z, hz, hh⟩
        have hK : Kp (Foot t) w w2 := hKz.drew.trans' hK2 fun k _ hk => hsub k hk
        have HK := Lib.hid (And.intro hT2 (And.intro hcx2 (And.intro hK (And.intro hyes hsub2))))
        clear m2 g2 hT1 hKz hcx hcy hT hx hy hyes hS hBF hT2 hcx2 hK hK2 hsub hsub2 x0 x2 y2 zx dc r2
        go_wp2
        go_ret
        obtain ⟨hT2, hcx2, hK, hyes, hsub2⟩ := HK.out
        obtain ⟨hU, hKU⟩ := hT2.sized hcx2 (cp - 1) (by omega)
        rw [← Hcp.out, subP_next, Hcp.out] at hU
        exact ⟨rfl, (fun h => by rw [h] at hyes; cases hyes), (fun _ => hU), hK.trans' hKU fun k _ hk => hsub2 k hk⟩
    · have hbig : C (p ++ [l]) ≤ 5000 := H.out.1.le _
      have H1 := Lib.hid h1
      obtain ⟨cq, hcq⟩ : ∃ cq, C (p ++ [l]) - 1 = cq := ⟨_, rfl⟩
      have hq0 : ¬ (cq : Int) = 0 := by omega
      have hq1 : ¬ cq = 0 := by omega
      rw [hcq] at y2
      clear h1 hp1 hcq hbig
      go_wp2
      go_ret
      obtain ⟨hT1, hKz, hcx, hcy⟩ := HZ.out
      rw [cutP_keep H1.out] at hT1 hcx
      have hsub2 : ∀ k, Foot (cutP t C p (p ++ l :: ls)) k → Foot t k := fun k ⟨q, z, hz, hh⟩ => by
        unfold cutP at hz
        split at hz
        · cases hz
        · exact ⟨q, z, hz, hh⟩
      have hyes := H.out.2.2.2.1
      obtain ⟨hU, hKU⟩ := hT1.sized hcx (cp - 1) (by omega)
      rw [← Hcp.out, subP_next, Hcp.out] at hU
      exact ⟨rfl, (fun h => by rw [h] at hyes; cases hyes), (fun _ => hU), hKz.trans' hKU fun k _ hk => hsub2 k hk⟩
/-- drop: at any branch, or at none. -/
theorem drop_any (n : Txt) (hn : n.length ≤ maxLen) (r : Pth) (hr0 : r ≠ []) (hS : (En r n).isSome = true → Solo t En C r n) (hpos : ∀ q, q ≠ [] → (t q).isSome = true → 0 < C q) : ∀ (ls p : Pth) (w : World) (B off k : Nat), p ++ ls = r → TreeAt w t En C gs → (∀ l ∈ ls, l.length ≤ maxLen) → B < w.heap.size → ¬ Foot t B → ls.length ≤ k → k ≤ 9223372036854775807 → LvAt w B off ls →
    Calls Tryd.prog 25 #[ptrV (t p), .slice (some ⟨B, off, none⟩) ls.length k, .string (str n)] w fun e w' => DropPost w t En C gs p r n e w'
  | ls, p, w, B, off, k, hr, h, hls, hB, hBF, hk, hk2, hlv => by
    cases hx : t p with
    | none =>
      have hno : En r n = none := by rw [← hr]; exact h.gone hx ls n
      refine (drop_none w _ _).mono ?_
      rintro e w' ⟨rfl, rfl⟩
      refine ⟨by rw [hno]; rfl, (fun _ => h), (fun h => by rw [hno] at h; cases h), Kp.refl _ _⟩
    | some x =>
      match ls, hr, hls, hk, hlv with
      | [], hr, _, _, _ =>
        rw [List.append_nil] at hr
        subst hr
        exact drop_here h hx _ _ n hn (hpos p hr0 (by rw [hx]; rfl))
      | l :: ls, hr, hls, hk, hlv =>
        have hlvW : ∀ (W : World) (off' : Nat), (1 ≤ ls.length → off' = off + 1) → Below w.heap.size w W → LvAt W B off' ls := fun W off' ho hb => by
          cases ls with
          | nil => intro j x hj; cases hj
          | cons m ls => rw [ho (by simp)]; exact hlv.tl.block (hb.block B hB)
        have IH := fun (W : World) (off' : Nat) (ho : 1 ≤ ls.length → off' = off + 1) (hb : Below w.heap.size w W) =>
          drop_any n hn r hr0 hS hpos ls (p ++ [l]) W B off' (k - 1) (by rw [List.append_assoc]; exact hr) (h.below hb) (fun m hm => hls m (by simp [hm])) (Nat.lt_of_lt_of_le hB hb.size) hBF (by simp at hk; omega) (by omega) (hlvW W off' ho hb)
        subst hr
        cases hE : En (p ++ l :: ls) n with
        | none => exact drop_not h hx B off k ls.length l n ls (hls l (by simp)) hk hk2 (hlv 0 l rfl) hE IH
        | some s =>
          have hy : (t (p ++ [l])).isSome = true := h.up ls (p ++ [l]) (by rw [List.append_assoc]; exact h.ent _ n (by rw [List.singleton_append, hE]; rfl))
          obtain ⟨y, hy⟩ := Option.isSome_iff_exists.1 hy
          refine drop_yes h hx B off k ls.length l n ls hy (hls l (by simp)) hB hBF hk hk2 (hlv 0 l rfl) (by rw [hE]; rfl) (hS (by rw [hE]; rfl)) fun W off' ho hb => ?_
          have := IH W off' ho hb
          rw [hy] at this
          exact this
  termination_by ls => ls.length
end Go.Proofs.YtjedffjfjgffeaaDoor
