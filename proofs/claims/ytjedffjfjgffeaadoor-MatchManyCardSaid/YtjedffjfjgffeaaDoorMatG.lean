/- Layer 14: put, where a branch is new; put, whole. -/
import Derived.Test.YtjedffjfjgffeaaDoorMatF
namespace Go.Proofs.YtjedffjfjgffeaaDoor
open Go.RowKit Go.MapKept Go.ChangeMaps

variable {w w' : World} {t : Tr} {En : Pth → Txt → Option Sb} {C : Pth → Nat} {gs : List (Pth × Txt)}
structure NewNd (w : World) (y : Nd) (w' : World) : Prop where
  below : Below w.heap.size w w'
  high : w.heap.size ≤ y.b ∧ w.heap.size ≤ y.n ∧ w.heap.size ≤ y.e
  own : y.b ≠ y.n ∧ y.b ≠ y.e ∧ y.n ≠ y.e
  n : w'.heap[y.n]? = some (.map #[] 0)
  e : w'.heap[y.e]? = some (.map #[] 0)
  b : w'.heap[y.b]? = some (.cells #[.map (some y.n), .map (some y.e), .int .i64 0] 52 (0, 0))
theorem bare_new (w : World) : Calls Tryd.prog 12 #[] w fun e w' => ∃ y : Nd, e = .returned (.pointer (some ⟨y.b, 0, none⟩)) ∧ NewNd w y w' := by
  refine (bare_any w).mono ?_
  rintro e w' ⟨rfl, hb, h1, h2, h3, -⟩
  exact ⟨⟨w.heap.size + 2, w.heap.size, w.heap.size + 1⟩, rfl, hb, ⟨Nat.le_add_right _ _, Nat.le_refl _, Nat.le_add_right _ _⟩, ⟨by simp, by simp, by simp⟩, h1, h2, h3⟩
theorem TreeAt.few_kid (h : TreeAt w t En C gs) {p : Pth} {l : Txt} (hg : ∃ r ∈ gs, p ++ [l] <+: r.1) (v : Value) : Few (putT (kidV t p) l v) := by
  have hL : ∀ m : Txt, (∃ r ∈ gs, p ++ [m] <+: r.1) → m ∈ gs.map fun r => r.1.getD p.length [] := fun m ⟨r, hr, s, hs⟩ => by
    refine List.mem_map.2 ⟨r, hr, ?_⟩
    rw [← hs]
    simp [List.getD]
  refine ⟨gs.map fun r => r.1.getD p.length [], by simpa using h.few, fun m hm => ?_⟩
  unfold putT at hm
  by_cases e : m = l
  · rw [e]; exact hL l hg
  · rw [if_neg e] at hm
    unfold kidV at hm
    rw [Option.isSome_map] at hm
    exact hL m (h.cover (p ++ [m]) (by simp) hm)
set_option maxRecDepth 100000 in
set_option maxHeartbeats 2000000 in
/-- The branch further on is not there yet. -/
theorem put_new (h : TreeAt w t En C gs) {p : Pth} {x : Nd} (hx : t p = some x) (B off k m : Nat) (l n : Txt) (ls : Pth) (hy : t (p ++ [l]) = none) (hl : l.length ≤ maxLen) (hB : B < w.heap.size) (hBF : ¬ Foot t B) (hk : m + 1 ≤ k) (hk2 : k ≤ 9223372036854775807) (hc : w.cell? ⟨B, off, none⟩ = some (.string (str l))) (s : Sb) (hle : C p < 5000) (hg : ∃ r ∈ gs, p ++ [l] <+: r.1)
    (hIH : ∀ W y off', (1 ≤ m → off' = off + 1) → W.heap[B]? = w.heap[B]? → B < W.heap.size → ¬ Foot (putN t (p ++ [l]) (some y)) B → TreeAt W (putN t (p ++ [l]) (some y)) En C gs → Calls Tryd.prog 30 #[.pointer (some ⟨y.b, 0, none⟩), .slice (some ⟨B, off', none⟩) m (k - 1), .string (str n), sbV s] W fun e w' => PutPost W (putN t (p ++ [l]) (some y)) En C gs (p ++ [l]) (p ++ l :: ls) n s e w') :
    Calls Tryd.prog 30 #[.pointer (some ⟨x.b, 0, none⟩), .slice (some ⟨B, off, none⟩) (m + 1) k, .string (str n), sbV s] w fun e w' => PutPost w t En C gs p (p ++ l :: ls) n s e w' := by
  obtain ⟨c0, c1, c2⟩ := h.cells hx
  have hlk := (h.alloc (boxOf s)).look_kid hx l hl
  rw [hy] at hlk
  simp only [ptrV] at hlk
  have hlt := h.lt ⟨p, x, hx, .inl rfl⟩
  obtain ⟨off', ho, hsl⟩ := slice_tl (m + 1) B off k (by omega) hk hk2
  have hm1 : (0 : Int) < ((m : Int) + 1) := by omega
  have HI := Lib.hid (fun W y h1 h2 h3 h4 => hIH W y off' (fun h => ho (by omega)) h1 h2 h3 h4)
  have hT0 := (h.alloc (boxOf s)).drew
  have hxn := (h.own p x hx).1
  have hBx : B ≠ x.n := fun e => hBF ⟨p, x, hx, .inr (.inl e)⟩
  have H := Lib.hid (And.intro h (And.intro hx (And.intro hle (And.intro hg (And.intro hBF hy)))))
  clear hIH c1 c2 ho h hx hle hBF hy hg
  simp only [Nat.add_sub_cancel] at hsl
  obtain ⟨i, hi⟩ : ∃ i, (En (p ++ l :: ls) n).isSome = i := ⟨_, rfl⟩
  unfold PutPost at HI ⊢
  rw [hi] at HI ⊢
  have Hi := Lib.hid hi
  clear hi
  unfold sbV at HI ⊢
  go_enter Tryd.func30, Tryd.ntmps30
  go_wp2_with fail
  generalize hwq : w.alloc (boxOf s) = wq at hlk hT0 ⊢
  have hs1 : w.heap.size < wq.heap.size := by rw [← hwq]; simp
  have hbq : Below w.heap.size w wq := by rw [← hwq]; exact (Below.refl _ w).alloc (Nat.le_refl _) _
  have hrq : wq.drew.heap[w.heap.size]? = some (boxOf s) := by rw [← hwq]; exact (MapKept.heap_alloc w _).1
  have d0 := hbq.cell (p := ⟨x.b, 0, none⟩) hlt; rw [c0] at d0
  have HB := Lib.hid (show Below w.heap.size w wq.drew from ⟨hbq.os, hbq.tape, hbq.output, hbq.size, hbq.block⟩)
  have HX := Lib.hid (And.intro (show w.heap.size < wq.drew.heap.size from hs1) (And.intro hrq hT0))
  have HC := Lib.hid (And.intro c0 hc)
  clear hwq hs1 hbq hrq c0 hc hT0
  go_region_with (go_at_call 12; (refine (bare_new _).mono ?_; rintro e wb ⟨y, rfl, hn⟩; obtain ⟨w2, r2, m2, g2⟩ := ((HX.out.2.2.below hn.below).kids p x H.out.2.1).put (T := 49) (E := 40) Tryd.underlying9 Tryd.underlying49 (str l) hl (.pointer (some ⟨y.b, 0, none⟩)) (by rw [str_toList]; exact H.out.1.few_kid H.out.2.2.2.1 _); have e0 := ((HX.out.2.2.below hn.below).cells H.out.2.1).1; have HN := Lib.hid (And.intro hn (And.intro m2 g2)); clear hn m2 g2))
  all_goals
    obtain ⟨hn, m2, g2⟩ := HN.out
    rw [str_toList] at m2
    obtain ⟨hT2, hK2⟩ := HX.out.2.2.grow H.out.2.1 H.out.2.2.2.2.2 hn.below hn.high hn.own hn.n hn.e hn.b g2 m2 H.out.2.2.2.1
    have hold0 : ∀ q z, t q = some z → putN t (p ++ [l]) (some y) q = some z := fun q z hz => by
      unfold putN
      rw [if_neg (fun e => by rw [e, H.out.2.2.2.2.2] at hz; cases hz)]
      exact hz
    have hx' := hold0 p x H.out.2.1
    have hy' : putN t (p ++ [l]) (some y) (p ++ [l]) = some y := by unfold putN; rw [if_pos rfl]
    have hK : Kp (Foot t) w w2 := (Kp.of_below (F := Foot t) HB.out).trans hK2
    have hrow : w2.heap[w.heap.size]? = some (boxOf s) := by
      have e1 := hn.below.block w.heap.size HX.out.1
      have e2 := g2.block w.heap.size (Nat.lt_of_lt_of_le HX.out.1 hn.below.size) (fun e => by
        injection e with e
        have := H.out.1.lt ⟨p, x, H.out.2.1, .inr (.inl rfl)⟩
        omega)
      rw [e2, e1]; exact HX.out.2.1
    have hBk : w2.heap[B]? = w.heap[B]? := hK.block B hB H.out.2.2.2.2.1
    obtain ⟨f0, -, -⟩ := hT2.cells hx'
    have fc := (World.cell?_of_block (a := ⟨B, off, none⟩) hBk).trans HC.out.2
    obtain ⟨b3, b0, b1, b2, -, -, -⟩ := box3 hrow
    have hB2 : B < w2.heap.size := Nat.lt_of_lt_of_le hB hK.size
    have hxl2 := hT2.lt ⟨p, x, hx', .inl rfl⟩
    have L1 := hT2.look_kid hx' l hl
    have L2 := hT2.drew.look_kid hx' l hl
    rw [hy'] at L1 L2
    simp only [ptrV] at L1 L2
    have hfoot0 : ∀ k, Foot (putN t (p ++ [l]) (some y)) k → Foot t k ∨ w.heap.size ≤ k := fun k hk => (putN_foot hk).imp_right fun h => by
      have := HB.out.size
      rcases h with rfl | rfl | rfl
      · exact Nat.le_trans this hn.high.1
      · exact Nat.le_trans this hn.high.2.1
      · exact Nat.le_trans this hn.high.2.2
    have hBF : ¬ Foot (putN t (p ++ [l]) (some y)) B := fun h => (hfoot0 B h).elim H.out.2.2.2.2.1 fun h => by omega
    have HT := Lib.hid (And.intro hT2 (And.intro hx' (And.intro hK (And.intro hBk (And.intro hB2 (And.intro hBF (And.intro hold0 hfoot0)))))))
    clear hn m2 g2 hT2 hK2 hold0 hx' hy' hK hrow hBk hBF hfoot0 d0 e0 r2 hlk HC
    go_wp2_with fail
    go_region_with (go_at_call 30; go_loud (refine (HI.out w2.drew y HT.out.2.2.2.1 HT.out.2.2.2.2.1 HT.out.2.2.2.2.2.1 HT.out.1.drew).mono ?_; rintro e wz ⟨rfl, t', ht'⟩; have HP := Lib.hid ht'; clear ht'))
    all_goals
      obtain ⟨hT, hdom, hold, hfoot, hkp⟩ := HP.out
      obtain ⟨hT2, hx2, hK2, -, -, -, hold0, hfoot0⟩ := HT.out
      rw [Hi.out] at hT
      have hx' := hold p x hx2
      obtain ⟨-, -, c2⟩ := hT.cells hx'
      rw [addP_off] at c2
      have z2 := (box3 (hT.row p x hx')).2.2.2.2.2.2
      have hxl := hT.lt ⟨p, x, hx', .inl rfl⟩
      have hle := H.out.2.2.1
      have hC : (IntKind.i64.wrap ((C p : Int) + 1)) = ((C p + 1 : Nat) : Int) := by rw [IntKind.wrap_i64]; omega
      have hK : Kp (Foot t) w wz := hK2.drew.trans' hkp fun k hk hf => (hfoot0 k hf).resolve_right (Nat.not_le.2 hk)
      have hfoot' : ∀ k, Foot t' k → Foot t k ∨ w.heap.size ≤ k := fun k hk => (hfoot k hk).elim (hfoot0 k) fun h => .inr (Nat.le_trans hK2.size h)
      have hdom' : ∀ q, (t' q).isSome = true ↔ (t q).isSome = true ∨ (p <+: q ∧ q <+: p ++ l :: ls) := fun q => by
        rw [hdom q, pre_next]
        unfold putN
        by_cases e : q = p ++ [l]
        · subst e
          simp only [if_true, Option.isSome_some, true_or, true_iff]
          exact .inr (.inr ⟨List.prefix_rfl, ⟨ls, by simp⟩⟩)
        · rw [if_neg e]
          exact ⟨fun h => h.elim .inl fun h => .inr (.inr h), fun h => h.elim .inl fun h => h.elim (fun e => .inl (by rw [e, H.out.2.1]; rfl)) .inr⟩
      have hold' : ∀ q z, t q = some z → t' q = some z := fun q z hz => hold q z (hold0 q z hz)
      have HK := Lib.hid (And.intro hT (And.intro hx' (And.intro hK (And.intro hdom' (And.intro hfoot' hold')))))
      clear hT hdom hold hfoot hkp hx' hle hK hdom' hfoot' hold' hT2 hx2 hK2 hold0 hfoot0 f0 fc b0 b1 b2 b3 L1 L2
      obtain ⟨cp, hcp⟩ : ∃ cp, C p = cp := ⟨_, rfl⟩
      rw [hcp] at c2 hC
      cases i with
      | true =>
        go_wp2
        go_ret
        obtain ⟨hT, hx', hK, hdom', hfoot', hold⟩ := HK.out
        rw [addP_true] at hT
        exact ⟨rfl, t', { tree := by rw [Hi.out, addP_true]; exact hT, dom := hdom', old := hold, foot := hfoot', kp := hK }⟩
      | false =>
        go_wp2
        go_ret
        obtain ⟨hT, hx', hK, hdom', hfoot', hold⟩ := HK.out
        obtain ⟨hS, hK2⟩ := hT.sized hx' (cp + 1) (by have := H.out.2.2.1; omega)
        rw [← hcp, addP_next] at hS
        exact ⟨rfl, t', { tree := by rw [Hi.out]; rw [← hcp]; exact hS, dom := hdom', old := hold, foot := hfoot', kp := by rw [← hcp] at hK2 ⊢; exact hK.trans' hK2 fun k hk hf => (hfoot' k hf).resolve_right (Nat.not_le.2 hk) }⟩
/-- put: at any branch. -/
theorem put_any (n : Txt) (s : Sb) (hn : n.length ≤ maxLen) (hle : ∀ q, C q < 5000) : ∀ (ls p : Pth) (t : Tr) (x : Nd) (w : World) (B off k : Nat), TreeAt w t En C gs → t p = some x → (p ++ ls, n) ∈ gs → (∀ l ∈ ls, l.length ≤ maxLen) → B < w.heap.size → ¬ Foot t B → ls.length ≤ k → k ≤ 9223372036854775807 → LvAt w B off ls →
    Calls Tryd.prog 30 #[.pointer (some ⟨x.b, 0, none⟩), .slice (some ⟨B, off, none⟩) ls.length k, .string (str n), sbV s] w fun e w' => PutPost w t En C gs p (p ++ ls) n s e w'
  | [], p, t, x, w, B, off, k, h, hx, hg, _, _, _, _, _, _ => by
    rw [List.append_nil] at hg ⊢
    refine (put_here h hx _ _ n s hn hg (hle p)).mono ?_
    rintro e w' ⟨rfl, hT, hK⟩
    exact ⟨rfl, t, { tree := by rw [addP_same]; exact hT, dom := fun q => ⟨.inl, fun h => h.elim id fun h => by rw [pre_anti h.1 h.2, hx]; rfl⟩, old := fun q y hy => hy, foot := fun k hk => .inl hk, kp := hK }⟩
  | l :: ls, p, t, x, w, B, off, k, h, hx, hg, hls, hB, hBF, hk, hk2, hlv => by
    have hlvW : ∀ (W : World) (off' : Nat), (1 ≤ ls.length → off' = off + 1) → W.heap[B]? = w.heap[B]? → LvAt W B off' ls := fun W off' ho hb => by
      cases ls with
      | nil => intro j x hj; cases hj
      | cons m ls => rw [ho (by simp)]; exact hlv.tl.block hb
    have hg' : (p ++ [l] ++ ls, n) ∈ gs := by rw [List.append_assoc]; exact hg
    cases hy : t (p ++ [l]) with
    | some y =>
      refine put_next h hx B off k ls.length l n ls hy (hls l (by simp)) hB hk hk2 (hlv 0 l rfl) s (hle p) fun W off' ho hb => ?_
      have := put_any n s hn hle ls (p ++ [l]) t y W B off' (k - 1) (h.below hb) hy hg' (fun m hm => hls m (by simp [hm])) (Nat.lt_of_lt_of_le hB hb.size) hBF (by simp at hk; omega) (by omega) (hlvW W off' ho (hb.block B hB))
      rw [List.append_assoc] at this
      exact this
    | none =>
      refine put_new h hx B off k ls.length l n ls hy (hls l (by simp)) hB hBF hk hk2 (hlv 0 l rfl) s (hle p) ⟨_, hg, ⟨ls, by simp⟩⟩ fun W y off' ho hb hB2 hBF2 hT => ?_
      have := put_any n s hn hle ls (p ++ [l]) _ y W B off' (k - 1) hT (by unfold putN; rw [if_pos rfl]) hg' (fun m hm => hls m (by simp [hm])) hB2 hBF2 (by simp at hk; omega) (by omega) (hlvW W off' ho hb)
      rw [List.append_assoc] at this
      exact this
end Go.Proofs.YtjedffjfjgffeaaDoor
