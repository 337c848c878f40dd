/- Layer 7: the document's space: Lasts, Of, Same. -/
import Derived.Test.YtmjjgdoekblelaaSpT
namespace Go.Proofs.Ytmjjgdoekblelaa
open Go.RowKit

def lq (q : Nat) : Nat := if q = 2 then 1 else if q = 3 then 4 else q
def lastsUpto (l : List Nat) (k : Nat) : List Nat := (List.range l.length).map fun i => if 2 ≤ i ∧ i < k then lq (l[i]?.getD 0) else l[i]?.getD 0
def GSp.lasts (g : GSp) : GSp := { g with now := lastsUpto g.now g.now.length, last := lastsUpto g.now g.now.length }
theorem lastsUpto_len (l : List Nat) (k : Nat) : (lastsUpto l k).length = l.length := by simp [lastsUpto]
theorem lastsUpto_get (l : List Nat) (k : Nat) {i : Nat} (hi : i < l.length) : (lastsUpto l k)[i]?.getD 0 = if 2 ≤ i ∧ i < k then lq (l[i]?.getD 0) else l[i]?.getD 0 := by
  simp [lastsUpto, hi]
theorem list_ext {l m : List Nat} (hl : l.length = m.length) (h : ∀ i, i < l.length → l[i]?.getD 0 = m[i]?.getD 0) : l = m := by
  apply List.ext_getElem hl
  intro i h1 h2
  have := h i h1
  rw [List.getElem?_eq_getElem h1, List.getElem?_eq_getElem h2] at this
  exact this
theorem lastsUpto_two (l : List Nat) : lastsUpto l 2 = l := list_ext (lastsUpto_len l 2) (fun i hi => by
  rw [lastsUpto_len] at hi
  rw [lastsUpto_get l 2 hi, if_neg (by omega)])
theorem lastsUpto_end {l : List Nat} {k : Nat} (h : l.length ≤ k) : lastsUpto l k = lastsUpto l l.length := list_ext (by rw [lastsUpto_len, lastsUpto_len]) (fun i hi => by
  rw [lastsUpto_len] at hi
  rw [lastsUpto_get l k hi, lastsUpto_get l _ hi]
  by_cases h2 : 2 ≤ i
  · rw [if_pos ⟨h2, by omega⟩, if_pos ⟨h2, hi⟩]
  · rw [if_neg (by omega), if_neg (by omega)])
theorem lastsUpto_set (l : List Nat) {k : Nat} (h2 : 2 ≤ k) (hk : k < l.length) : (lastsUpto l k).set k (lq (l[k]?.getD 0)) = lastsUpto l (k + 1) := list_ext (by rw [List.length_set, lastsUpto_len, lastsUpto_len]) (fun i hi => by
  rw [List.length_set, lastsUpto_len] at hi
  rw [lastsUpto_get l _ hi]
  by_cases hik : i = k
  · subst hik
    rw [List.getElem?_set_self (by rw [lastsUpto_len]; exact hk), if_pos (by omega)]; rfl
  · rw [List.getElem?_set_ne (by omega), lastsUpto_get l _ hi]
    by_cases h : 2 ≤ i ∧ i < k
    · rw [if_pos h, if_pos (by omega)]
    · rw [if_neg h, if_neg (by omega)])
theorem lastsUpto_same (l : List Nat) {k : Nat} (h2 : 2 ≤ k) (hk : k < l.length) (hq : lq (l[k]?.getD 0) = l[k]?.getD 0) : lastsUpto l (k + 1) = lastsUpto l k := list_ext (by rw [lastsUpto_len, lastsUpto_len]) (fun i hi => by
  rw [lastsUpto_len] at hi
  rw [lastsUpto_get l _ hi, lastsUpto_get l _ hi]
  by_cases hik : i = k
  · subst hik; rw [if_pos (by omega), if_neg (by omega), hq]
  · by_cases h : 2 ≤ i ∧ i < k
    · rw [if_pos h, if_pos (by omega)]
    · rw [if_neg h, if_neg (by omega)])
theorem TwoRows.setOwn {w0 w : World} {S g : Nat} {x : Array Value} (h : TwoRows w0 w S x) (hg : S + 2 ≤ g) (o : Nat) (u : Value) : TwoRows w0 (w.setCell ⟨g, o, none⟩ u) S x :=
  h.far ((Below.refl _ _).setCell (p := ⟨g, o, none⟩) hg u)
theorem TwoRows.set2 {w0 w : World} {S : Nat} {x0 x1 x2 : Value} (h : TwoRows w0 w S #[x0, x1, x2]) (v : Value) : TwoRows w0 (w.setCell ⟨S, 2, none⟩ v) S #[x0, x1, v] :=
  ⟨h.below.setCell (p := ⟨S, 2, none⟩) (Nat.le_refl _) v, heap_setCell_same w S 2 _ _ v h.box, (Below.heap_setCell w ⟨S, 2, none⟩ v (S + 1) (by show S + 1 ≠ S; omega)).trans h.res⟩
set_option maxRecDepth 100000 in
set_option maxHeartbeats 2000000 in
theorem glasts_any (g : GSp) (a1 a2 : Option Addr) (c1 c2 : Nat) (w : World) (h : IsG w a1 c1 a2 c2 g) :
    Calls Try.prog 29 #[gval g.most a1 g.now.length c1 a2 g.last.length c2] w fun e w' => ∃ v, e = .returned v ∧ GOut w g.lasts v w' := by
  obtain ⟨S, hS⟩ : ∃ S, w.heap.size = S := ⟨_, rfl⟩
  have hT := TwoRows.start w #[.int .i64 g.most, .slice a1 g.now.length c1, .slice a2 g.last.length c2]
  rw [hS] at hT
  have hsz : ((w.alloc (.cells #[.int .i64 g.most, .slice a1 g.now.length c1, .slice a2 g.last.length c2] 40)).alloc (.cells #[.int .i64 0, .slice none 0 0, .slice none 0 0] 40)).heap.size = S + 2 := by simp [hS]
  have HH := Lib.hid h
  have HS := Lib.hid hS
  have HT := Lib.hid hT
  have HZ := Lib.hid hsz
  unfold gval
  clear h hS hT hsz
  go_enter Try.func29, Try.ntmps29
  go_wp2_with (at_builtin; refine stop_here ?_)
  refine Lib.hid ?_
  rw [HS.out]
  have hT := HT.out
  have hz := HZ.out
  generalize ((w.alloc (.cells #[.int .i64 g.most, .slice a1 g.now.length c1, .slice a2 g.last.length c2] 40)).alloc (.cells #[.int .i64 0, .slice none 0 0, .slice none 0 0] 40)) = w2 at hT hz ⊢
  have hG2 := HH.out.below (by rw [HS.out]; exact hT.below)
  obtain ⟨v', w3, hrun, hO, hb3⟩ := copy_nats w2 38 (S + 2) (by omega) a1 c1 g.now hG2.no1 hG2.le1 hG2.few1 hG2.now_
  obtain ⟨a', c', rfl, -, -, -⟩ := ownN_lies hO
  have hT3 := hT.far (hb3.mono (by omega))
  have hT4 := hT3.set1 (.slice a' g.now.length c')
  obtain ⟨s0, s1, s2, sf, -⟩ := hT3.cells
  have hO4 := ownN_other hO ⟨S, 1, none⟩ (.slice a' g.now.length c') (by
    intro e
    have := (World.ownsRow.lt hO _ e).1
    simp at this; omega)
  have hfw := hG2.few1
  have hz4 : S + 2 ≤ w3.heap.size := by have := hb3.size; omega
  refine wpList_append_val rfl rfl rfl rfl hrun ?_
  have HT4 := Lib.hid hT4
  have HO4 := Lib.hid hO4
  clear hrun hO hT hT3 hT4 hO4 hG2 hb3 hz HT HZ
  go_wp2_with fail
  generalize World.setCell w3 ⟨S, 1, none⟩ (.slice a' g.now.length c') = w4 at HT4 HO4 ⊢
  clear s0 s1 s2 sf
  obtain ⟨n, hn⟩ : ∃ n, g.now.length = n := ⟨_, rfl⟩
  rw [hn]
  obtain ⟨X, hX⟩ : ∃ X, g.now = X := ⟨_, rfl⟩
  have hHX : Hid (g.lasts = { g with now := lastsUpto X X.length, last := lastsUpto X X.length }) := Lib.hid (by unfold GSp.lasts; rw [hX])
  rw [hX] at hn HO4 hfw HT4
  rw [hn] at HT4 HO4 hfw
  have HN := Lib.hid hn
  have HZ4 := Lib.hid (And.intro hz4 hfw)
  clear hz4 hfw hX
  clear hn
  go_loopw [3, 8, 9, 10, 11, 12, 13, 14, 15, 16, 17, 18, 19, 20, 21, 22, 23, 24, 25, 26, 27, 28, 29, 30, 31, 32, 33, 34] (fun x _ _ _ _ _ _ _ _ _ _ _ _ _ _ _ _ _ _ _ _ _ _ _ _ _ _ _ wr => ∃ k : Nat, x = .int .i64 k ∧ 2 ≤ k ∧ (k ≤ n ∨ k = 2) ∧ Hid (OwnN wr (S + 2) (.slice a' n c') (lastsUpto X k)) ∧ Hid (TwoRows w wr S #[.int .i64 g.most, .slice a' n c', .slice a2 g.last.length c2]))
    (fun x _ _ _ _ _ _ _ _ _ _ _ _ _ _ _ _ _ _ _ _ _ _ _ _ _ _ _ _ => n - (intOf x).toNat)
  case atStart => exact ⟨2, rfl, Nat.le_refl _, .inr rfl, Lib.hid (by rw [lastsUpto_two]; exact HO4.out), HT4⟩
  case round =>
    obtain ⟨k, rfl, hk2, hk, HO, HT⟩ := hrel
    by_cases hlt : k < n
    · obtain ⟨gb, cap, ev, hgb, hgl, hgc⟩ := ownN_some HO.out (by rw [lastsUpto_len, HN.out]; omega)
      injection ev with e1 e2 e3
      subst e1; subst e3
      obtain ⟨s0, s1, s2, sf, -⟩ := HT.out.cells
      have hO := HO.out
      rw [show n = (lastsUpto X k).length from by rw [lastsUpto_len, HN.out]] at hO
      have hck := ownN_cell hO (k := k) (by rw [lastsUpto_len, HN.out]; exact hlt)
      have hfk := ownN_frozen hO k
      have hget : (lastsUpto X k)[k]?.getD 0 = X[k]?.getD 0 := by
        rw [lastsUpto_get X k (by rw [HN.out]; exact hlt), if_neg (by omega)]
      rw [hget] at hck
      have hgS : S + 2 ≤ gb := hgb
      have hk5 : k < 5000 := by have := HZ4.out.2; have := HN.out; omega
      clear e2
      have hset : Hid ((lastsUpto X k).set k (lq (X[k]?.getD 0)) = lastsUpto X (k + 1)) := Lib.hid (lastsUpto_set X hk2 (by rw [HN.out]; exact hlt))
      have hsame : Hid (lq (X[k]?.getD 0) = X[k]?.getD 0 → lastsUpto X (k + 1) = lastsUpto X k) := Lib.hid (lastsUpto_same X hk2 (by rw [HN.out]; exact hlt))
      clear hO hget hk
      generalize X[k]?.getD 0 = q at hck hset hsame
      by_cases h2 : q = 2
      · subst h2
        go_wp2
        go_roundw
        case rel =>
          refine ⟨k + 1, by go_num, by omega, .inl (by omega), Lib.hid ?_, Lib.hid (HT.out.setOwn hgS k (.int .i64 1))⟩
          rw [← hset.out]
          exact ownN_set HO.out k 1
        case measure => simp [intOf]; omega
      · by_cases h3 : q = 3
        · subst h3
          go_wp2
          go_roundw
          case rel =>
            refine ⟨k + 1, by go_num, by omega, .inl (by omega), Lib.hid ?_, Lib.hid (HT.out.setOwn hgS k (.int .i64 4))⟩
            rw [← hset.out]
            exact ownN_set HO.out k 4
          case measure => simp [intOf]; omega
        · have n2 : ((q : Int) == 2) = false := by simp; omega
          have n3 : ((q : Int) == 3) = false := by simp; omega
          have hq : lq q = q := by unfold lq; rw [if_neg h2, if_neg h3]
          have HQ := Lib.hid hq
          clear hq h2 h3
          go_wp2
          go_roundw
          case rel => exact ⟨k + 1, by go_num, by omega, .inl (by omega), Lib.hid (by rw [hsame.out HQ.out]; exact HO.out), HT⟩
          case measure => simp [intOf]; omega
    · obtain ⟨s0, s1, s2, sf, r0, r1, r2, q0, q1, q2⟩ := HT.out.cells
      have sf2 := frozen_of_row wr S 2 _ _ HT.out.box
      have hend : lastsUpto X k = lastsUpto X X.length := lastsUpto_end (by rw [HN.out]; omega)
      have HEnd := Lib.hid hend
      clear hend
      go_wp2
      have hlen : (lastsUpto X X.length).length = n := by rw [lastsUpto_len, HN.out]
      have hO := HO.out
      rw [HEnd.out] at hO
      have hT1 := HT.out.set2 (.slice a' n c')
      have hO1 := ownN_other hO ⟨S, 2, none⟩ (.slice a' n c') (by
        intro e
        have := (World.ownsRow.lt hO _ e).1
        simp at this; omega)
      rw [hHX.out]
      generalize lastsUpto X X.length = Y at hlen hO1
      subst hlen
      obtain ⟨a3, c3, ev, hN, hno, hle⟩ := ownN_lies hO1
      cases ev
      have hY5 : Y.length ≤ 5000 := by have := HZ4.out.2; have := HN.out; omega
      have hG : IsG (wr.setCell ⟨S, 2, none⟩ (.slice a' Y.length c')) a' c' a' c' { g with now := Y, last := Y } := ⟨hN, hN, hno, hno, hle, hle, hY5, hY5⟩
      obtain ⟨hr, hout⟩ := hT1.fin HS.out hG
      refine bodyPost_ret (results_cell_row rfl _ _ (S + 1) 40 _ (0, 0) _ rfl hr Try.underlying40 rfl (by kernel_rfl)) rfl ?_
      exact ⟨_, rfl, hout⟩
end Go.Proofs.Ytmjjgdoekblelaa
