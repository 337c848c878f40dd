/- Layer 7: the document's space: Take. -/
import Derived.Test.YtmjjgdoekblelaaSpS
namespace Go.Proofs.Ytmjjgdoekblelaa
open Go.RowKit

theorem find_range {P : Nat → Bool} : ∀ {n a k : Nat}, (∀ j, a ≤ j → j < k → P j = false) → P k = true → a ≤ k → k < a + n → (List.range' a n).find? P = some k
  | 0, a, k, _, _, h1, h2 => by omega
  | n + 1, a, k, h, hk, h1, h2 => by
    rw [List.range'_succ]
    by_cases hak : a = k
    · subst hak; simp [hk]
    · rw [List.find?_cons_of_neg (by rw [h a (Nat.le_refl _) (by omega)]; decide)]
      exact find_range (fun j hj hjk => h j (by omega) hjk) hk (by omega) (by omega)
def GSp.free (g : GSp) : Option Nat := (List.range' 2 (g.now.length - 2)).find? fun n => g.now[n]?.getD 0 == 4
def GSp.take (g : GSp) : GSp × Nat × Nat := match g.free with
  | some n => (g.put n 2, n, 0)
  | none => if g.most ≤ g.now.length then (g, 0, 170) else ({ g with now := g.now ++ [2] }, g.now.length, 0)
theorem snoc_nats (w : World) (ty : TypeId) (base : Nat) (hb : base ≤ w.heap.size) (v : Value) (l : List Nat) (q : Nat) (hO : OwnN w base v l) (hf : l.length ≤ 5000) (g c : Nat) (hx : w.cell? ⟨g, 0, none⟩ = some (.int .i64 q)) :
    ∃ v' w', (Builtin.append_ #[38, 38] ty #[v, .slice (some ⟨g, 0, none⟩) 1 c]).run Try.prog w = .ok v' w' ∧ OwnN w' base v' (l ++ [q]) ∧ Below base w w' := by
  obtain ⟨i0, hi, hz0, hz1, hz2⟩ := info_parts infoI
  obtain ⟨v', w', hr, h2, h3, -, -⟩ := run_append_own_at (P := Try.prog) w base 38 ty 3 i0 _ 1 8 Try.underlying38 hi hz0 hz1 hz2 rfl (by decide) v l.length (natVals l) hO ⟨g, 0, none⟩ 1 c [.int .i64 q] rfl (fun j u hu => by
    have hj : j = 0 := by have := (List.getElem?_eq_some_iff.1 hu).1; simp at this; omega
    subst hj
    rw [addr_add]; simp at hu; subst hu; exact hx) (by simp [Value.oneCell']) (by unfold maxLen; omega) (by omega) hb
  refine ⟨v', w', hr, by unfold OwnN; simpa [natVals] using h2, (Below.refl _ _).grown h3 hb (fun k e => (World.ownsRow.lt hO k e).1)⟩
theorem TwoRows.far {w0 w w' : World} {S : Nat} {x : Array Value} (h : TwoRows w0 w S x) (hb : Below (S + 2) w w') : TwoRows w0 w' S x :=
  ⟨h.below.trans (hb.mono (by omega)), (hb.block S (by omega)).trans h.box, (hb.block _ (by omega)).trans h.res⟩
theorem TwoRows.set1 {w0 w : World} {S : Nat} {x0 x1 x2 : Value} (h : TwoRows w0 w S #[x0, x1, x2]) (v : Value) : TwoRows w0 (w.setCell ⟨S, 1, none⟩ v) S #[x0, v, x2] :=
  ⟨h.below.setCell (p := ⟨S, 1, none⟩) (Nat.le_refl _) v, heap_setCell_same w S 1 _ _ v h.box, (Below.heap_setCell w ⟨S, 1, none⟩ v (S + 1) (by show S + 1 ≠ S; omega)).trans h.res⟩
set_option maxRecDepth 100000 in
set_option maxHeartbeats 2000000 in
theorem gtake_any (g : GSp) (a1 a2 : Option Addr) (c1 c2 : Nat) (w : World) (h : IsG w a1 c1 a2 c2 g) (hsm : g.now.length ≤ 4999) :
    Calls Try.prog 27 #[gval g.most a1 g.now.length c1 a2 g.last.length c2] w fun e w' => ∃ v, e = .returned (.tuple #[v, .int .i64 (g.take.2.1 : Nat), .int .i64 (g.take.2.2 : Nat)]) ∧ GOut w g.take.1 v w' := by
  obtain ⟨S, hS⟩ : ∃ S, w.heap.size = S := ⟨_, rfl⟩
  have hT := TwoRows.start w #[.int .i64 g.most, .slice a1 g.now.length c1, .slice a2 g.last.length c2]
  rw [hS] at hT
  have hsz : ((w.alloc (.cells #[.int .i64 g.most, .slice a1 g.now.length c1, .slice a2 g.last.length c2] 40)).alloc (.cells #[.int .i64 0, .slice none 0 0, .slice none 0 0] 40)).heap.size = S + 2 := by simp [hS]
  have HH := Lib.hid h
  have HS := Lib.hid hS
  have HT := Lib.hid hT
  have HZ := Lib.hid hsz
  unfold gval
  clear h hS hT hsz
  go_enter Try.func27, Try.ntmps27
  go_wp2_with fail
  rw [HS.out]
  have hT := HT.out
  have hz := HZ.out
  generalize ((w.alloc (.cells #[.int .i64 g.most, .slice a1 g.now.length c1, .slice a2 g.last.length c2] 40)).alloc (.cells #[.int .i64 0, .slice none 0 0, .slice none 0 0] 40)) = w2 at hT hz ⊢
  obtain ⟨s0, s1, s2, sf, r0, r1, r2, q0, q1, q2⟩ := hT.cells
  have hG2 := HH.out.below (by rw [HS.out]; exact hT.below)
  have HT2 := Lib.hid hT
  have HZ2 := Lib.hid hz
  have HG2 := Lib.hid hG2
  clear hT hz hG2 HT HZ
  go_loopw [5, 7, 8, 9, 10, 11, 12, 13, 14, 15, 16, 17, 18, 19] (fun x _ _ _ _ _ _ _ _ _ _ _ _ _ wr => ∃ k : Nat, x = .int .i64 k ∧ 2 ≤ k ∧ (k ≤ g.now.length ∨ k = 2) ∧ Hid (∀ j, 2 ≤ j → j < k → (g.now[j]?.getD 0 == 4) = false) ∧ wr = w2)
    (fun x _ _ _ _ _ _ _ _ _ _ _ _ _ _ => g.now.length - (intOf x).toNat)
  case atStart => exact ⟨2, rfl, Nat.le_refl _, .inr rfl, Lib.hid (fun j h1 h2 => by omega), rfl⟩
  case round =>
    obtain ⟨k, rfl, hk2, hk, hno, rfl⟩ := hrel
    by_cases hlt : k < g.now.length
    · obtain ⟨b, off, rfl, hb, -, hc⟩ := HG2.out.now_ (by intro e; rw [e] at hlt; simp at hlt)
      have hck := hc k hlt
      by_cases h4 : g.now[k]?.getD 0 = 4
      · rw [h4] at hck
        have et : g.take = (g.put k 2, k, 0) := by
          have : g.free = some k := find_range hno.out (by rw [h4]; rfl) hk2 (by omega)
          unfold GSp.take; rw [this]
        have HE := Lib.hid et
        clear hc h4 et hk
        go_wp2_with (go_at_call 37; refine (gwith_any g _ a2 c1 c2 _ HG2.out k 2 hlt).mono ?_; rintro e w4 ⟨v, rfl, b1, d1, b2, d2, rfl, hG4, hb4⟩; have HT4 := Lib.hid (HT2.out.step hb4); have HG4 := Lib.hid hG4; clear s0 s1 s2 r0 r1 r2 q0 q1 q2; obtain ⟨-, -, -, -, r0, r1, r2, q0, q1, q2⟩ := HT4.out.cells; clear hG4; unfold gval)
        obtain ⟨hr, hout⟩ := HT4.out.fin HS.out HG4.out
        refine bodyPost_ret (results_cell_tmps2 rfl _ _ (S + 1) 40 _ (0, 0) rfl hr Try.underlying40 (by kernel_rfl)) rfl ?_
        rw [HE.out]
        exact ⟨_, rfl, hout⟩
      · have hne : (((g.now[k]?.getD 0 : Nat) : Int) == 4) = false := by simp; omega
        have hno' : ∀ j, 2 ≤ j → j < k + 1 → (g.now[j]?.getD 0 == 4) = false := fun j h1 h2 => by
          by_cases hjk : j = k
          · subst hjk; simpa using h4
          · exact hno.out j h1 (by omega)
        have HN := Lib.hid hno'
        generalize g.now[k]?.getD 0 = q at hck hne
        clear hc h4 hno' hk
        go_wp2
        go_roundw
        case rel => exact ⟨k + 1, by go_num, by omega, .inl (by omega), HN, trivial⟩
        case measure => simp [intOf]; omega
    · have hfr : g.free = none := by
        unfold GSp.free
        rw [List.find?_eq_none]
        intro j hj
        have := List.mem_range'_1.1 hj
        rw [hno.out j this.1 (by omega)]; decide
      have HF := Lib.hid hfr
      clear hfr
      by_cases hm : g.most ≤ g.now.length
      · have et : g.take = (g, 0, 170) := by unfold GSp.take; rw [HF.out]; simp [hm]
        have HE := Lib.hid et
        clear et
        go_wp2
        obtain ⟨hr, hout⟩ := HT2.out.fin HS.out HG2.out
        refine bodyPost_ret (results_cell_tmps2 rfl _ _ (S + 1) 40 _ (0, 0) rfl hr Try.underlying40 (by kernel_rfl)) rfl ?_
        rw [HE.out]
        exact ⟨_, rfl, hout⟩
      · have et : g.take = ({ g with now := g.now ++ [2] }, g.now.length, 0) := by unfold GSp.take; rw [HF.out]; simp [hm]
        have HE := Lib.hid et
        clear et
        go_wp2_with (at_builtin; refine stop_here ?_)
        refine Lib.hid ?_
        have hz := HZ2.out
        obtain ⟨v', w3, hrun, hO, hb3⟩ := copy_nats wr 38 (S + 2) (by omega) a1 c1 g.now HG2.out.no1 HG2.out.le1 HG2.out.few1 HG2.out.now_
        refine wpList_append_val rfl rfl rfl rfl hrun ?_
        have HO := Lib.hid hO
        have HB3 := Lib.hid hb3
        clear hrun hO hb3 hz s0 s1 s2 sf r0 r1 r2 q0 q1 q2
        go_wp2_with (at_builtin; refine stop_here ?_)
        refine Lib.hid ?_
        have hz := HZ2.out
        have hz3 := HB3.out.size
        have hO4 := ownN_below HO.out ((Below.refl w3.heap.size w3).alloc (Nat.le_refl _) (.cells #[.int .i64 2] 3))
        obtain ⟨v5, w5, hrun5, hO5, hb5⟩ := snoc_nats (w3.alloc (.cells #[.int .i64 2] 3)) 38 (S + 2) (by simp; omega) v' g.now 2 hO4 (by omega) w3.heap.size 1 (Boxed.new w3 _ _).cell
        obtain ⟨Lx, hLx⟩ : ∃ Lx, g.now ++ [2] = Lx := ⟨_, rfl⟩
        have hlx : Lx.length = g.now.length + 1 := by rw [← hLx]; simp
        rw [hLx] at hO5
        have HLX := Lib.hid (And.intro hLx hlx)
        clear hLx
        obtain ⟨gb, cap, rfl, hgb, hgl, hgc⟩ := ownN_some hO5 (by omega)
        have hb25 : Below (S + 2) wr w5 := ((HB3.out.mono (by omega)).alloc (by omega) _).trans hb5
        have hT5 := HT2.out.far hb25
        obtain ⟨s0, s1, s2, sf, r0, r1, r2, q0, q1, q2⟩ := hT5.cells
        have HO5 := Lib.hid hO5
        have HT5 := Lib.hid hT5
        have HB5 := Lib.hid hb25
        refine wpList_append_val rfl rfl rfl rfl hrun5 ?_
        clear hlx hrun5 hO4 hO5 hb5 hT5 hb25 hz hz3
        go_wp2
        have hlx := HLX.out.2
        have hT6 := HT5.out.set1 (.slice (some ⟨gb, 0, none⟩) Lx.length cap)
        have hO6 := ownN_other HO5.out ⟨S, 1, none⟩ (.slice (some ⟨gb, 0, none⟩) Lx.length cap) (by simp [Value.ownBlock]; omega)
        have hw6 : (w5.setCell ⟨S, 1, none⟩ (.slice (some ⟨gb, 0, none⟩) Lx.length cap)).heap.size = w5.heap.size := by simp [World.setCell]
        have hL6 : NatsAt (w5.setCell ⟨S, 1, none⟩ (.slice (some ⟨gb, 0, none⟩) Lx.length cap)).heap.size (w5.setCell ⟨S, 1, none⟩ (.slice (some ⟨gb, 0, none⟩) Lx.length cap)) a2 g.last := by
          have h1 := HG2.out.last_
          rw [HZ2.out] at h1
          exact ((h1.below HB5.out).other HT5.out.box (by decide) 1 _).mono (by rw [hw6]; have := HB5.out.size; have := HZ2.out; omega)
        obtain ⟨a', c', ev, hN, hno', hle⟩ := ownN_lies hO6
        cases ev
        have hG6 : IsG (w5.setCell ⟨S, 1, none⟩ (.slice (some ⟨gb, 0, none⟩) Lx.length cap)) (some ⟨gb, 0, none⟩) cap a2 c2 { g with now := Lx } :=
          ⟨hN, hL6, hno', HG2.out.no2, hle, HG2.out.le2, by show Lx.length ≤ 5000; omega, HG2.out.few2⟩
        obtain ⟨hr, hout⟩ := hT6.fin HS.out hG6
        refine bodyPost_ret (results_cell_tmps2 rfl _ _ (S + 1) 40 _ (0, 0) rfl hr Try.underlying40 (by kernel_rfl)) rfl ?_
        rw [HE.out, HLX.out.1]
        exact ⟨_, rfl, hout⟩
end Go.Proofs.Ytmjjgdoekblelaa
