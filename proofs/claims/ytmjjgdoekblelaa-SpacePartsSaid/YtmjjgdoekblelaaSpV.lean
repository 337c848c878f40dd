/- Layer 7: the document's space: Of. -/
import Derived.Test.YtmjjgdoekblelaaSpU
namespace Go.Proofs.Ytmjjgdoekblelaa
open Go.RowKit

def ofUpto (l : List Nat) (a b k : Nat) : List Nat := (List.range' 2 (k - 2)).filter fun n => l[n]?.getD 0 == a || l[n]?.getD 0 == b
def GSp.of (g : GSp) (a b : Nat) : List Nat := ofUpto g.now a b g.now.length
theorem ofUpto_succ (l : List Nat) (a b : Nat) {k : Nat} (hk : 2 ≤ k) : ofUpto l a b (k + 1) = ofUpto l a b k ++ if l[k]?.getD 0 == a || l[k]?.getD 0 == b then [k] else [] := by
  unfold ofUpto
  have e : k + 1 - 2 = (k - 2) + 1 := by omega
  rw [e, List.range'_concat, List.filter_append, show 2 + 1 * (k - 2) = k by omega]
  congr 1
  rw [List.filter_cons, List.filter_nil]
theorem ofUpto_len (l : List Nat) (a b k : Nat) : (ofUpto l a b k).length ≤ k - 2 := by
  have := List.length_filter_le (fun n => l[n]?.getD 0 == a || l[n]?.getD 0 == b) (List.range' 2 (k - 2))
  rwa [List.length_range'] at this
theorem ofUpto_low (l : List Nat) (a b : Nat) {k : Nat} (hk : k ≤ 2) : ofUpto l a b k = [] := by
  unfold ofUpto; rw [show k - 2 = 0 by omega]; rfl
/-- A row of pages that the call made. -/
def OwnP (w : World) (base : Nat) (v : Value) (l : List Nat) : Prop := w.ownsRow base 2 1 v l.length (natVals l)
theorem snoc_nums (w : World) (ty : TypeId) (base : Nat) (hb : base ≤ w.heap.size) (v : Value) (l : List Nat) (q : Nat) (hO : OwnP w base v l) (hf : l.length ≤ 5000) (g c : Nat) (hx : w.cell? ⟨g, 0, none⟩ = some (.int .i64 q)) :
    ∃ v' w', (Builtin.append_ #[23, 23] ty #[v, .slice (some ⟨g, 0, none⟩) 1 c]).run Try.prog w = .ok v' w' ∧ OwnP w' base v' (l ++ [q]) ∧ Below base w w' := by
  obtain ⟨i0, hi, hz0, hz1, hz2⟩ := info_parts infoI64
  obtain ⟨v', w', hr, h2, h3, -, -⟩ := run_append_own_at (P := Try.prog) w base 23 ty 2 i0 _ 1 8 Try.underlying23 hi hz0 hz1 hz2 rfl (by decide) v l.length (natVals l) hO ⟨g, 0, none⟩ 1 c [.int .i64 q] rfl (fun j u hu => by
    have hj : j = 0 := by have := (List.getElem?_eq_some_iff.1 hu).1; simp at this; omega
    subst hj
    rw [addr_add]; simp at hu; subst hu; exact hx) (by simp [Value.oneCell']) (by unfold maxLen; omega) (by omega) hb
  refine ⟨v', w', hr, by unfold OwnP; simpa [natVals] using h2, (Below.refl _ _).grown h3 hb (fun k e => (World.ownsRow.lt hO k e).1)⟩
theorem ownP_below {w w' : World} {base : Nat} {v : Value} {l : List Nat} (h : OwnP w base v l) (hb : Below w.heap.size w w') : OwnP w' base v l :=
  World.ownsRow.kept h (row := none) ⟨hb.os, hb.tape, hb.output, hb.size, fun i hi _ => hb.block i hi⟩ (by cases v.ownBlock <;> simp)
set_option maxRecDepth 100000 in
set_option maxHeartbeats 2000000 in
theorem gof_any (g : GSp) (a1 a2 : Option Addr) (c1 c2 : Nat) (w : World) (h : IsG w a1 c1 a2 c2 g) (a b : Nat) :
    Calls Try.prog 34 #[gval g.most a1 g.now.length c1 a2 g.last.length c2, .int .i64 a, .int .i64 b] w fun e w' => NumsPost w (g.of a b) e w' := by
  obtain ⟨S, hS⟩ : ∃ S, w.heap.size = S := ⟨_, rfl⟩
  obtain ⟨w2, hw2⟩ : ∃ w2, w.alloc (.cells #[.int .i64 g.most, .slice a1 g.now.length c1, .slice a2 g.last.length c2] 40) = w2 := ⟨_, rfl⟩
  have hb : Below S w w2 := by rw [← hw2, ← hS]; exact (Below.refl _ w).alloc (Nat.le_refl _) _
  have hrow : w2.heap[S]? = some (.cells #[.int .i64 g.most, .slice a1 g.now.length c1, .slice a2 g.last.length c2] 40 (0, 0)) := by
    rw [← hw2, ← hS]; exact (MapKept.heap_alloc w _).1
  have hsz : w2.heap.size = S + 1 := by rw [← hw2, ← hS]; simp
  have s1 := cell_of_row w2 S 1 _ _ _ hrow
  simp only [List.getElem?_toArray, List.getElem?_cons_zero, List.getElem?_cons_succ] at s1
  have hG := (h.below (by rw [hS]; exact hb)).now_
  rw [hsz] at hG
  have hfew := h.few1
  have HS := Lib.hid hS
  have HW := Lib.hid hw2
  have HB := Lib.hid hb
  have HZ := Lib.hid hsz
  have HG := Lib.hid hG
  have HC := Lib.hid s1
  obtain ⟨X, hX⟩ : ∃ X, g.now = X := ⟨_, rfl⟩
  have HO : Hid (g.of a b = ofUpto X a b X.length) := Lib.hid (by unfold GSp.of; rw [hX])
  obtain ⟨n, hn⟩ : ∃ n, X.length = n := ⟨_, rfl⟩
  rw [hX] at HG HC HW hfew
  rw [hX]
  rw [hn] at HC HW hfew
  rw [hn]
  have HN := Lib.hid hn
  have HF := Lib.hid hfew
  unfold gval
  clear h hS hb hrow hsz hG hX hn s1 hw2 hfew
  go_enter Try.func34, Try.ntmps34
  go_wp2_with fail
  rw [HS.out, HW.out]
  go_loopw [7, 8, 9, 10, 11, 12, 13, 14, 15, 16, 17, 18, 19, 20, 21, 22, 23, 24, 25, 26, 27, 28, 29, 30, 31, 32, 33, 34, 35] (fun x y _ _ _ _ _ _ _ _ _ _ _ _ _ _ _ _ _ _ _ _ _ _ _ _ _ _ _ wr => ∃ k : Nat, y = .int .i64 k ∧ 2 ≤ k ∧ (k ≤ n ∨ k = 2) ∧ Hid (OwnP wr (S + 1) x (ofUpto X a b k)) ∧ Hid (Below (S + 1) w2 wr))
    (fun _ y _ _ _ _ _ _ _ _ _ _ _ _ _ _ _ _ _ _ _ _ _ _ _ _ _ _ _ _ => n - (intOf y).toNat)
  case atStart => exact ⟨2, rfl, Nat.le_refl _, .inr rfl, Lib.hid (by rw [ofUpto_low _ _ _ (Nat.le_refl _)]; exact World.ownsRow_nil _ _ _ _), Lib.hid (Below.refl _ _)⟩
  case round =>
    obtain ⟨k, rfl, hk2, hk, HR, HB2⟩ := hrel
    obtain ⟨rv, rc, hrs⟩ := row_slice HR.out
    subst hrs
    have s1 := (HB2.out.cell (p := ⟨S, 1, none⟩) (Nat.lt_succ_self _)).trans HC.out
    by_cases hlt : k < n
    · obtain ⟨gb, off, ea, hlt2, -, hcs⟩ := HG.out (by intro e; have := HN.out; rw [e] at this; simp at this; omega)
      subst ea
      have hck := (HB2.out.cell (p := ⟨gb, off + k, none⟩) hlt2).trans (hcs k (by rw [HN.out]; exact hlt))
      have hsucc := Lib.hid (ofUpto_succ X a b hk2)
      have hk5 : k < 5000 := by have := HF.out; omega
      have hlen : Hid ((ofUpto X a b k).length ≤ 5000) := Lib.hid (by have := ofUpto_len X a b k; omega)
      clear hcs hk
      generalize X[k]?.getD 0 = q at hck hsucc
      generalize ofUpto X a b k = U at HR hsucc hlen
      by_cases ha : q = a
      · have na : ((q : Int) == a) = true := by simp [ha]
        have hin : Hid (ofUpto X a b (k + 1) = U ++ [k]) := Lib.hid (by rw [hsucc.out, if_pos (by simp [ha])])
        clear hsucc
        go_wp2_with (at_builtin; refine stop_here ?_)
        refine Lib.hid ?_
        have hz := HZ.out
        have hzw := HB2.out.size
        obtain ⟨v', w', hr, hO', hB'⟩ := snoc_nums (wr.alloc (.cells #[.int .i64 k] 2)) 23 (S + 1) (by simp; omega) _ U k (ownP_below HR.out ((Below.refl wr.heap.size wr).alloc (Nat.le_refl _) (.cells #[.int .i64 k] 2))) hlen.out wr.heap.size 1 (Boxed.new wr _ _).cell
        have HO' := Lib.hid hO'
        have HB' := Lib.hid ((HB2.out.alloc (by omega) (.cells #[.int .i64 k] 2)).trans hB')
        refine wpList_append_val rfl rfl rfl rfl hr ?_
        clear hr hO' hB' hz hzw
        go_wp2
        go_roundw
        case rel => exact ⟨k + 1, by go_num, by omega, .inl (by omega), Lib.hid (by rw [hin.out]; exact HO'.out), HB'⟩
        case measure => simp [intOf]; omega
      · have na : ((q : Int) == a) = false := by simp; omega
        by_cases hb : q = b
        · have nb : ((q : Int) == b) = true := by simp [hb]
          have hin : Hid (ofUpto X a b (k + 1) = U ++ [k]) := Lib.hid (by rw [hsucc.out, if_pos (by simp [hb])])
          clear hsucc
          go_wp2_with (at_builtin; refine stop_here ?_)
          refine Lib.hid ?_
          have hz := HZ.out
          have hzw := HB2.out.size
          obtain ⟨v', w', hr, hO', hB'⟩ := snoc_nums (wr.alloc (.cells #[.int .i64 k] 2)) 23 (S + 1) (by simp; omega) _ U k (ownP_below HR.out ((Below.refl wr.heap.size wr).alloc (Nat.le_refl _) (.cells #[.int .i64 k] 2))) hlen.out wr.heap.size 1 (Boxed.new wr _ _).cell
          have HO' := Lib.hid hO'
          have HB' := Lib.hid ((HB2.out.alloc (by omega) (.cells #[.int .i64 k] 2)).trans hB')
          refine wpList_append_val rfl rfl rfl rfl hr ?_
          clear hr hO' hB' hz hzw
          go_wp2
          go_roundw
          case rel => exact ⟨k + 1, by go_num, by omega, .inl (by omega), Lib.hid (by rw [hin.out]; exact HO'.out), HB'⟩
          case measure => simp [intOf]; omega
        · have nb : ((q : Int) == b) = false := by simp; omega
          have hin : Hid (ofUpto X a b (k + 1) = U) := Lib.hid (by rw [hsucc.out, if_neg (by simp [ha, hb]), List.append_nil])
          clear hsucc
          go_wp2
          go_roundw
          case rel => exact ⟨k + 1, by go_num, by omega, .inl (by omega), Lib.hid (by rw [hin.out]; exact HR.out), HB2⟩
          case measure => simp [intOf]; omega
    · have hend : Hid (g.of a b = ofUpto X a b k) := Lib.hid (by
        rw [HO.out]
        have := HN.out
        rcases hk with hk | hk
        · rw [show X.length = k by omega]
        · rw [ofUpto_low X a b (by omega : X.length ≤ 2), ofUpto_low X a b (by omega : k ≤ 2)])
      generalize ofUpto X a b k = U at HR hend
      clear hk
      go_wp2
      go_ret
      rw [hend.out]
      have hz := HZ.out
      refine ⟨_, rfl, row_mono HR.out (by rw [HS.out]; omega), by rw [HS.out]; exact HB.out.trans (HB2.out.mono (by omega))⟩
end Go.Proofs.Ytmjjgdoekblelaa
