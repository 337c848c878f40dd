/- Layer 7: pages of some places, rising. -/
import Derived.Test.YtmjjgdoekblelaaSpD
namespace Go.Proofs.Ytmjjgdoekblelaa
open Go.RowKit Go.Shelf

attribute [local go_sem] Oper.semAt_some

/-- The pages from 2 on below k, each with what it is. -/
def pgL (h : Nat) (now : Pl) (k : Nat) : List (Nat × Nat) := (List.range' 2 (k - 2)).map fun j => (j, isP h now j)
theorem pgL_two (h : Nat) (now : Pl) : pgL h now 2 = [] := rfl
theorem pgL_succ (h : Nat) (now : Pl) {k : Nat} (hk : 2 ≤ k) : pgL h now (k + 1) = pgL h now k ++ [(k, isP h now k)] := by
  unfold pgL
  rw [show k + 1 - 2 = (k - 2) + 1 by omega, List.range'_1_concat, List.map_append]
  rw [show 2 + (k - 2) = k by omega]; rfl
theorem pgL_len (h : Nat) (now : Pl) (k : Nat) : (pgL h now k).length = k - 2 := by simp [pgL]
/-- Those of some places. -/
def ofL (ls : List Nat) (ps : List (Nat × Nat)) : List Nat := (ps.filter fun x => ls.contains x.2).map (·.1)
theorem ofL_hit {ls : List Nat} (ps : List (Nat × Nat)) {x : Nat × Nat} (h : ls.contains x.2 = true) : ofL ls (ps ++ [x]) = ofL ls ps ++ [x.1] := by
  simp only [ofL, List.filter_append, List.map_append]; rw [List.filter_cons_of_pos (p := fun x : Nat × Nat => ls.contains x.2) h]; rfl
theorem ofL_miss {ls : List Nat} (ps : List (Nat × Nat)) {x : Nat × Nat} (h : ls.contains x.2 = false) : ofL ls (ps ++ [x]) = ofL ls ps := by
  simp only [ofL, List.filter_append, List.map_append]; rw [List.filter_cons_of_neg (p := fun x : Nat × Nat => ls.contains x.2) (by rw [h]; decide)]; simp
theorem ofL_len (ls : List Nat) (ps : List (Nat × Nat)) : (ofL ls ps).length ≤ ps.length := by
  unfold ofL; rw [List.length_map]; exact List.length_filter_le _ _

/-- pages: what it is called on and the bound are boxed. -/
theorem pages_in (F : Fence) (n : Nat) (hf : F.fn 26) (hro : F.round = none) (sa : Option Addr) (e : Nat) (w : World) :
    CallsIn F n Try.prog 26 #[.pointer sa, .int .i64 e] w fun en w' => en = .returned (.func (.func 36) #[] #[.pointer (some ⟨w.heap.size + 1, 0, none⟩), .pointer (some ⟨w.heap.size, 0, none⟩)]) ∧
      (w.alloc (.cells #[.pointer sa] 26)).alloc (.cells #[.int .i64 e] 2) = w' := by
  refine callsIn_of_wp Try.func26 rfl hf ?_ hro
  simp only [Try.ntmps26, List.size_toArray, List.length_cons, List.length_nil, Nat.reduceAdd, Nat.reduceSub, Array.replicate_succ, Array.replicate_zero, List.push_toArray, List.append_toArray, List.nil_append, List.cons_append]
  gi_wp2
  go_ret
  exact ⟨by simp, rfl⟩
/-- What the iterator over pages reads: nothing but the bound, where there is no page. -/
structure PgAt (K : Nat → Prop) (W : World) (E S h e : Nat) (now : Pl) : Prop where
  kE : K E
  end_ : W.cell? ⟨E, 0, none⟩ = some (.int .i64 e)
  some_ : 2 < e → K S ∧ ∃ B bp m lh vl, W.cell? ⟨S, 0, none⟩ = some (ptr B) ∧ 0 < m ∧ SpRow W B lh vl m h bp ∧ IntMap Try.prog 2 W bp (plV now) ∧ K B ∧ K bp
theorem PgAt.keeps {W W' : World} {E S h e : Nat} {now : Pl} {K : Nat → Prop} (g : PgAt K W E S h e now) (hk : KeepsOn K W W') : PgAt K W' E S h e now :=
  ⟨g.kE, (hk.cell g.kE).trans g.end_, fun he => by
    obtain ⟨kS, B, bp, m, lh, vl, c, hm, r, i, kB, kp⟩ := g.some_ he
    exact ⟨kS, B, bp, m, lh, vl, (hk.cell kS).trans c, hm, (hk B kB).trans r, i.at_block (hk bp kp), kB, kp⟩⟩
theorem PgAt.mono {W : World} {E S h e : Nat} {now : Pl} {K K' : Nat → Prop} (g : PgAt K W E S h e now) (hk : ∀ k, K k → K' k) : PgAt K' W E S h e now :=
  ⟨hk _ g.kE, g.end_, fun he => by
    obtain ⟨kS, B, bp, m, lh, vl, c, hm, r, i, kB, kp⟩ := g.some_ he
    exact ⟨hk _ kS, B, bp, m, lh, vl, c, hm, r, i, hk _ kB, hk _ kp⟩⟩
set_option maxRecDepth 100000 in
set_option maxHeartbeats 2000000 in
theorem pages1_in (n : Nat) (hn : 1 ≤ n) (l E S h e : Nat) (now : Pl) (K : Nat → Prop) (hh : h ≤ 4096) (he : e ≤ 4096) (J Jx : List (Nat × Nat) → World → Prop)
    (hY : ∀ pre (x : Nat × Nat) W, J pre W → pre.length < e - 2 → YieldAt Fence.wide (n - 1) Try.prog l #[.int .i64 x.1, .int .i64 x.2] W fun en W' =>
      (en = .returned (.bool true) ∧ J (pre ++ [x]) W' ∧ KeepsOn K W W') ∨ (en = .returned (.bool false) ∧ Jx (pre ++ [x]) W'))
    (W : World) (g : PgAt K W E S h e now) (h0 : J [] W) :
    CallsIn Fence.wide n Try.prog 36 #[.func (.yield l) #[] #[], .pointer (some ⟨E, 0, none⟩), .pointer (some ⟨S, 0, none⟩)] W fun en W' => (∃ v, en = .returned v) ∧
      ((∃ ys, ys = pgL h now e ∧ J ys W') ∨ (∃ pre, (∃ k, 2 ≤ k ∧ k < e ∧ pre = pgL h now (k + 1)) ∧ Jx pre W')) := by
  refine callsIn_of_wp Try.func36 rfl trivial ?_ rfl
  simp only [Try.ntmps36, List.size_toArray, List.length_cons, List.length_nil, Nat.reduceAdd, Nat.reduceSub, Array.replicate_succ, Array.replicate_zero, List.push_toArray, List.append_toArray, List.nil_append, List.cons_append]
  gi_wp2
  gi_loopw [4, 5, 6, 7, 8, 9, 10, 11, 12, 13, 14, 15, 16] (fun x _ _ _ _ _ _ _ _ _ _ _ _ wr => ∃ k : Nat, x = .int .i64 k ∧ 2 ≤ k ∧ (k ≤ e ∨ k = 2) ∧ J (pgL h now k) wr ∧ KeepsOn K W wr)
    (fun x _ _ _ _ _ _ _ _ _ _ _ _ _ => e - (intOf x).toNat)
  case atStart => exact ⟨2, rfl, Nat.le_refl _, .inr rfl, h0, KeepsOn.refl _ _⟩
  case round =>
    obtain ⟨k, rfl, h2, hk, hJ, hkr⟩ := hrel
    have hk4 : k ≤ 4096 := by omega
    have gr := g.keeps hkr
    have c1 := gr.end_
    by_cases hlt : k < e
    · obtain ⟨-, B, bp, m, lh, vl, c2, hm, row, hmap, -, -⟩ := gr.some_ (by omega)
      have hI := Lib.hid (is_yes row hm hmap k hh)
      obtain ⟨fn, tmps, assign, body, hy, hR⟩ := hY _ (k, isP h now k) wr hJ (by rw [pgL_len]; omega)
      have HS := Lib.hid (pgL_succ h now h2)
      have HG := Lib.hid (And.intro gr (And.intro g row))
      have HR := Lib.hid hR
      simp only at hy
      generalize isP h now k = q at hI hy HR HS
      clear hY gr g row hR hJ hmap hk
      gi_wp2_with (refine ⟨trivial, ?_⟩; gi_at_call 9; refine (callsIn_wide.2 hI.out).mono ?_; rintro en w2 ⟨rfl, rfl⟩)
      refine HR.out.mono ?_
      rintro en W3 (⟨rfl, hJ3, hk3⟩ | ⟨rfl, hJx3⟩)
      · gi_wp2
        go_roundw
        case rel => exact ⟨k + 1, by go_num, by omega, .inl (by omega), by rw [HS.out]; exact hJ3, hkr.trans hk3⟩
        case measure => simp [intOf]; omega
      · gi_wp2
        refine bodyPost_ret (results_none rfl _ _ _) rfl ?_
        exact ⟨⟨_, rfl⟩, .inr ⟨_, ⟨k, h2, hlt, rfl⟩, by rw [HS.out]; exact hJx3⟩⟩
    · have hpe : pgL h now k = pgL h now e := by
        rcases hk with hk | hk
        · rw [show k = e by omega]
        · unfold pgL; rw [show k - 2 = 0 by omega, show e - 2 = 0 by omega]
      rw [hpe] at hJ
      have HG := Lib.hid (And.intro gr g)
      have HK := Lib.hid hk
      clear hY gr g hpe hk
      gi_wp2
      go_end0
      exact ⟨⟨_, rfl⟩, .inl ⟨_, rfl, hJ⟩⟩
theorem pages_stops (n : Nat) (hn : 1 ≤ n) (E S h e : Nat) (now : Pl) (K : Nat → Prop) (hh : h ≤ 4096) (he : e ≤ 4096) (w : World) (hK : ∀ k, K k → k < w.heap.size) (g : PgAt K w E S h e now) :
    SeqStopsK Fence.wide n Try.prog 36 #[.pointer (some ⟨E, 0, none⟩), .pointer (some ⟨S, 0, none⟩)] (fun x : Nat × Nat => #[Value.int .i64 x.1, Value.int .i64 x.2]) (KeepsOn K) (fun ys => ys = pgL h now e) (fun pre => ∃ k, 2 ≤ k ∧ k < e ∧ pre = pgL h now (k + 1)) (e - 2) w := fun l J Jx W hW _ _ hY h0 =>
  pages1_in n hn l E S h e now K hh he J Jx hY W (g.keeps (.of_below hW hK)) h0
theorem keepsOn_pb {K : Nat → Prop} {w : World} (hK : ∀ k, K k → k < w.heap.size) (W : World) (l : Nat) (o o' : Obj) (hl : w.heap.size ≤ l) (h : W.heap[l]? = some o) (_ : o.isCells = false) (_ : o.isWalk = false) : KeepsOn K W (W.putObj l o') :=
  .of_grown (grownBy_putObj' W l o') (fun k hk => by have := hK k hk; have := (Array.getElem?_eq_some_iff.1 h).1; exact ⟨by omega, fun e => by cases e; omega⟩)
theorem row_slice {W : World} {base : Nat} {e : TypeId} {size n : Nat} {v : Value} {xs : List Value} (h : W.ownsRow base e size v n xs) : ∃ a c, v = .slice a n c := by
  rcases h.2 with ⟨rfl, h0⟩ | ⟨g, cap, cur, rfl, _⟩
  · exact ⟨none, 0, by rw [h0]⟩
  · exact ⟨_, _, rfl⟩
theorem results_cell1 {P : Program} {fn : Func} {p : Tmp} {ty : TypeId} (h : fn.results = #[.cell p ty]) (tmps : Array Value) (w : World) (a : Addr) (v : Value) (hp : tmps.getD p undef = .pointer (some a)) (hagg : (isAgg ty).run P w = .ok false w) (hv : w.cell? a = some v) :
    (results fn tmps).run P w = .ok v w := by
  have h1 : (results fn tmps).run P w = ((asAddr (tmps.getD p undef)).run P w).andThen fun a w => (loadVar ty a).run P w := by
    simp [results, h, Result.andThen]
  rw [h1, hp]
  simp [asAddr, loadVar, hagg, go_sem, Result.andThen, hv]
end Go.Proofs.Ytmjjgdoekblelaa
