/- Layer 7: the document's space: Is, Undo, with. -/
import Derived.Laws.ResultCell
import Derived.Maps.AppendAt
import Derived.Laws.AppendOwnNone
import Derived.Test.YtmjjgdoekblelaaStops
import Derived.Test.YtmjjgdoekblelaaSpQ
namespace Go.Proofs.Ytmjjgdoekblelaa
open Go.RowKit

/-- The document's space as plain data. -/
structure GSp where
  most : Int
  now : List Nat
  last : List Nat
def GSp.is (g : GSp) (p : Int) : Nat := if 2 ≤ p ∧ p < g.now.length then g.now[p.toNat]?.getD 0 else 0
def GSp.put (g : GSp) (n q : Nat) : GSp := { g with now := g.now.set n q }
def GSp.undo (g : GSp) : GSp := { g with now := g.last }
/-- From the slice's address on lie these numbers, in a block below n₀. -/
def NatsAt (n₀ : Nat) (W : World) (a : Option Addr) (l : List Nat) : Prop := l ≠ [] → ∃ b off, a = some ⟨b, off, none⟩ ∧ b < n₀ ∧ (∃ cs fr, W.heap[b]? = some (.cells cs 3 fr)) ∧ ∀ j, j < l.length → W.cell? ⟨b, off + j, none⟩ = some (.int .i64 (l[j]?.getD 0 : Nat))
theorem NatsAt.below {n₀ : Nat} {A B : World} {a : Option Addr} {l : List Nat} (h : NatsAt n₀ A a l) (hb : Below n₀ A B) : NatsAt n₀ B a l := fun hl => by
  obtain ⟨b, off, rfl, hlt, ⟨cs, fr, ht⟩, hc⟩ := h hl
  exact ⟨b, off, rfl, hlt, ⟨cs, fr, (hb.block b hlt).trans ht⟩, fun j hj => (hb.cell (p := ⟨b, off + j, none⟩) hlt).trans (hc j hj)⟩
theorem NatsAt.mono {n₀ n₁ : Nat} {W : World} {a : Option Addr} {l : List Nat} (h : NatsAt n₀ W a l) (hn : n₀ ≤ n₁) : NatsAt n₁ W a l := fun hl => by
  obtain ⟨b, off, e, hlt, r⟩ := h hl; exact ⟨b, off, e, Nat.lt_of_lt_of_le hlt hn, r⟩
/-- A cell of a block of another type is turned. -/
theorem NatsAt.other {n₀ : Nat} {W : World} {a : Option Addr} {l : List Nat} (h : NatsAt n₀ W a l) {g : Nat} {cs : Array Value} {t : TypeId} {fr : Nat × Nat} (hg : W.heap[g]? = some (.cells cs t fr)) (ht : t ≠ 3) (o : Nat) (u : Value) : NatsAt n₀ (W.setCell ⟨g, o, none⟩ u) a l := fun hl => by
  obtain ⟨b, off, rfl, hlt, ⟨cs', fr', hb⟩, hc⟩ := h hl
  have hne : b ≠ g := fun e => by rw [e, hg] at hb; injection hb with hb; injection hb with _ h2; exact ht h2
  have hblk := Below.heap_setCell W ⟨g, o, none⟩ u b hne
  exact ⟨b, off, rfl, hlt, ⟨cs', fr', hblk.trans hb⟩, fun j hj => (World.cell?_of_block (a := ⟨b, off + j, none⟩) hblk).trans (hc j hj)⟩
def gval (m : Int) (a1 : Option Addr) (n1 c1 : Nat) (a2 : Option Addr) (n2 c2 : Nat) : Value := .agg #[.int .i64 m, .slice a1 n1 c1, .slice a2 n2 c2]
/-- Its lists lie in memory. -/
structure IsG (w : World) (a1 : Option Addr) (c1 : Nat) (a2 : Option Addr) (c2 : Nat) (g : GSp) : Prop where
  now_ : NatsAt w.heap.size w a1 g.now
  last_ : NatsAt w.heap.size w a2 g.last
  no1 : a1 = none → c1 = 0
  no2 : a2 = none → c2 = 0
  le1 : g.now.length ≤ c1
  le2 : g.last.length ≤ c2
  few1 : g.now.length ≤ 5000
  few2 : g.last.length ≤ 5000
theorem IsG.below {w w' : World} {a1 a2 : Option Addr} {c1 c2 : Nat} {g : GSp} (h : IsG w a1 c1 a2 c2 g) (hb : Below w.heap.size w w') : IsG w' a1 c1 a2 c2 g :=
  ⟨(h.now_.below hb).mono hb.size, (h.last_.below hb).mono hb.size, h.no1, h.no2, h.le1, h.le2, h.few1, h.few2⟩
/-- What a call leaves that tells a space. -/
def GOut (w : World) (g : GSp) (v : Value) (w' : World) : Prop := ∃ a1 c1 a2 c2, v = gval g.most a1 g.now.length c1 a2 g.last.length c2 ∧ IsG w' a1 c1 a2 c2 g ∧ Below w.heap.size w w'
theorem field32_0 (B : Nat) (w : World) : (Instr.fieldAt 40 (ptr B) 0).run Try.prog w = .ok (ptr B) w := by simp [go_sem]
theorem results_cell_tmps {fn : Func} {p : Tmp} {ty : TypeId} {u : Tmp} {fs : Array Field} (h : fn.results = #[.cell p ty, .tmp u]) (tmps : Array Value) (w : World) (g : Nat) (t : TypeId) (cs : Array Value) (fr : Nat × Nat)
    (hp : tmps.getD p undef = .pointer (some ⟨g, 0, none⟩)) (hg : w.heap[g]? = some (.cells cs t fr)) (hu : Try.prog.underlying ty = some (.struct fs)) (hi : (Try.prog.info? ty).map (·.size) = some cs.size) :
    (results fn tmps).run Try.prog w = .ok (.tuple #[.agg cs, tmps.getD u undef]) w := by
  have h1 : (results fn tmps).run Try.prog w = ((asAddr (tmps.getD p undef)).run Try.prog w).andThen fun a w => ((loadVar ty a).run Try.prog w).andThen fun v w => .ok (.tuple #[v, tmps.getD u undef]) w := by
    simp [results, h, Result.andThen]
  rw [h1, hp]
  simp [asAddr, run_loadVar_row w g t ty cs fr _ hg hu rfl hi, Result.andThen]
theorem results_cell_tmps2 {fn : Func} {p : Tmp} {ty : TypeId} {u v : Tmp} {fs : Array Field} (h : fn.results = #[.cell p ty, .tmp u, .tmp v]) (tmps : Array Value) (w : World) (g : Nat) (t : TypeId) (cs : Array Value) (fr : Nat × Nat)
    (hp : tmps.getD p undef = .pointer (some ⟨g, 0, none⟩)) (hg : w.heap[g]? = some (.cells cs t fr)) (hu : Try.prog.underlying ty = some (.struct fs)) (hi : (Try.prog.info? ty).map (·.size) = some cs.size) :
    (results fn tmps).run Try.prog w = .ok (.tuple #[.agg cs, tmps.getD u undef, tmps.getD v undef]) w := by
  have h1 : (results fn tmps).run Try.prog w = ((asAddr (tmps.getD p undef)).run Try.prog w).andThen fun a w => ((loadVar ty a).run Try.prog w).andThen fun x w => .ok (.tuple #[x, tmps.getD u undef, tmps.getD v undef]) w := by
    simp [results, h, Result.andThen]
  rw [h1, hp]
  simp [asAddr, run_loadVar_row w g t ty cs fr _ hg hu rfl hi, Result.andThen]
theorem gis_any (g : GSp) (a1 a2 : Option Addr) (c1 c2 : Nat) (w : World) (h : IsG w a1 c1 a2 c2 g) (p : Int) :
    Calls Try.prog 32 #[gval g.most a1 g.now.length c1 a2 g.last.length c2, .int .i64 p] w fun e w' => e = .returned (.int .i64 (g.is p : Nat)) ∧ Below w.heap.size w w' := by
  have hb : Below w.heap.size w (w.alloc (.cells #[.int .i64 g.most, .slice a1 g.now.length c1, .slice a2 g.last.length c2] 40)) := (Below.refl _ w).alloc (Nat.le_refl _) _
  have HB := Lib.hid hb
  unfold gval
  by_cases h2 : p < 2
  · have e : g.is p = 0 := by unfold GSp.is; rw [if_neg (by omega)]
    rw [e]
    clear hb h e
    go_enter Try.func32, Try.ntmps32
    go_wp2
    go_ret
    exact ⟨rfl, HB.out⟩
  · by_cases h3 : (g.now.length : Int) ≤ p
    · have e : g.is p = 0 := by unfold GSp.is; rw [if_neg (by omega)]
      rw [e]
      clear hb h e
      go_enter Try.func32, Try.ntmps32
      go_wp2
      go_ret
      exact ⟨rfl, HB.out⟩
    · obtain ⟨k, rfl⟩ : ∃ k : Nat, p = k := ⟨p.toNat, by omega⟩
      have e : g.is k = g.now[k]?.getD 0 := by unfold GSp.is; rw [if_pos (by omega)]; rfl
      rw [e]
      have hkl : k < g.now.length := by omega
      obtain ⟨b, off, rfl, hlt, -, hc⟩ := h.now_ (by intro e; rw [e] at hkl; simp at hkl)
      have hck := (hb.cell (p := ⟨b, off + k, none⟩) hlt).trans (hc k hkl)
      generalize g.now[k]?.getD 0 = q at hck
      clear hb h e hc
      go_enter Try.func32, Try.ntmps32
      go_wp2
      go_ret
      exact ⟨rfl, HB.out⟩
theorem gundo_any (g : GSp) (a1 a2 : Option Addr) (c1 c2 : Nat) (w : World) (h : IsG w a1 c1 a2 c2 g) :
    Calls Try.prog 21 #[gval g.most a1 g.now.length c1 a2 g.last.length c2] w fun e w' => ∃ v, e = .returned v ∧ GOut w g.undo v w' := by
  have HH := Lib.hid h
  unfold gval
  clear h
  go_enter Try.func21, Try.ntmps21
  go_wp2
  refine bodyPost_ret (results_cell_row rfl _ _ (w.heap.size + 1) 40 _ (0, 0) _ rfl (by have := (MapKept.heap_alloc (w.alloc (.cells #[.int .i64 g.most, .slice a2 g.last.length c2, .slice a2 g.last.length c2] 40)) (.cells #[.int .i64 g.most, .slice a2 g.last.length c2, .slice a2 g.last.length c2] 40)).1; rw [World.size_alloc] at this; exact this) Try.underlying40 rfl (by kernel_rfl)) rfl ?_
  have hb := ((Below.refl _ w).alloc (Nat.le_refl _) (.cells #[.int .i64 g.most, .slice a2 g.last.length c2, .slice a2 g.last.length c2] 40)).alloc (by simp) (.cells #[.int .i64 g.most, .slice a2 g.last.length c2, .slice a2 g.last.length c2] 40)
  have hg := HH.out.below hb
  exact ⟨_, rfl, a2, c2, a2, c2, rfl, ⟨hg.last_, hg.last_, hg.no2, hg.no2, hg.le2, hg.le2, hg.few2, hg.few2⟩, hb⟩
theorem infoI : (Try.prog.info? 3).map (fun i => (i.zero, i.size, i.bytes)) = some (some (.int .i64 0), 1, 8) := by kernel_rfl
/-- A row of numbers that the call made. -/
def OwnN (w : World) (base : Nat) (v : Value) (l : List Nat) : Prop := w.ownsRow base 3 1 v l.length (natVals l)
theorem natVals_one (l : List Nat) : ∀ u ∈ natVals l, u.oneCell' = true := by
  intro u hu
  simp only [natVals, List.mem_map] at hu
  obtain ⟨y, _, rfl⟩ := hu
  rfl
theorem ownN_below {w w' : World} {base : Nat} {v : Value} {l : List Nat} (h : OwnN w base v l) (hb : Below w.heap.size w w') : OwnN w' base v l :=
  World.ownsRow.kept h (row := none) ⟨hb.os, hb.tape, hb.output, hb.size, fun i hi _ => hb.block i hi⟩ (by cases v.ownBlock <;> simp)
theorem ownN_set {w : World} {base g cap n : Nat} {l : List Nat} (h : OwnN w base (.slice (some ⟨g, 0, none⟩) n cap) l) (p q : Nat) : OwnN (w.setCell ⟨g, p, none⟩ (.int .i64 q)) base (.slice (some ⟨g, 0, none⟩) n cap) (l.set p q) := by
  obtain ⟨h1, h2⟩ := h
  rcases h2 with ⟨e, _⟩ | ⟨g', cap', cur, e, hb, hc, hle, hm, hs, ht⟩
  · cases e
  · have e1 : g' = g := by injection e with e1 e2 e3; injection e1 with e1; injection e1 with e1; exact e1.symm
    have e2 : n = l.length := by injection e
    have e3 : cap' = cap := by injection e with _ _ e3; exact e3.symm
    subst e1; subst e2; subst e3
    refine ⟨by simp [natVals], .inr ⟨g', cap', cur.set! p (.int .i64 q), by simp, hb, heap_setCell_same w g' p _ _ _ hc, by simpa using hle, hm, by simpa using hs, ?_⟩⟩
    simp only [Array.set!_eq_setIfInBounds, Array.toList_setIfInBounds, List.length_set, natVals, List.map_set]
    rw [List.take_set, ht]
    rfl
theorem ownN_some {w : World} {b : Nat} {v : Value} {l : List Nat} (h : OwnN w b v l) (hl : 0 < l.length) : ∃ g cap, v = .slice (some ⟨g, 0, none⟩) l.length cap ∧ b ≤ g ∧ g < w.heap.size ∧ l.length ≤ cap := by
  rcases h.2 with ⟨_, h0⟩ | ⟨g, cap, cur, rfl, hb, hh, hle, _⟩
  · omega
  · exact ⟨g, cap, rfl, hb, (Array.getElem?_eq_some_iff.1 hh).1, hle⟩
theorem ownN_cell {w : World} {b g cap : Nat} {l : List Nat} {k : Nat} (h : OwnN w b (.slice (some ⟨g, 0, none⟩) l.length cap) l) (hk : k < l.length) : w.cell? ⟨g, k, none⟩ = some (.int .i64 (l[k]?.getD 0 : Nat)) := by
  have := World.ownsRow.cellAt h k (by omega)
  rw [this]; simp [natVals, hk]
theorem ownN_frozen {w : World} {b g cap : Nat} {l : List Nat} (h : OwnN w b (.slice (some ⟨g, 0, none⟩) l.length cap) l) (k : Nat) : w.frozen? ⟨g, k, none⟩ = false := World.ownsRow.frozenAt h k
theorem ownN_typed {w : World} {b g : Nat} {v : Value} {l : List Nat} (h : OwnN w b v l) (hv : v.ownBlock = some g) : ∃ cs fr, w.heap[g]? = some (.cells cs 3 fr) := by
  rcases h.2 with ⟨rfl, _⟩ | ⟨g', cap, cur, rfl, hb, hh, _⟩
  · cases hv
  · cases hv; exact ⟨cur, (0, 0), hh⟩
/-- Such a row lies in memory as one that came in. -/
theorem ownN_lies {w : World} {b : Nat} {v : Value} {l : List Nat} (h : OwnN w b v l) : ∃ a c, v = .slice a l.length c ∧ NatsAt w.heap.size w a l ∧ (a = none → c = 0) ∧ l.length ≤ c := by
  rcases Nat.eq_zero_or_pos l.length with h0 | h0
  · have e := List.eq_nil_of_length_eq_zero h0
    subst e
    rcases h.2 with ⟨rfl, _⟩ | ⟨g, cap, cur, rfl, hb, hh, hle, _⟩
    · exact ⟨none, 0, rfl, fun hx => absurd rfl hx, fun _ => rfl, Nat.le_refl _⟩
    · exact ⟨_, cap, rfl, fun hx => absurd rfl hx, (fun hx => by cases hx), hle⟩
  · obtain ⟨g, cap, rfl, hb, hg, hle⟩ := ownN_some h h0
    exact ⟨_, cap, rfl, fun _ => ⟨g, 0, rfl, hg, ownN_typed h rfl, fun j hj => by rw [Nat.zero_add]; exact ownN_cell h hj⟩, (fun hx => by cases hx), hle⟩
/-- append([]int(nil), l...). -/
theorem copy_nats (w : World) (ty : TypeId) (base : Nat) (hb : base ≤ w.heap.size) (a : Option Addr) (c : Nat) (l : List Nat) (hn : a = none → c = 0) (hle : l.length ≤ c) (hf : l.length ≤ 5000) (hl : NatsAt w.heap.size w a l) :
    ∃ v' w', (Builtin.append_ #[38, 38] ty #[.slice none 0 0, .slice a l.length c]).run Try.prog w = .ok v' w' ∧ OwnN w' base v' l ∧ Below w.heap.size w w' := by
  obtain ⟨i0, hi, hz0, hz1, hz2⟩ := info_parts infoI
  have hnil : w.ownsRow base 3 1 (.slice none 0 0) 0 [] := World.ownsRow_nil w base _ _
  cases a with
  | none =>
    obtain rfl := hn rfl
    obtain rfl : l = [] := List.eq_nil_of_length_eq_zero (by omega)
    have hrun := run_append_owned_none (P := Try.prog) (w := w) base 38 ty 3 i0 1 Try.underlying38 hi (.slice none 0 0) 0 [] hnil
    exact ⟨_, _, hrun, hnil, Below.refl _ _⟩
  | some a =>
    have hnews : ∀ j u, (natVals l)[j]? = some u → w.cell? (a.add j) = some u := fun j u hu => by
      have hj : j < l.length := by have := (List.getElem?_eq_some_iff.1 hu).1; simpa [natVals] using this
      obtain ⟨b, off, e, hlt, -, hc⟩ := hl (by intro e; rw [e] at hj; simp at hj)
      cases e
      rw [addr_add, hc j hj, ← hu]
      simp [natVals, hj]
    obtain ⟨v', w', hr, h2, h3, -, -⟩ := run_append_own_at (P := Try.prog) w base 38 ty 3 i0 _ 1 8 Try.underlying38 hi hz0 hz1 hz2 rfl (by decide) (.slice none 0 0) 0 [] hnil a l.length c (natVals l) (by simp [natVals]) hnews (natVals_one l) (by unfold maxLen; omega) (by omega) hb
    exact ⟨v', w', hr, by unfold OwnN; simpa using h2, ⟨h3.os, h3.tape, h3.output, h3.size, fun k hk => h3.block k hk (by intro e; cases e)⟩⟩
theorem ownN_other {w : World} {base : Nat} {v : Value} {l : List Nat} (h : OwnN w base v l) (p : Addr) (u : Value) (hne : v.ownBlock ≠ some p.block) : OwnN (w.setCell p u) base v l :=
  World.ownsRow.kept h (row := some p.block) ⟨rfl, rfl, rfl, by simp [World.setCell], fun i _ hi => Below.heap_setCell w p u i (fun e => hi (by rw [e]))⟩ (.inr hne)
theorem set3_heap {w : World} {g : Nat} {a0 a1 a2 : Value} {t : TypeId} (v0 v1 v2 : Value) (h : w.heap[g]? = some (.cells #[a0, a1, a2] t (0, 0))) :
    (((w.setCell ⟨g, 0, none⟩ v0).setCell ⟨g, 1, none⟩ v1).setCell ⟨g, 2, none⟩ v2).heap[g]? = some (.cells #[v0, v1, v2] t (0, 0)) := by
  have h0 := heap_setCell_same w g 0 _ _ v0 h
  have h1 := heap_setCell_same _ g 1 _ _ v1 h0
  have h2 := heap_setCell_same _ g 2 _ _ v2 h1
  rw [h2]; rfl
theorem set3_below {a w : World} {n g : Nat} (h : Below n a w) (hg : n ≤ g) (v0 v1 v2 : Value) : Below n a (((w.setCell ⟨g, 0, none⟩ v0).setCell ⟨g, 1, none⟩ v1).setCell ⟨g, 2, none⟩ v2) :=
  ((h.setCell (p := ⟨g, 0, none⟩) hg v0).setCell (p := ⟨g, 1, none⟩) hg v1).setCell (p := ⟨g, 2, none⟩) hg v2
theorem ownN_set3 {w : World} {base g : Nat} {v : Value} {l : List Nat} (h : OwnN w base v l) (hne : v.ownBlock ≠ some g) (v0 v1 v2 : Value) : OwnN (((w.setCell ⟨g, 0, none⟩ v0).setCell ⟨g, 1, none⟩ v1).setCell ⟨g, 2, none⟩ v2) base v l :=
  ownN_other (ownN_other (ownN_other h _ _ hne) _ _ hne) _ _ hne
set_option maxRecDepth 100000 in
theorem gwith_any (g : GSp) (a1 a2 : Option Addr) (c1 c2 : Nat) (w : World) (h : IsG w a1 c1 a2 c2 g) (n q : Nat) (hn : n < g.now.length) :
    Calls Try.prog 37 #[gval g.most a1 g.now.length c1 a2 g.last.length c2, .int .i64 n, .int .i64 q] w fun e w' => ∃ v, e = .returned v ∧ GOut w (g.put n q) v w' := by
  obtain ⟨S, hS⟩ : ∃ S, w.heap.size = S := ⟨_, rfl⟩
  have HH := Lib.hid h
  have HS := Lib.hid hS
  unfold gval
  clear h hS
  go_enter Try.func37, Try.ntmps37
  go_wp2_with (at_builtin; refine stop_here ?_)
  refine Lib.hid ?_
  rw [HS.out]
  have hb0 : Below S w ((w.alloc (.cells #[.int .i64 g.most, .slice a1 g.now.length c1, .slice a2 g.last.length c2] 40)).alloc (.cells #[.int .i64 0, .slice none 0 0, .slice none 0 0] 40)) := by
    rw [← HS.out]; exact ((Below.refl _ w).alloc (Nat.le_refl _) _).alloc (by simp) _
  have hrS : ((w.alloc (.cells #[.int .i64 g.most, .slice a1 g.now.length c1, .slice a2 g.last.length c2] 40)).alloc (.cells #[.int .i64 0, .slice none 0 0, .slice none 0 0] 40)).heap[S]? = some (.cells #[.int .i64 g.most, .slice a1 g.now.length c1, .slice a2 g.last.length c2] 40 (0, 0)) := by
    rw [← HS.out]; exact (Below.heap_alloc _ _ _ (by simp)).trans (MapKept.heap_alloc w _).1
  have hrR : ((w.alloc (.cells #[.int .i64 g.most, .slice a1 g.now.length c1, .slice a2 g.last.length c2] 40)).alloc (.cells #[.int .i64 0, .slice none 0 0, .slice none 0 0] 40)).heap[S + 1]? = some (.cells #[.int .i64 0, .slice none 0 0, .slice none 0 0] 40 (0, 0)) := by
    have := (MapKept.heap_alloc (w.alloc (.cells #[.int .i64 g.most, .slice a1 g.now.length c1, .slice a2 g.last.length c2] 40)) (.cells #[.int .i64 0, .slice none 0 0, .slice none 0 0] 40)).1
    rw [World.size_alloc, HS.out] at this; exact this
  have hsz : ((w.alloc (.cells #[.int .i64 g.most, .slice a1 g.now.length c1, .slice a2 g.last.length c2] 40)).alloc (.cells #[.int .i64 0, .slice none 0 0, .slice none 0 0] 40)).heap.size = S + 2 := by simp [HS.out]
  generalize ((w.alloc (.cells #[.int .i64 g.most, .slice a1 g.now.length c1, .slice a2 g.last.length c2] 40)).alloc (.cells #[.int .i64 0, .slice none 0 0, .slice none 0 0] 40)) = w2 at hb0 hrS hrR hsz ⊢
  have hG2 := HH.out.below (by rw [HS.out]; exact hb0)
  obtain ⟨v', w3, hrun, hO, hb3⟩ := copy_nats w2 38 (S + 2) (by omega) a1 c1 g.now hG2.no1 hG2.le1 hG2.few1 hG2.now_
  obtain ⟨gb, cap, rfl, hgb, hgl, hgc⟩ := ownN_some hO (by omega)
  have hrS3 := (hb3.block S (by omega)).trans hrS
  have hrR3 := (hb3.block (S + 1) (by omega)).trans hrR
  have hcn := ownN_cell hO hn
  have hfn := ownN_frozen hO n
  have s0 := cell_of_row w3 S 0 _ _ _ hrS3
  have s1 := cell_of_row w3 S 1 _ _ _ hrS3
  have s2 := cell_of_row w3 S 2 _ _ _ hrS3
  have sf := frozen_of_row w3 S 1 _ _ hrS3
  have r0 := cell_of_row w3 (S + 1) 0 _ _ _ hrR3
  have r1 := cell_of_row w3 (S + 1) 1 _ _ _ hrR3
  have r2 := cell_of_row w3 (S + 1) 2 _ _ _ hrR3
  have q0 := frozen_of_row w3 (S + 1) 0 _ _ hrR3
  have q1 := frozen_of_row w3 (S + 1) 1 _ _ hrR3
  have q2 := frozen_of_row w3 (S + 1) 2 _ _ hrR3
  simp only [List.getElem?_toArray, List.getElem?_cons_zero, List.getElem?_cons_succ] at s0 s1 s2 r0 r1 r2
  have hne : gb ≠ S := by omega
  have hne2 : gb ≠ S + 1 := by omega
  have HO := Lib.hid hO
  have HB := Lib.hid (And.intro hb0 (And.intro hb3 (And.intro hsz (And.intro hrS3 hrR3))))
  have HG := Lib.hid hG2
  clear hb0 hb3 hsz hrS hrR hrS3 hrR3 hO hG2
  refine wpList_append_val rfl rfl rfl rfl hrun ?_
  clear hrun
  go_wp2
  obtain ⟨hb0, hb3, hsz, hrS3, hrR3⟩ := HB.out
  have hO4 := ownN_set (ownN_other HO.out ⟨S, 1, none⟩ (.slice (some ⟨gb, 0, none⟩) g.now.length cap) (by simp [Value.ownBlock]; omega)) n q
  have hR4 : ((w3.setCell ⟨S, 1, none⟩ (.slice (some ⟨gb, 0, none⟩) g.now.length cap)).setCell ⟨gb, n, none⟩ (.int .i64 q)).heap[S + 1]? = _ := (Below.heap_setCell _ _ _ (S + 1) (by show S + 1 ≠ gb; omega)).trans ((Below.heap_setCell _ _ _ (S + 1) (by show S + 1 ≠ S; omega)).trans hrR3)
  have hB4 : Below S w ((w3.setCell ⟨S, 1, none⟩ (.slice (some ⟨gb, 0, none⟩) g.now.length cap)).setCell ⟨gb, n, none⟩ (.int .i64 q)) := ((hb0.trans (hb3.mono (by omega))).setCell (p := ⟨S, 1, none⟩) (Nat.le_refl _) _).setCell (p := ⟨gb, n, none⟩) (by show S ≤ gb; omega) _
  have hs4 : w3.heap.size ≤ ((w3.setCell ⟨S, 1, none⟩ (.slice (some ⟨gb, 0, none⟩) g.now.length cap)).setCell ⟨gb, n, none⟩ (.int .i64 q)).heap.size := by simp [World.setCell]
  have hL4 : NatsAt S ((w3.setCell ⟨S, 1, none⟩ (.slice (some ⟨gb, 0, none⟩) g.now.length cap)).setCell ⟨gb, n, none⟩ (.int .i64 q)) a2 g.last := by have := HH.out.last_; rw [HS.out] at this; exact this.below hB4
  generalize ((w3.setCell ⟨S, 1, none⟩ (.slice (some ⟨gb, 0, none⟩) g.now.length cap)).setCell ⟨gb, n, none⟩ (.int .i64 q)) = w4 at hO4 hR4 hB4 hs4 hL4 ⊢
  have hR5 := set3_heap (.int .i64 g.most) (.slice (some ⟨gb, 0, none⟩) g.now.length cap) (.slice a2 g.last.length c2) hR4
  have hB5 := set3_below hB4 (g := S + 1) (by omega) (.int .i64 g.most) (.slice (some ⟨gb, 0, none⟩) g.now.length cap) (.slice a2 g.last.length c2)
  have hO5 := ownN_set3 hO4 (g := S + 1) (by simp [Value.ownBlock]; omega) (.int .i64 g.most) (.slice (some ⟨gb, 0, none⟩) g.now.length cap) (.slice a2 g.last.length c2)
  have hL5 := hL4.below (set3_below (Below.refl S w4) (g := S + 1) (by omega) (.int .i64 g.most) (.slice (some ⟨gb, 0, none⟩) g.now.length cap) (.slice a2 g.last.length c2))
  refine bodyPost_ret (results_cell_row rfl _ _ (S + 1) 40 _ (0, 0) _ rfl hR5 Try.underlying40 rfl (by kernel_rfl)) rfl ?_
  obtain ⟨a', c', ev, hN, hno, hle⟩ := ownN_lies hO5
  have hlen : (g.now.set n q).length = g.now.length := List.length_set
  rw [hlen] at ev hle
  cases ev
  have hSz := hB5.size
  rw [HS.out] at hSz
  refine ⟨_, rfl, _, _, a2, c2, by unfold gval; simp only [GSp.put, hlen], ⟨hN, hL5.mono hSz, hno, HG.out.no2, by simp only [GSp.put, hlen]; exact hle, HG.out.le2, by simp only [GSp.put, hlen]; exact HG.out.few1, HG.out.few2⟩, by rw [HS.out]; exact hB5⟩
end Go.Proofs.Ytmjjgdoekblelaa
