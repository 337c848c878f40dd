/- Layer 14: get: what ends behind some levels, by a name. -/
import Derived.Laws.ResultCell
import Derived.StillTailTactics
import Derived.Deep.RegionWith
import Derived.BigQuiet
import Derived.Test.YtjedffjfjgffeaaDoorMatC
namespace Go.Proofs.YtjedffjfjgffeaaDoor
open Go.RowKit Go.MapKept Go.ChangeMaps

def ptrV : Option Nd → Value
  | some x => .pointer (some ⟨x.b, 0, none⟩)
  | none => .pointer none
def sbO : Option Sb → Value
  | some s => sbV s
  | none => noSub
/-- Levels lie in a block, from a place on. -/
def LvAt (w : World) (B off : Nat) (ls : Pth) : Prop := ∀ j x, ls[j]? = some x → w.cell? ⟨B, off + j, none⟩ = some (.string (str x))
theorem LvAt.tl {w : World} {B off : Nat} {l : Txt} {ls : Pth} (h : LvAt w B off (l :: ls)) : LvAt w B (off + 1) ls := fun j x hj => by
  have := h (j + 1) x (by simpa using hj)
  rwa [show off + (j + 1) = off + 1 + j by omega] at this
theorem LvAt.block {w w' : World} {B off : Nat} {ls : Pth} (h : LvAt w B off ls) (hb : w'.heap[B]? = w.heap[B]?) : LvAt w' B off ls := fun j x hj => (World.cell?_of_block (a := ⟨B, off + j, none⟩) hb).trans (h j x hj)
theorem slice_tl (n B off c : Nat) (hn : 1 ≤ n) (hc : n ≤ c) (hm : c ≤ 9223372036854775807) : ∃ off', (2 ≤ n → off' = off + 1) ∧ ∀ W, (Instr.sliceAt 47 (.slice (some ⟨B, off, none⟩) n c) (some (.int .i64 1)) none none).run Tryd.prog W = .ok (.slice (some ⟨B, off', none⟩) (n - 1) (c - 1)) W := by
  by_cases hc1 : c = 1
  · exact ⟨off, fun h => absurd h (by omega), fun w => by
      obtain rfl : n = 1 := by omega
      subst hc1
      simp [go_sem]⟩
  · exact ⟨off + 1, fun _ => rfl, fun w => by
      have h1 : (1 : Int) ≤ n := by omega
      simp [go_sem, hc1, h1]⟩
theorem zero_sub (w : World) : (zeroValue 30).run Tryd.prog w = .ok noSub w := by kernel_rfl
theorem zero_ptr (w : World) : (zeroValue 40).run Tryd.prog w = .ok (.pointer none) w := by kernel_rfl
theorem results_ct {fn : Func} {p u : Tmp} {ty : TypeId} {fs : Array Field} (h : fn.results = #[.cell p ty, .tmp u]) (tmps : Array Value) (w : World) (g : Nat) (t : TypeId) (cs : Array Value) (fr : Nat × Nat)
    (hp : tmps.getD p undef = .pointer (some ⟨g, 0, none⟩)) (hg : w.heap[g]? = some (.cells cs t fr)) (hu : Tryd.prog.underlying ty = some (.struct fs)) (hi : (Tryd.prog.info? ty).map (·.size) = some cs.size) :
    (results fn tmps).run Tryd.prog w = .ok (.tuple #[.agg cs, tmps.getD u undef]) w := by
  rw [results_cell_tmp h]
  rw [hp]
  simp [asAddr, run_loadVar_row w g t ty cs fr _ hg hu rfl hi, Result.andThen]
theorem sbO_form (s : Option Sb) : ∃ a b q, sbO s = .agg #[.string a, .string b, .int .i64 q] := by
  cases s with
  | none => exact ⟨_, _, _, rfl⟩
  | some s => exact ⟨_, _, _, rfl⟩
theorem row_of {w w' : World} {g n : Nat} {o : Obj} (h : w.heap[g]? = some o) (hb : Below n w w') (hg : g < n) : w'.heap[g]? = some o := (hb.block g hg).trans h
theorem set3_row {w : World} {g : Nat} {T : TypeId} {a b c : Value} (h : w.heap[g]? = some (.cells #[a, b, c] T (0, 0))) (a' b' c' : Value) : (((w.setCell ⟨g, 0, none⟩ a').setCell ⟨g, 1, none⟩ b').setCell ⟨g, 2, none⟩ c').heap[g]? = some (.cells #[a', b', c'] T (0, 0)) := by
  have h1 := heap_setCell_same w g 0 _ _ a' h
  have h2 := heap_setCell_same _ g 1 _ _ b' h1
  have h3 := heap_setCell_same _ g 2 _ _ c' h2
  rw [h3]
  simp
theorem box3 {w : World} {g : Nat} {T : TypeId} {a b c : Value} (h : w.heap[g]? = some (.cells #[a, b, c] T (0, 0))) : g < w.heap.size ∧ w.cell? ⟨g, 0, none⟩ = some a ∧ w.cell? ⟨g, 1, none⟩ = some b ∧ w.cell? ⟨g, 2, none⟩ = some c ∧ w.frozen? ⟨g, 0, none⟩ = false ∧ w.frozen? ⟨g, 1, none⟩ = false ∧ w.frozen? ⟨g, 2, none⟩ = false := by
  refine ⟨(Array.getElem?_eq_some_iff.1 h).1, ?_, ?_, ?_, ?_, ?_, ?_⟩
  · rw [cell_of_row _ _ _ _ _ _ h]; rfl
  · rw [cell_of_row _ _ _ _ _ _ h]; rfl
  · rw [cell_of_row _ _ _ _ _ _ h]; rfl
  · simp [World.frozen?, h]
  · simp [World.frozen?, h]
  · simp [World.frozen?, h]
def GetPost (w : World) (s : Option Sb) (e : Ending) (w' : World) : Prop := e = .returned (.tuple #[sbO s, .bool s.isSome]) ∧ Below w.heap.size w w'
set_option maxRecDepth 100000 in
theorem get_none (w : World) (lvv : Value) (c : Value) : Calls Tryd.prog 14 #[.pointer none, lvv, c] w fun e w' => GetPost w none e w' := by
  go_enter Tryd.func14, Tryd.ntmps14
  go_wp2
  refine bodyPost_ret (results_ct rfl _ _ _ _ _ _ rfl (heap_alloc_new _ _) Tryd.underlying30 (by kernel_rfl)) rfl ?_
  exact ⟨rfl, (Below.refl _ w).alloc (Nat.le_refl _) _⟩
abbrev subBox : Obj := .cells #[.string ⟨#[]⟩, .string ⟨#[]⟩, .int .i64 0] 30
variable {w w' : World} {t : Tr} {En : Pth → Txt → Option Sb} {C : Pth → Nat} {gs : List (Pth × Txt)}
theorem TreeAt.alloc (h : TreeAt w t En C gs) (o : Obj) : TreeAt (w.alloc o) t En C gs := h.below ((Below.refl _ w).alloc (Nat.le_refl _) _)
theorem TreeAt.drew (h : TreeAt w t En C gs) : TreeAt w.drew t En C gs := h.below ⟨rfl, rfl, rfl, Nat.le_refl _, fun _ _ => rfl⟩
theorem TreeAt.look_end (h : TreeAt w t En C gs) {p : Pth} {x : Nd} (hx : t p = some x) (n : Txt) (hn : n.length ≤ maxLen) : (Instr.lookup 50 (.map (some x.e)) (.string (str n)) true).run Tryd.prog w = .ok (.tuple #[sbO (En p n), .bool (En p n).isSome]) w := by
  have := (h.ends p x hx).look (T := 50) (E := 30) Tryd.underlying9 Tryd.underlying50 zero_sub (str n) hn true
  rw [this, str_toList]
  unfold endV
  cases En p n <;> rfl
theorem TreeAt.look_kid (h : TreeAt w t En C gs) {p : Pth} {x : Nd} (hx : t p = some x) (l : Txt) (hn : l.length ≤ maxLen) : (Instr.lookup 49 (.map (some x.n)) (.string (str l)) false).run Tryd.prog w = .ok (ptrV (t (p ++ [l]))) w := by
  have := (h.kids p x hx).look (T := 49) (E := 40) Tryd.underlying9 Tryd.underlying49 zero_ptr (str l) hn false
  rw [this, str_toList]
  unfold kidV
  cases t (p ++ [l]) <;> rfl
theorem TreeAt.cells (h : TreeAt w t En C gs) {p : Pth} {x : Nd} (hx : t p = some x) : w.cell? ⟨x.b, 0, none⟩ = some (.map (some x.n)) ∧ w.cell? ⟨x.b, 1, none⟩ = some (.map (some x.e)) ∧ w.cell? ⟨x.b, 2, none⟩ = some (.int .i64 (C p : Int)) := by
  have hr := h.row p x hx
  refine ⟨?_, ?_, ?_⟩ <;> rw [cell_of_row _ _ _ _ _ _ hr] <;> rfl
set_option maxRecDepth 100000 in
theorem get_here (h : TreeAt w t En C gs) {p : Pth} {x : Nd} (hx : t p = some x) (a : Option Addr) (k : Nat) (n : Txt) (hn : n.length ≤ maxLen) : Calls Tryd.prog 14 #[.pointer (some ⟨x.b, 0, none⟩), .slice a 0 k, .string (str n)] w fun e w' => GetPost w (En p n) e w' := by
  obtain ⟨c0, c1, c2⟩ := h.cells hx
  have hlk := (h.alloc subBox).look_end hx n hn
  have hlt := h.lt ⟨p, x, hx, .inl rfl⟩
  have hlt2 := h.lt ⟨p, x, hx, .inr (.inr rfl)⟩
  obtain ⟨s, hs⟩ : ∃ s, En p n = s := ⟨_, rfl⟩
  rw [hs] at hlk ⊢
  clear hs c0 c2 h hx hn
  cases s with
  | none =>
    simp only [sbO, noSub, Option.isSome_none] at hlk
    go_enter Tryd.func14, Tryd.ntmps14
    go_wp2
    refine bodyPost_ret (results_ct rfl _ _ _ _ _ _ rfl (heap_alloc_new _ _) Tryd.underlying30 (by kernel_rfl)) rfl ?_
    exact ⟨rfl, (Below.refl _ w).alloc (Nat.le_refl _) _⟩
  | some s =>
    simp only [sbO, sbV, Option.isSome_some] at hlk
    go_enter Tryd.func14, Tryd.ntmps14
    go_wp2
    refine bodyPost_ret (results_ct rfl _ _ _ _ _ _ rfl (heap_alloc_new _ _) Tryd.underlying30 (by kernel_rfl)) rfl ?_
    exact ⟨rfl, (Below.refl _ w).alloc (Nat.le_refl _) _⟩
set_option maxRecDepth 100000 in
set_option maxHeartbeats 1000000 in
theorem get_on (h : TreeAt w t En C gs) {p : Pth} {x : Nd} (hx : t p = some x) (B off k m : Nat) (l n : Txt) (hl : l.length ≤ maxLen) (hB : B < w.heap.size) (hk : m + 1 ≤ k) (hk2 : k ≤ 9223372036854775807) (hc : w.cell? ⟨B, off, none⟩ = some (.string (str l))) (s : Option Sb)
    (hIH : ∀ W off', (1 ≤ m → off' = off + 1) → Below w.heap.size w W → Calls Tryd.prog 14 #[ptrV (t (p ++ [l])), .slice (some ⟨B, off', none⟩) m (k - 1), .string (str n)] W fun e w' => GetPost W s e w') :
    Calls Tryd.prog 14 #[.pointer (some ⟨x.b, 0, none⟩), .slice (some ⟨B, off, none⟩) (m + 1) k, .string (str n)] w fun e w' => GetPost w s e w' := by
  obtain ⟨c0, c1, c2⟩ := h.cells hx
  have hlk := (h.alloc subBox).drew.look_kid hx l hl
  have hlt := h.lt ⟨p, x, hx, .inl rfl⟩
  obtain ⟨off', ho, hsl⟩ := slice_tl (m + 1) B off k (by omega) hk hk2
  have hm1 : (0 : Int) < ((m : Int) + 1) := by omega
  have hI := hIH
  clear hIH c1 c2
  obtain ⟨v, hv⟩ : ∃ v, ptrV (t (p ++ [l])) = v := ⟨_, rfl⟩
  rw [hv] at hlk hI
  obtain ⟨sa, sb, sq, hsf⟩ := sbO_form s
  have HI := Lib.hid (fun W hb => hI W off' (fun h => ho (by omega)) hb)
  unfold GetPost at HI ⊢
  rw [hsf] at HI ⊢
  clear hsf
  obtain ⟨si, hsi⟩ : ∃ b, s.isSome = b := ⟨_, rfl⟩
  rw [hsi] at HI ⊢
  clear hsi
  clear hI ho hv h hx
  simp only [Nat.add_sub_cancel] at hsl
  go_enter Tryd.func14, Tryd.ntmps14
  go_wp2_with fail
  generalize hwq : w.alloc (Obj.cells #[Value.string { data := #[] }, Value.string { data := #[] }, Value.int IntKind.i64 0] 30) = wq at hlk ⊢
  have hs1 : w.heap.size < wq.heap.size := by rw [← hwq]; simp
  have hbq : Below w.heap.size w wq := by rw [← hwq]; exact (Below.refl _ w).alloc (Nat.le_refl _) _
  have hrq : wq.heap[w.heap.size]? = some (.cells #[.string ⟨#[]⟩, .string ⟨#[]⟩, .int .i64 0] 30 (0, 0)) := by rw [← hwq]; exact heap_alloc_new _ _
  have d0 := hbq.cell (p := ⟨x.b, 0, none⟩) hlt; rw [c0] at d0
  have dc := hbq.cell (p := ⟨B, off, none⟩) hB; rw [hc] at dc
  have HX := Lib.hid (And.intro hs1 (And.intro hbq hrq))
  clear hwq hs1 hbq hrq c0 hc
  have HR := Lib.hid (show wq.drew.heap[w.heap.size]? = some (.cells #[.string ⟨#[]⟩, .string ⟨#[]⟩, .int .i64 0] 30 (0, 0)) ∧ w.heap.size < wq.drew.heap.size from ⟨HX.out.2.2, HX.out.1⟩)
  have HB := Lib.hid (show Below w.heap.size w wq.drew from ⟨HX.out.2.1.os, HX.out.2.1.tape, HX.out.2.1.output, HX.out.2.1.size, HX.out.2.1.block⟩)
  go_region_with (go_at_call 14; (refine (HI.out wq.drew HB.out).mono ?_; rintro e wz ⟨rfl, hbz⟩; have hrz := row_of HR.out.1 hbz HR.out.2; obtain ⟨z3, z0, z1, z2, g0, g1, g2⟩ := box3 hrz; have HZ := Lib.hid (And.intro hbz hrz); clear hbz hrz))
  all_goals
    go_wp2
    refine bodyPost_ret (results_ct rfl _ _ _ _ _ _ rfl (set3_row HZ.out.2 (.string sa) (.string sb) (.int .i64 sq)) Tryd.underlying30 (by kernel_rfl)) rfl ?_
    exact ⟨rfl, (((HB.out.trans (HZ.out.1.mono HB.out.size)).setCell (p := ⟨w.heap.size, 0, none⟩) (Nat.le_refl _) _).setCell (p := ⟨w.heap.size, 1, none⟩) (Nat.le_refl _) _).setCell (p := ⟨w.heap.size, 2, none⟩) (Nat.le_refl _) _⟩
/-- get: at any branch, or at none. -/
theorem get_any : ∀ (ls p : Pth) (w : World) (B off k : Nat) (n : Txt), TreeAt w t En C gs → n.length ≤ maxLen → (∀ l ∈ ls, l.length ≤ maxLen) → B < w.heap.size → ls.length ≤ k → k ≤ 9223372036854775807 → LvAt w B off ls →
    Calls Tryd.prog 14 #[ptrV (t p), .slice (some ⟨B, off, none⟩) ls.length k, .string (str n)] w fun e w' => GetPost w (En (p ++ ls) n) e w'
  | [], p, w, B, off, k, n, h, hn, _, _, _, _, _ => by
    rw [List.append_nil]
    cases hx : t p with
    | none =>
      have := h.gone hx [] n
      rw [List.append_nil] at this
      rw [this]
      exact get_none w _ _
    | some x => exact get_here h hx _ _ n hn
  | l :: ls, p, w, B, off, k, n, h, hn, hls, hB, hk, hk2, hlv => by
    cases hx : t p with
    | none =>
      rw [h.gone hx (l :: ls) n]
      exact get_none w _ _
    | some x =>
      refine get_on h hx B off k ls.length l n (hls l (by simp)) hB hk hk2 (hlv 0 l rfl) _ fun W off' ho hb => ?_
      have hlv' : LvAt W B off' ls := by
        cases ls with
        | nil => intro j x hj; cases hj
        | cons m ls => rw [ho (by simp)]; exact hlv.tl.block (hb.block B hB)
      have := get_any ls (p ++ [l]) W B off' (k - 1) n (h.below hb) hn (fun m hm => hls m (by simp [hm])) (Nat.lt_of_lt_of_le hB hb.size) (by simp at hk; omega) (by omega) hlv'
      rw [List.append_assoc] at this
      exact this
end Go.Proofs.YtjedffjfjgffeaaDoor
