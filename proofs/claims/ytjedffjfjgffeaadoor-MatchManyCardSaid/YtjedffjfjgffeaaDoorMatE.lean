/- Layer 14: put. -/
import Derived.Test.YtjedffjfjgffeaaDoorMatD
namespace Go.Proofs.YtjedffjfjgffeaaDoor
open Go.RowKit Go.MapKept Go.ChangeMaps

variable {w w' : World} {t : Tr} {En : Pth → Txt → Option Sb} {C : Pth → Nat} {gs : List (Pth × Txt)}
theorem putE_end (En : Pth → Txt → Option Sb) (p : Pth) (n : Txt) (s : Sb) : endV (putE En p n (some s)) p = putT (endV En p) n (sbV s) := by
  funext c
  unfold endV putE putT
  by_cases hc : c = n
  · simp [hc]
  · simp [hc]
theorem TreeAt.few_put (h : TreeAt w t En C gs) {p : Pth} {n : Txt} (hg : (p, n) ∈ gs) (s : Sb) : Few (putT (endV En p) n (sbV s)) :=
  ⟨gs.map fun r => r.2, by simpa using h.few, fun c hc => by
    unfold putT at hc
    by_cases hcn : c = n
    · exact List.mem_map.2 ⟨_, hg, hcn.symm⟩
    · rw [if_neg hcn] at hc
      unfold endV at hc
      rw [Option.isSome_map] at hc
      exact List.mem_map.2 ⟨_, h.ents p c hc, rfl⟩⟩
abbrev boxOf (s : Sb) : Obj := .cells #[.string (str s.f), .string (str s.c), .int .i64 (s.q : Int)] 30
/-- One more at a branch, if there was none. -/
def addC (C : Pth → Nat) (p : Pth) (was : Bool) : Pth → Nat := fun q => if q = p then C p + (if was then 0 else 1) else C q
theorem addC_true (C : Pth → Nat) (p : Pth) : addC C p true = C := by
  funext q
  unfold addC
  by_cases hq : q = p
  · simp [hq]
  · simp [hq]
theorem addC_false (C : Pth → Nat) (p : Pth) : addC C p false = fun q => if q = p then C p + 1 else C q := by
  funext q
  unfold addC
  by_cases hq : q = p
  · simp [hq]
  · simp [hq]
set_option maxRecDepth 100000 in
set_option maxHeartbeats 2000000 in
theorem put_here (h : TreeAt w t En C gs) {p : Pth} {x : Nd} (hx : t p = some x) (a : Option Addr) (k : Nat) (n : Txt) (s : Sb) (hn : n.length ≤ maxLen) (hg : (p, n) ∈ gs) (hle : C p < 5000) :
    Calls Tryd.prog 30 #[.pointer (some ⟨x.b, 0, none⟩), .slice a 0 k, .string (str n), sbV s] w fun e w' => e = .returned (.bool (!(En p n).isSome)) ∧ TreeAt w' t (putE En p n (some s)) (addC C p (En p n).isSome) gs ∧ Kp (Foot t) w w' := by
  obtain ⟨c0, c1, c2⟩ := h.cells hx
  have hlk := (h.alloc (boxOf s)).look_end hx n hn
  have hlt := h.lt ⟨p, x, hx, .inl rfl⟩
  have hlt2 := h.lt ⟨p, x, hx, .inr (.inr rfl)⟩
  obtain ⟨sa, sb, sq, hsf⟩ := sbO_form (En p n)
  rw [hsf] at hlk
  obtain ⟨i, hi⟩ : ∃ i, (En p n).isSome = i := ⟨_, rfl⟩
  rw [hi] at hlk ⊢
  have H := Lib.hid (And.intro h hi)
  have HF := Lib.hid (h.few_put hg s)
  have HG := Lib.hid hg
  clear h hsf hi c0 hg
  unfold sbV
  go_enter Tryd.func30, Tryd.ntmps30
  go_wp2_with fail
  generalize hwq : (w.alloc (boxOf s)).alloc (.cells #[.string sa, .string sb, .int .i64 sq] 30) = wq
  have hbq : Below w.heap.size w wq := by rw [← hwq]; exact ((Below.refl _ w).alloc (Nat.le_refl _) _).alloc (by simp) _
  have hrq : wq.heap[w.heap.size]? = some (boxOf s) := by
    rw [← hwq, (World.grownBy_alloc _ _ none).block _ (by simp) (by simp)]; exact (MapKept.heap_alloc w _).1
  have hT : TreeAt wq.drew t En C gs := (H.out.1.below hbq).drew
  obtain ⟨v0, st, w1, w2, r1, g1, r2, m2, g2⟩ := (hT.ends p x hx).entry (T := 50) (E := 30) Tryd.underlying9 Tryd.underlying50 zero_sub (str n) hn (sbV s) (by rw [str_toList]; exact HF.out)
  have hxe := (H.out.1.own p x hx).2.1
  have hsz := hbq.size
  have q1 := hbq.cell (p := ⟨x.b, 1, none⟩) hlt; rw [c1] at q1
  obtain ⟨b3, b0, b1, b2, -, -, -⟩ := box3 hrq
  have hd1 : ∀ k, k < wq.heap.size → k ≠ x.e → w1.heap[k]? = wq.heap[k]? := fun k hk hne => g1.block k hk fun e => hne (by injection e)
  have k1 : w1.cell? ⟨x.b, 1, none⟩ = some (.map (some x.e)) := (World.cell?_of_block (a := ⟨x.b, 1, none⟩) (hd1 _ (by show x.b < _; omega) hxe)).trans q1
  have k0 := box3 (show w1.heap[w.heap.size]? = some (boxOf s) from (hd1 _ b3 (by omega)).trans hrq)
  obtain ⟨-, k00, k01, k02, -, -, -⟩ := k0
  have H2 := Lib.hid (And.intro m2 (And.intro g1 (And.intro g2 (And.intro hbq hT))))
  unfold sbV at r2
  clear hwq hbq hrq hT m2 g1 g2 hd1 b3 c1 c2 hlk
  go_region_with fail
  all_goals
    obtain ⟨m2, g1, g2, hbq, hT⟩ := H2.out
    rw [str_toList, ← putE_end] at m2
    obtain ⟨hT2, hK2⟩ := hT.ended hx g2 m2 (fun q hq c => by unfold putE; rw [if_neg (fun e => hq e.1)]) (fun q c hc => by
      unfold putE at hc
      by_cases e : q = p ∧ c = n
      · rw [e.1, e.2]; exact HG.out
      · rw [if_neg e] at hc; exact hT.ents q c hc)
    have hKw : Kp (Foot t) w w2 := (Kp.of_below (F := Foot t) hbq).drew.trans hK2
    obtain ⟨-, -, c2⟩ := hT2.cells hx
    have z2 := (box3 (hT2.row p x hx)).2.2.2.2.2.2
    have hxl := hT2.lt ⟨p, x, hx, .inl rfl⟩
    have hC : (IntKind.i64.wrap ((C p : Int) + 1)) = ((C p + 1 : Nat) : Int) := by rw [IntKind.wrap_i64]; omega
    have HK := Lib.hid (And.intro hT2 hKw)
    clear m2 g1 g2 hbq hT hT2 hK2 hKw q1 b0 b1 b2 k1 k00 k01 k02 r1 r2
    cases i with
    | true =>
      go_wp2
      go_ret
      refine ⟨rfl, ?_, HK.out.2⟩
      rw [addC_true]
      exact HK.out.1
    | false =>
      go_wp2
      go_ret
      obtain ⟨hS, hK⟩ := HK.out.1.sized hx (C p + 1) (by omega)
      refine ⟨rfl, ?_, HK.out.2.trans hK⟩
      rw [addC_false]
      exact hS
end Go.Proofs.YtjedffjfjgffeaaDoor
