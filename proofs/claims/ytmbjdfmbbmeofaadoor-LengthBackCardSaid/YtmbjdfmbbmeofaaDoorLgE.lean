/- Layer 15: the iterator over parts. -/
import Derived.RangeFuncNested
import Derived.RangeFuncBound
import Derived.RangeFuncCalls
import Derived.RangeFuncLeaves
import Derived.Shelf.Abstract
import Derived.Shelf.RegionOpen
import Derived.OwnWalkIn
import Derived.TacticsInMore
import Derived.LoopNIn
import Derived.LoopIn
import Derived.Maps.AppendAt
import Derived.Test.YtmbjdfmbbmeofaaDoorLgD
namespace Go.Proofs.YtmbjdfmbbmeofaaDoor
open Go.RowKit Go.Shelf

attribute [local go_sem] Oper.semAt_some

def encX (x : LgX) : Array Value := #[.agg #[.int .i64 x.head, .int .i64 ((x.head : Int) + x.size), .int .i64 ((x.head : Int) + x.size + x.many)], .int .i64 x.err]
/-- What a round keeps: the blocks that K names, and the spans. -/
structure LgKp (K : Nat → Prop) (A B : World) : Prop where
  on : KeepsOn K A B
  spans : ∀ (k : Nat) (cs : Array Value) (fr : Nat × Nat), A.heap[k]? = some (.cells cs 51 fr) → B.heap[k]? = A.heap[k]?
theorem LgKp.refl (K : Nat → Prop) (A : World) : LgKp K A A := ⟨KeepsOn.refl _ _, fun _ _ _ _ => rfl⟩
theorem LgKp.trans {K : Nat → Prop} {A B C : World} (h : LgKp K A B) (k : LgKp K B C) : LgKp K A C :=
  ⟨h.on.trans k.on, fun i cs fr hi => by have e := h.spans i cs fr hi; exact (k.spans i cs fr (e.trans hi)).trans e⟩
theorem drop_at {n₀ : Nat} {w : World} {b off : Nat} {l : List UInt8} (h : BytesAt n₀ w (some ⟨b, off, none⟩) l) (p : Nat) (hp : p < l.length) : BytesAt n₀ w (some ⟨b, off + p, none⟩) (l.drop p) := fun _ => by
  obtain ⟨b', off', e, hb, hc⟩ := h (by intro e; rw [e] at hp; simp at hp)
  cases e
  refine ⟨b, off + p, rfl, hb, fun j hj => ?_⟩
  rw [List.length_drop] at hj
  have := hc (p + j) (by omega)
  rw [List.getElem?_drop, ← Nat.add_assoc] at *
  exact this
/-- spans: what it is called on is boxed. -/
theorem spans_in (F : Fence) (n : Nat) (hf : F.fn 17) (hro : F.round = none) (a : Option Addr) (m c : Nat) (w : World) :
    CallsIn F n Tryd.prog 17 #[.slice a m c] w fun en w' => en = .returned (.func (.func 20) #[] #[.pointer (some ⟨w.heap.size, 0, none⟩)]) ∧
      w.alloc (.cells #[.slice a m c] 22) = w' := by
  refine callsIn_of_wp Tryd.func17 rfl hf ?_ hro
  simp only [Tryd.ntmps17, List.size_toArray, List.length_cons, List.length_nil, Nat.reduceAdd, Nat.reduceSub, Array.replicate_succ, Array.replicate_zero, List.push_toArray, List.append_toArray, List.nil_append, List.cons_append]
  gi_wp2
  go_ret
  exact ⟨by simp, rfl⟩
set_option maxRecDepth 100000 in
set_option maxHeartbeats 2000000 in
theorem spans1_in (n : Nat) (hn : 1 ≤ n) (lo S n₀ : Nat) (a : Option Addr) (l : List UInt8) (c : Nat) (hl : l.length ≤ 1000000) (hc : l.length ≤ c) (K : Nat → Prop) (hKS : K S) (hK2 : ∀ k, k < 0 + 1 → K k) (hKn : ∀ k, k < n₀ → K k) (J Jx : List LgX → World → Prop)
    (hY : ∀ pre (x : LgX) W, J pre W → pre.length < l.length + 1 → YieldAt Fence.wide (n - 1) Tryd.prog lo (encX x) W fun en W' =>
      (en = .returned (.bool true) ∧ J (pre ++ [x]) W' ∧ LgKp K W W') ∨ (en = .returned (.bool false) ∧ Jx (pre ++ [x]) W'))
    (W : World) (hJ : AbidesFrom W.heap.size J) (hKW : ∀ k, K k → k < W.heap.size) (hS : W.cell? ⟨S, 0, none⟩ = some (.slice a l.length c)) (hm : BytesAt n₀ W a l) (ht : LgTab W) (h0 : J [] W) :
    CallsIn Fence.wide n Tryd.prog 20 #[.func (.yield lo) #[] #[], .pointer (some ⟨S, 0, none⟩)] W fun en W' => (∃ v, en = .returned v) ∧
      ((∃ ys, ys = lgItems l hl (l.length + 1) 0 ∧ J ys W') ∨ (∃ pre, pre <+: lgItems l hl (l.length + 1) 0 ∧ Jx pre W')) := by
  refine callsIn_of_wp Tryd.func20 rfl trivial ?_ rfl
  simp only [Tryd.ntmps20, List.size_toArray, List.length_cons, List.length_nil, Nat.reduceAdd, Nat.reduceSub, Array.replicate_succ, Array.replicate_zero, List.push_toArray, List.append_toArray, List.nil_append, List.cons_append]
  have HX := Lib.hid (And.intro hm (And.intro ht hS))
  clear hm ht hS
  gi_wp2
  gi_loopw [3, 4, 5, 6, 7, 8, 9, 10, 11, 12, 13, 14, 15, 16, 17, 18, 19, 20, 21, 22, 23, 24, 25, 26, 27, 28, 29, 30, 31, 32, 33, 34, 35, 36, 37, 38, 39, 40] (fun x _ _ _ _ _ _ _ _ _ _ _ _ _ _ _ _ _ _ _ _ _ _ _ _ _ _ _ _ _ _ _ _ _ _ _ _ _ wr => ∃ (p f : Nat) (pre : List LgX), x = .int .i64 p ∧ p ≤ 300000000 ∧ l.length < f + p ∧ lgItems l hl (l.length + 1) 0 = pre ++ lgItems l hl f p ∧ J pre wr ∧ KeepsOn K W wr)
    (fun x _ _ _ _ _ _ _ _ _ _ _ _ _ _ _ _ _ _ _ _ _ _ _ _ _ _ _ _ _ _ _ _ _ _ _ _ _ _ => l.length - (intOf x).toNat)
  case atStart => exact ⟨0, l.length + 1, [], rfl, by omega, by omega, rfl, h0, KeepsOn.refl _ _⟩
  case round =>
    obtain ⟨p, f, pre, rfl, hp, hf, hit, hJr, hkr⟩ := hrel
    have c1 := (hkr.cell hKS).trans HX.out.2.2
    by_cases hlt : p < l.length
    · obtain ⟨f', rfl⟩ : ∃ f', f = f' + 1 := ⟨f - 1, by omega⟩
      have htr := HX.out.2.1.keep (fun k hk => hkr k (hK2 k hk))
      have hmr : BytesAt n₀ wr a l := fun hne => by
        obtain ⟨b, off, e, hb, hcl⟩ := HX.out.1 hne
        exact ⟨b, off, e, hb, fun j hj => (hkr.cell (hKn b hb)).trans (hcl j hj)⟩
      obtain ⟨b, off, rfl, hb, hcl⟩ := hmr (by intro e; rw [e] at hlt; simp at hlt)
      have hRD := readInt_any (some ⟨b, off + p, none⟩) (l.drop p) (c - p) n₀ wr (drop_at hmr p hlt) htr
      rw [List.length_drop] at hRD
      have hle := lgRead_le (l.drop p)
      have hitems : lgItems l hl (f' + 1) p = lgX l hl p hlt :: (if (lgRead (l.drop p)).2.1 = 0 then [] else lgItems l hl f' (p + (lgRead (l.drop p)).2.1 + (lgRead (l.drop p)).1)) := by
        conv => lhs; unfold lgItems
        rw [dif_pos hlt]
      have hlen := lgItems_len l hl (l.length + 1) 0
      rw [hit, hitems, List.length_append, List.length_cons] at hlen
      obtain ⟨x, hx⟩ : ∃ x, lgX l hl p hlt = x := ⟨_, rfl⟩
      have x1 : p = x.head := by rw [← hx]; rfl
      have x2 : (lgRead (l.drop p)).2.1 = x.size := by rw [← hx]; rfl
      have x3 : (lgRead (l.drop p)).1 = x.many := by rw [← hx]; rfl
      have x4 : (lgRead (l.drop p)).2.2 = x.err := by rw [← hx]; rfl
      rw [hx] at hitems
      have hno := lgRead_none (l.drop p)
      unfold LgPost lgTell at hRD
      rw [x2] at hle hitems hno hRD
      rw [x3] at hle hitems hno hRD
      rw [x4] at hle hRD
      rw [hitems] at hit
      obtain ⟨W2, hW2⟩ : ∃ W2, wr.alloc (.cells #[.int .i64 (p : Int), .int .i64 ((p : Int) + x.size), .int .i64 ((p : Int) + x.size + x.many)] 51) = W2 := ⟨_, rfl⟩
      have hJ2 : J pre W2 := by rw [← hW2]; exact hJ _ _ _ none hJr (World.grownBy_alloc _ _ none) (fun r e => by cases e)
      have hrow2 : W2.heap[wr.heap.size]? = some (.cells #[.int .i64 (p : Int), .int .i64 ((p : Int) + x.size), .int .i64 ((p : Int) + x.size + x.many)] 51 (0, 0)) := by rw [← hW2]; exact World.alloc_heap_new wr _
      have hk2 : KeepsOn K wr W2 := by rw [← hW2]; exact fun k hk => Below.heap_alloc wr _ k (by
        have h1 := hkr k hk
        rw [Array.getElem?_eq_getElem (hKW k hk)] at h1
        exact (Array.getElem?_eq_some_iff.1 h1).1)
      obtain ⟨fn, tmps, assign, body, hy, hRR⟩ := hY pre x W2 hJ2 (by omega)
      unfold encX at hy
      rw [← x1] at hy
      have HRD := Lib.hid hRD
      have HRR := Lib.hid hRR
      have HZ := Lib.hid (And.intro hit (And.intro hkr (And.intro hk2 (And.intro hrow2 (And.intro hno x1)))))
      have HW2 := Lib.hid hW2
      obtain ⟨hle1, hle2, hle3⟩ := hle
      generalize x.size = size at *
      generalize x.many = many at *
      generalize x.err = err at *
      clear hY hit hkr hk2 hrow2 hno hitems hlen hx x1 x2 x3 x4 hJr hJ2 hRD hRR hcl hmr htr hW2
      rw [← HW2.out] at hy
      by_cases hs0 : size = 0
      · have hs1 : ((size : Int) == 0) = true := by simpa using hs0
        have HS0 := Lib.hid hs0
        clear hs0
        gi_wp2_with (refine ⟨trivial, ?_⟩; gi_at_call 21; refine (callsIn_wide.2 HRD.out).mono ?_; rintro e w' ⟨rfl, rfl⟩)
        rw [HW2.out]
        refine HRR.out.mono ?_
        rintro en W3 (⟨rfl, hJ3, hk3⟩ | ⟨rfl, hJx3⟩)
        · have HJ := Lib.hid (And.intro hJ3 hk3)
          clear hJ3 hk3
          gi_wp2
          refine bodyPost_ret (results_none rfl _ _ _) rfl ?_
          obtain ⟨hit, -, -, -, -, -⟩ := HZ.out
          rw [if_pos HS0.out] at hit
          exact ⟨⟨_, rfl⟩, .inl ⟨_, hit.symm, HJ.out.1⟩⟩
        · gi_wp2
          refine bodyPost_ret (results_none rfl _ _ _) rfl ?_
          obtain ⟨hit, -, -, -, -, -⟩ := HZ.out
          exact ⟨⟨_, rfl⟩, .inr ⟨_, ⟨_, by rw [hit, List.append_assoc]; rfl⟩, hJx3⟩⟩
      · have hs1 : ((size : Int) == 0) = false := by simpa using hs0
        have HS0 := Lib.hid hs0
        have hs2 : 0 < size := by omega
        clear hs0
        gi_wp2_with (refine ⟨trivial, ?_⟩; gi_at_call 21; refine (callsIn_wide.2 HRD.out).mono ?_; rintro e w' ⟨rfl, rfl⟩)
        rw [HW2.out]
        refine HRR.out.mono ?_
        rintro en W3 (⟨rfl, hJ3, hk3⟩ | ⟨rfl, hJx3⟩)
        · have hrow3 := (hk3.spans _ _ _ HZ.out.2.2.2.1).trans HZ.out.2.2.2.1
          have hc3 := cell_of_row W3 _ 2 _ _ _ hrow3
          have HJ := Lib.hid (And.intro hJ3 hk3)
          simp only [List.getElem?_toArray, List.getElem?_cons_succ, List.getElem?_cons_zero] at hc3
          clear hJ3 hk3 hrow3
          gi_wp2
          go_roundw
          case rel =>
            obtain ⟨hJ3, hk3⟩ := HJ.out
            obtain ⟨hit, hkr, hk2, -, -, -⟩ := HZ.out
            rw [if_neg HS0.out] at hit
            exact ⟨p + size + many, f', pre ++ [x], by simp only [Int.natCast_add], by omega, by omega, by rw [hit]; simp, hJ3, (hkr.trans hk2).trans hk3.on⟩
          case measure => simp [intOf]; omega
        · gi_wp2
          refine bodyPost_ret (results_none rfl _ _ _) rfl ?_
          obtain ⟨hit, -, -, -, -, -⟩ := HZ.out
          exact ⟨⟨_, rfl⟩, .inr ⟨_, ⟨_, by rw [hit, List.append_assoc]; rfl⟩, hJx3⟩⟩
    · have hlp : ¬ (p : Int) < l.length := by omega
      have hend : lgItems l hl f p = [] := by
        cases f with
        | zero => rfl
        | succ f => unfold lgItems; rw [dif_neg hlt]
      rw [hend, List.append_nil] at hit
      have HY := Lib.hid (And.intro hit hJr)
      clear hit hJr hY hkr
      gi_wp2
      go_end0
      exact ⟨⟨_, rfl⟩, .inl (by rw [HY.out.1]; exact HY.out.2)⟩
theorem spans_stops (n : Nat) (hn : 1 ≤ n) (S n₀ : Nat) (a : Option Addr) (l : List UInt8) (c : Nat) (hl : l.length ≤ 1000000) (hc : l.length ≤ c) (K : Nat → Prop) (hKS : K S) (hK2 : ∀ k, k < 0 + 1 → K k) (hKn : ∀ k, k < n₀ → K k)
    (w : World) (hKW : ∀ k, K k → k < w.heap.size) (hS : w.cell? ⟨S, 0, none⟩ = some (.slice a l.length c)) (hm : BytesAt n₀ w a l) (ht : LgTab w) :
    SeqStopsK Fence.wide n Tryd.prog 20 #[.pointer (some ⟨S, 0, none⟩)] encX (LgKp K) (fun ys => ys = lgItems l hl (l.length + 1) 0) (fun pre => pre <+: lgItems l hl (l.length + 1) 0) (l.length + 1) w := fun lo J Jx W hW hJ _ hY h0 =>
  have hk : KeepsOn K w W := KeepsOn.of_below hW hKW
  spans1_in n hn lo S n₀ a l c hl hc K hKS hK2 hKn J Jx hY W hJ (fun k h => Nat.lt_of_lt_of_le (hKW k h) hW.size) ((hk.cell hKS).trans hS)
    (fun hne => by
      obtain ⟨b, off, e, hb, hcl⟩ := hm hne
      exact ⟨b, off, e, hb, fun j hj => (hk.cell (hKn b hb)).trans (hcl j hj)⟩) (ht.keep fun k h => hk k (hK2 k h)) h0
end Go.Proofs.YtmbjdfmbbmeofaaDoor
