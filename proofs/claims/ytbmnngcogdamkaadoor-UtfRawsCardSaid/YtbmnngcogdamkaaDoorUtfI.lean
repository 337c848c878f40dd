/- Layer 12: a slice of runes in memory; the iterator over it; Raw's look ahead. -/
import Derived.Test.YtbmnngcogdamkaaDoorUtfF
namespace Go.Proofs.YtbmnngcogdamkaaDoor
open Go.RowKit Go.Shelf

attribute [local go_sem] Oper.semAt_some

/-- From the slice's address on lie these numbers, in a block that K names. -/
def RnOn (K : Nat → Prop) (W : World) (a : Option Addr) (l : List Int) : Prop := l ≠ [] → ∃ b off, a = some ⟨b, off, none⟩ ∧ K b ∧ ∀ j, j < l.length → W.cell? ⟨b, off + j, none⟩ = some (.int .i32 (l[j]?.getD 0))
theorem RnOn.keeps {K : Nat → Prop} {A B : World} {a : Option Addr} {l : List Int} (h : KeepsOn K A B) (k : RnOn K A a l) : RnOn K B a l := fun hl => by
  obtain ⟨b, off, rfl, hb, hc⟩ := k hl
  exact ⟨b, off, rfl, hb, fun j hj => (h.cell hb).trans (hc j hj)⟩
theorem RnOn.mono {K K' : Nat → Prop} {A : World} {a : Option Addr} {l : List Int} (hn : ∀ b, K b → K' b) (k : RnOn K A a l) : RnOn K' A a l := fun hl => by
  obtain ⟨b, off, rfl, hb, hc⟩ := k hl
  exact ⟨b, off, rfl, hn b hb, hc⟩
abbrev Lt (n k : Nat) : Prop := k < n
def idxL : Nat → List Int → List (Nat × Int)
  | _, [] => []
  | a, r :: t => (a, r) :: idxL (a + 1) t
theorem idxL_snoc (a : Nat) (l : List Int) (r : Int) : idxL a (l ++ [r]) = idxL a l ++ [(a + l.length, r)] := by
  induction l generalizing a with
  | nil => simp [idxL]
  | cons x t ih => simp only [List.cons_append, idxL, ih, List.length_cons]; rw [show a + 1 + t.length = a + (t.length + 1) by omega]
theorem idxL_len (a : Nat) (l : List Int) : (idxL a l).length = l.length := by
  induction l generalizing a with
  | nil => rfl
  | cons x t ih => simp [idxL, ih]
theorem idxL_prefix (l : List Int) (k a : Nat) : idxL a (l.take k) <+: idxL a l := by
  induction l generalizing k a with
  | nil => simp
  | cons r t ih =>
    cases k with
    | zero => simp [idxL]
    | succ k =>
      have := ih k (a + 1)
      simpa [idxL] using this
theorem suchL_idx (p : Int → Bool) (a : Nat) (l : List Int) : (suchL p (idxL a l)).length = (l.filter p).length := by
  induction l generalizing a with
  | nil => rfl
  | cons r t ih =>
    have := ih (a + 1)
    unfold suchL at this ⊢
    rw [List.length_map] at this ⊢
    simp only [idxL, List.filter_cons]
    cases p r <;> simp [this]
theorem all_in (F : Fence) (n : Nat) (hf : F.fn 24) (hro : F.round = none) (a : Option Addr) (m c : Nat) (w : World) :
    CallsIn F n Tryd.prog 24 #[.slice a m c] w fun en w' => en = .returned (.func (.func 33) #[] #[.pointer (some ⟨w.heap.size, 0, none⟩)]) ∧
      w.alloc (.cells #[.slice a m c] 23) = w' := by
  refine callsIn_of_wp Tryd.func24 rfl hf ?_ hro
  simp only [Tryd.ntmps24, List.size_toArray, List.length_cons, List.length_nil, Nat.reduceAdd, Nat.reduceSub, Array.replicate_succ, Array.replicate_zero, List.push_toArray, List.append_toArray, List.nil_append, List.cons_append]
  gi_wp2
  go_ret
  exact ⟨by simp, rfl⟩
set_option maxRecDepth 100000 in
set_option maxHeartbeats 2000000 in
theorem all1_in (n : Nat) (hn : 1 ≤ n) (l S : Nat) (a : Option Addr) (rs : List Int) (c : Nat) (hc : rs.length ≤ 1000000) (K : Nat → Prop) (J Jx : List (Nat × Int) → World → Prop)
    (hY : ∀ pre (x : Nat × Int) W, J pre W → pre.length < rs.length + 1 → YieldAt Fence.wide (n - 1) Tryd.prog l (encR x) W fun en W' =>
      (en = .returned (.bool true) ∧ J (pre ++ [x]) W' ∧ KeepsOn K W W') ∨ (en = .returned (.bool false) ∧ Jx (pre ++ [x]) W'))
    (W : World) (hS : W.cell? ⟨S, 0, none⟩ = some (.slice a rs.length c)) (hR : RnOn K W a rs) (h0 : J [] W) :
    CallsIn Fence.wide n Tryd.prog 33 #[.func (.yield l) #[] #[], .pointer (some ⟨S, 0, none⟩)] W fun en W' => (∃ v, en = .returned v) ∧
      ((∃ ys, ys = idxL 0 rs ∧ J ys W') ∨ (∃ pre, pre <+: idxL 0 rs ∧ Jx pre W')) := by
  refine callsIn_of_wp Tryd.func33 rfl trivial ?_ rfl
  simp only [Tryd.ntmps33, List.size_toArray, List.length_cons, List.length_nil, Nat.reduceAdd, Nat.reduceSub, Array.replicate_succ, Array.replicate_zero, List.push_toArray, List.append_toArray, List.nil_append, List.cons_append]
  have HR := Lib.hid hR
  clear hR
  gi_wp2
  gi_loopw [3, 4, 7, 8, 9, 10, 11, 12, 13, 14, 15, 16, 17] (fun _ _ x _ _ _ _ _ _ _ _ _ _ wr => ∃ k : Nat, x = .int .i64 k ∧ k ≤ rs.length ∧ J (idxL 0 (rs.take k)) wr ∧ KeepsOn K W wr)
    (fun _ _ x _ _ _ _ _ _ _ _ _ _ _ => rs.length - (intOf x).toNat)
  case atStart => exact ⟨0, rfl, Nat.zero_le _, h0, KeepsOn.refl _ _⟩
  case round =>
    obtain ⟨k, rfl, hk, hJr, hkr⟩ := hrel
    by_cases hlt : k < rs.length
    · obtain ⟨b, off, rfl, hb, hcl⟩ := HR.out.keeps hkr (by intro e; rw [e] at hlt; simp at hlt)
      have hck := hcl k hlt
      have hps : idxL 0 (rs.take (k + 1)) = idxL 0 (rs.take k) ++ [(k, rs[k]?.getD 0)] := by
        rw [List.take_succ_eq_append_getElem hlt, idxL_snoc, List.length_take, Nat.zero_add, Nat.min_eq_left (by omega), List.getElem?_eq_getElem hlt]; rfl
      have hpl := idxL_len 0 (rs.take k)
      rw [List.length_take] at hpl
      have hlk : (k : Int) < rs.length := by omega
      obtain ⟨fn, tmps, assign, body, hy, hRR⟩ := hY _ (k, rs[k]?.getD 0) wr hJr (by omega)
      simp only [encR] at hy
      have HE := Lib.hid hps
      have HK := Lib.hid hkr
      have HRR := Lib.hid hRR
      generalize rs[k]?.getD 0 = r at *
      clear hY hJr hkr hpl hcl hps hRR
      gi_wp2
      refine HRR.out.mono ?_
      rintro en W3 (⟨rfl, hJ3, hk3⟩ | ⟨rfl, hJx3⟩)
      · gi_wp2
        go_roundw
        case rel => exact ⟨k + 1, by go_num, by omega, by rw [HE.out]; exact hJ3, HK.out.trans hk3⟩
        case measure => simp [intOf]; omega
      · gi_wp2
        refine bodyPost_ret (results_none rfl _ _ _) rfl ?_
        refine ⟨⟨_, rfl⟩, .inr ⟨_, ?_, hJx3⟩⟩
        rw [← HE.out]
        exact idxL_prefix rs (k + 1) 0
    · obtain rfl : k = rs.length := by omega
      rw [List.take_length] at hJr
      have hlk : ¬ ((rs.length : Int) < rs.length) := by omega
      clear hY hkr
      gi_wp2
      go_end0
      exact ⟨⟨_, rfl⟩, .inl hJr⟩
theorem all_stops (n : Nat) (hn : 1 ≤ n) (S : Nat) (a : Option Addr) (rs : List Int) (c : Nat) (hc : rs.length ≤ 1000000) (K : Nat → Prop) (hKS : K S) (w : World) (hK : ∀ k, K k → k < w.heap.size) (hS : w.cell? ⟨S, 0, none⟩ = some (.slice a rs.length c)) (hR : RnOn K w a rs) :
    SeqStopsK Fence.wide n Tryd.prog 33 #[.pointer (some ⟨S, 0, none⟩)] encR (KeepsOn K) (fun ys => ys = idxL 0 rs) (fun pre => pre <+: idxL 0 rs) (rs.length + 1) w := fun l J Jx W hW _ _ hY h0 =>
  all1_in n hn l S a rs c hc K J Jx hY W (((KeepsOn.of_below hW hK).cell hKS).trans hS) (hR.keeps (KeepsOn.of_below hW hK)) h0
theorem notRune_any (q : Int) (w : World) : Calls Tryd.prog 25 #[.int .i32 q] w fun e w' => e = .returned (.bool (!mayZ q)) ∧ Below w.heap.size w w' := by
  have H := Lib.hid (isRune_any q w)
  generalize mayZ q = b at *
  go_enter Tryd.func25, Tryd.ntmps25
  go_wp2_with (go_at_call 26; refine H.out.mono ?_; rintro e w' ⟨rfl, rfl⟩)
  go_ret
  exact ⟨rfl, Below.refl _ _⟩
/-- The error of runes, where all of them may be. -/
def RawPost (w : World) (b : List UInt8) (z : Int) (e : Ending) (w' : World) : Prop := e = .returned (.tuple #[.string ⟨b.toArray⟩, .int .i64 z]) ∧ Below w.heap.size w w'
/-- What lies ahead of Raw's loop. -/
def LookAt (w : World) (rs : List Int) (e : Ending) (w' : World) : Prop := ∃ a c, e = .returned (.slice a (rs.filter fun q => !mayZ q).length c) ∧ Below w.heap.size w w'
theorem look_any (a : Option Addr) (rs : List Int) (c : Nat) (hc : rs.length ≤ 100000) (w w1 : World) (hw1 : w.alloc (.cells #[.slice a rs.length c] 23) = w1) (hR : RnOn (Lt w.heap.size) w a rs) :
    Calls Tryd.prog 23 #[.func (.func 33) #[] #[.pointer (some ⟨w.heap.size, 0, none⟩)], .func (.func 25) #[] #[]] w1 fun e w' => LookAt w1 rs e w' := by
  have hs1 : w1.heap.size = w.heap.size + 1 := by rw [← hw1]; simp
  have hb1 : Below w.heap.size w w1 := by rw [← hw1]; exact (Below.refl _ w).alloc (Nat.le_refl _) _
  have hS : w1.cell? ⟨w.heap.size, 0, none⟩ = some (.slice a rs.length c) := by rw [← hw1]; exact (Boxed.new w _ _).cell
  have hR1 : RnOn (Lt w1.heap.size) w1 a rs := (hR.keeps (KeepsOn.of_below hb1 fun _ h => h)).mono fun b hb => by have : b < w.heap.size := hb; show b < _; omega
  refine (callsIn_wide.1 (sievedL_wide 4 (by decide) w.heap.size (fun q => !mayZ q) (idxL 0 rs) _ (rs.length + 1) (by omega) (Lt w1.heap.size) w1 (fun _ h => h)
    (all_stops 3 (by decide) w.heap.size a rs c (by omega) (Lt w1.heap.size) (by show _ < _; omega) w1 (fun _ h => h) hS hR1)
    (fun q W _ => notRune_any q W))).mono ?_
  rintro e w' ⟨a', c', rfl, hb⟩
  exact ⟨a', c', by rw [suchL_idx], hb⟩
theorem filter_none {rs : List Int} (h : ∀ q ∈ rs, mayZ q = true) : (rs.filter fun q => !mayZ q).length = 0 := by
  rw [List.length_eq_zero_iff, List.filter_eq_nil_iff]
  intro q hq
  rw [h q hq]; decide
theorem filter_some {rs : List Int} (h : ¬ ∀ q ∈ rs, mayZ q = true) : 0 < (rs.filter fun q => !mayZ q).length := by
  rcases Nat.eq_zero_or_pos (rs.filter fun q => !mayZ q).length with h0 | h0
  · rw [List.length_eq_zero_iff, List.filter_eq_nil_iff] at h0
    refine absurd (fun q hq => ?_) h
    have := h0 q hq
    cases hm : mayZ q with
    | true => rfl
    | false => rw [hm] at this; exact absurd rfl this
  · exact h0
end Go.Proofs.YtbmnngcogdamkaaDoor
