/- Layer 12: the iterator over the runes of a text, by places. -/
import Derived.RangeFuncNested
import Derived.RangeFuncBound
import Derived.RangeFuncCalls
import Derived.RangeFuncLeaves
import Derived.Shelf.Abstract
import Derived.Shelf.RegionOpen
import Derived.OwnWalkIn
import Derived.TacticsInMore
import Derived.LoopNIn
import Derived.LoopIn
import Derived.Maps.AppendAt
import Derived.Lib.MinMax
import Derived.Test.YtgcfgheamaoceaaGreatDoorUtfC
namespace Go.Proofs.YtgcfgheamaoceaaGreatDoor
open Go.RowKit Go.Shelf

attribute [local go_sem] Oper.semAt_some

theorem str_lo (s : ByteArray) (k : Nat) (h : k ≤ s.size) (W : World) : (Instr.sliceAt 9 (.string s) none (some (.int .i64 k)) none).run Tryz.prog W = .ok (.string (s.extract 0 k)) W := by
  have h1 : (0 : Int) ≤ k := by omega
  have h2 : (k : Int) ≤ s.size := by omega
  simp [go_sem, h1, h2]
theorem str_hi (s : ByteArray) (k : Nat) (h : k ≤ s.size) (W : World) : (Instr.sliceAt 9 (.string s) (some (.int .i64 k)) none none).run Tryz.prog W = .ok (.string (s.extract k s.size)) W := by
  have h1 : (0 : Int) ≤ k := by omega
  have h2 : (k : Int) ≤ s.size := by omega
  simp [go_sem, h1, h2]
theorem min_at (n : Nat) (w : World) : (Builtin.min_ #[3, 3] 3 #[.int .i64 n, .int .i64 65535]).run Tryz.prog w = .ok (.int .i64 (min n 65535 : Nat)) w := by
  rw [Lib.run_min_ints, show min (n : Int) 65535 = ((min n 65535 : Nat) : Int) by omega]
theorem ext_tail (t : ByteArray) (p : Nat) : (t.extract p t.size).data.toList = t.data.toList.drop p := by
  rw [Lib.extract_data, List.take_of_length_le (by rw [List.length_drop, ← Lib.size_eq]; omega)]
/-- The runes, each with its place. -/
def pls : Nat → List Nat → List (Nat × Int)
  | _, [] => []
  | a, r :: t => (a, (r : Int)) :: pls (a + (lenB r + 1)) t
theorem textR_len_cons (r : Nat) (t : List Nat) : (textR (r :: t)).length = lenB r + 1 + (textR t).length := by
  simp [textR, rawR_length]
theorem pls_snoc (a : Nat) (rs : List Nat) (r : Nat) : pls a (rs ++ [r]) = pls a rs ++ [(a + (textR rs).length, (r : Int))] := by
  induction rs generalizing a with
  | nil => simp [pls, textR]
  | cons x t ih => simp only [List.cons_append, pls, ih, textR_len_cons, List.cons_append, Nat.add_assoc]
theorem pls_len (a : Nat) (rs : List Nat) : (pls a rs).length = rs.length := by
  induction rs generalizing a with
  | nil => rfl
  | cons x t ih => simp [pls, ih]
theorem textR_le (rs : List Nat) : rs.length ≤ (textR rs).length := by
  induction rs with
  | nil => exact Nat.zero_le _
  | cons x t ih => rw [textR_len_cons, List.length_cons]; omega
/-- All that the iterator hands over of a text that begins with these runes. -/
def plsAll (s : List UInt8) (rs : List Nat) : List (Nat × Int) := pls 0 rs ++ if (textR rs).length < s.length then [((textR rs).length, -1)] else []
def encR (x : Nat × Int) : Array Value := #[.int .i64 x.1, .int .i32 x.2]
/-- The runes with which a text begins. -/
abbrev Rd (s : ByteArray) (rs : List Nat) : Prop := Reads (s.data.toList.take 65535) rs
theorem Rd.le {s : ByteArray} {rs : List Nat} (h : Rd s rs) : (textR rs).length ≤ s.size ∧ (textR rs).length ≤ 65535 := by
  obtain ⟨-, rest, e, -⟩ := h
  have := congrArg List.length e
  rw [List.length_take, List.length_append, ← Lib.size_eq] at this
  omega
theorem Rd.short {s : ByteArray} {rs : List Nat} (h : Rd s rs) : rs.length + 1 ≤ 1000000 := by
  have h1 := h.le
  have h2 := textR_le rs
  omega
theorem Rd.dec_at {s : ByteArray} {rs : List Nat} (h : Rd s rs) {k : Nat} (hk : k < rs.length) : dec ((s.data.toList.take 65535).drop (textR (rs.take k)).length) = some (rs[k], lenB rs[k] + 1) := by
  obtain ⟨hg, rest, e, -⟩ := h
  have hs : rs = rs.take k ++ rs[k] :: rs.drop (k + 1) := by
    rw [List.getElem_cons_drop, List.take_append_drop]
  have h1 : textR rs = textR (rs.take k) ++ (rawR rs[k] ++ textR (rs.drop (k + 1))) := by
    conv => lhs; rw [hs]
    rw [textR_append]; rfl
  rw [e, h1, List.append_assoc, List.drop_left, List.append_assoc]
  exact dec_raw _ _ (hg _ (List.getElem_mem hk)).1 (hg _ (List.getElem_mem hk)).2
theorem Rd.dec_end {s : ByteArray} {rs : List Nat} (h : Rd s rs) : dec ((s.data.toList.take 65535).drop (textR rs).length) = none := by
  obtain ⟨hg, rest, e, hd⟩ := h
  rw [e, List.drop_left]; exact hd
theorem textR_take_succ (rs : List Nat) {k : Nat} (hk : k < rs.length) : (textR (rs.take (k + 1))).length = (textR (rs.take k)).length + (lenB rs[k] + 1) := by
  rw [List.take_succ_eq_append_getElem hk, textR_append, List.length_append, textR_one, rawR_length]
theorem textR_take_le (rs : List Nat) (k : Nat) : (textR (rs.take k)).length ≤ (textR rs).length := by
  conv => rhs; rw [← List.take_append_drop k rs, textR_append, List.length_append]
  omega
theorem pls_take_succ (rs : List Nat) {k : Nat} (hk : k < rs.length) : pls 0 (rs.take (k + 1)) = pls 0 (rs.take k) ++ [((textR (rs.take k)).length, (rs[k] : Int))] := by
  rw [List.take_succ_eq_append_getElem hk, pls_snoc, Nat.zero_add]
theorem pls_prefix (rs : List Nat) (k a : Nat) : pls a (rs.take k) <+: pls a rs := by
  induction rs generalizing k a with
  | nil => simp
  | cons r t ih =>
    cases k with
    | zero => simp [pls]
    | succ k =>
      have := ih k (a + (lenB r + 1))
      simpa [pls] using this

/-- runes: what it is called on is boxed. -/
theorem runes_in (F : Fence) (n : Nat) (hf : F.fn 150) (hro : F.round = none) (s : ByteArray) (w : World) :
    CallsIn F n Tryz.prog 150 #[.string s] w fun en w' => en = .returned (.func (.func 156) #[] #[.pointer (some ⟨w.heap.size, 0, none⟩)]) ∧
      w.alloc (.cells #[.string s] 9) = w' := by
  refine callsIn_of_wp Tryz.func150 rfl hf ?_ hro
  simp only [Tryz.ntmps150, List.size_toArray, List.length_cons, List.length_nil, Nat.reduceAdd, Nat.reduceSub, Array.replicate_succ, Array.replicate_zero, List.push_toArray, List.append_toArray, List.nil_append, List.cons_append]
  gi_wp2
  go_ret
  exact ⟨by simp, rfl⟩
set_option maxRecDepth 100000 in
set_option maxHeartbeats 2000000 in
theorem runes1_in (n : Nat) (hn : 1 ≤ n) (l S : Nat) (s : ByteArray) (rs : List Nat) (hrd : Rd s rs) (hs : s.size ≤ maxLen) (K : Nat → Prop) (hKS : K S) (hK2 : ∀ k, k < 3 → K k) (J Jx : List (Nat × Int) → World → Prop)
    (hY : ∀ pre (x : Nat × Int) W, J pre W → pre.length < rs.length + 1 → YieldAt Fence.wide (n - 1) Tryz.prog l (encR x) W fun en W' =>
      (en = .returned (.bool true) ∧ J (pre ++ [x]) W' ∧ KeepsOn K W W') ∨ (en = .returned (.bool false) ∧ Jx (pre ++ [x]) W'))
    (W : World) (hJ : AbidesFrom W.heap.size J) (hS : W.cell? ⟨S, 0, none⟩ = some (.string s)) (ht : Tabs W) (h0 : J [] W) :
    CallsIn Fence.wide n Tryz.prog 156 #[.func (.yield l) #[] #[], .pointer (some ⟨S, 0, none⟩)] W fun en W' => (∃ v, en = .returned v) ∧
      ((∃ ys, ys = plsAll s.data.toList rs ∧ J ys W') ∨ (∃ pre, pre <+: plsAll s.data.toList rs ∧ Jx pre W')) := by
  refine callsIn_of_wp Tryz.func156 rfl trivial ?_ rfl
  simp only [Tryz.ntmps156, List.size_toArray, List.length_cons, List.length_nil, Nat.reduceAdd, Nat.reduceSub, Array.replicate_succ, Array.replicate_zero, List.push_toArray, List.append_toArray, List.nil_append, List.cons_append]
  obtain ⟨hle1, hle2⟩ := hrd.le
  obtain ⟨M, hM⟩ : ∃ M, min s.size 65535 = M := ⟨_, rfl⟩
  have hmin := min_at s.size
  rw [hM] at hmin
  have hMs : M ≤ s.size := by omega
  have hlo := str_lo s M hMs
  obtain ⟨t, ht0⟩ : ∃ t, s.extract 0 M = t := ⟨_, rfl⟩
  have htl : t.data.toList = s.data.toList.take 65535 := by
    rw [← ht0, Lib.extract_data, List.drop_zero, Nat.sub_zero, ← hM]
    rw [Lib.size_eq]
    rcases Nat.le_total s.data.toList.length 65535 with h | h
    · rw [Nat.min_eq_left h, List.take_length, List.take_of_length_le h]
    · rw [Nat.min_eq_right h]
  have hts : t.size = M := by rw [Lib.size_eq, htl, List.length_take, ← Lib.size_eq]; omega
  rw [ht0] at hlo
  have HTL := Lib.hid (And.intro htl (And.intro hts hM))
  have HTB := Lib.hid (And.intro ht hS)
  have hsm : s.size ≤ 9223372036854775807 := hs
  clear htl hts hM ht0 ht
  gi_wp2
  gi_loopw [4, 5, 6, 12, 13, 14, 15, 16, 17, 18, 19, 20, 21, 22, 23, 24, 25, 26, 27, 28, 29, 30, 31, 32, 33, 34] (fun x _ _ _ _ _ _ _ _ _ _ _ _ _ _ _ _ _ _ _ _ _ _ _ _ _ wr => ∃ k : Nat, x = .int .i64 ((textR (rs.take k)).length : Nat) ∧ k ≤ rs.length ∧ J (pls 0 (rs.take k)) wr ∧ KeepsOn K W wr)
    (fun x _ _ _ _ _ _ _ _ _ _ _ _ _ _ _ _ _ _ _ _ _ _ _ _ _ _ => s.size - (intOf x).toNat)
  case atStart => exact ⟨0, rfl, Nat.zero_le _, h0, KeepsOn.refl _ _⟩
  case round =>
    obtain ⟨k, rfl, hk, hJr, hkr⟩ := hrel
    have c1 := (hkr.cell hKS).trans HTB.out.2
    have hp := textR_take_le rs k
    obtain ⟨p, hpe⟩ : ∃ p, (textR (rs.take k)).length = p := ⟨_, rfl⟩
    by_cases hkl : k < rs.length
    · have hd := hrd.dec_at hkl
      have hts := textR_take_succ rs hkl
      have hps := pls_take_succ rs hkl
      have htl := textR_take_le rs (k + 1)
      have hal : ∀ m, J (pls 0 (rs.take k)) (wr.drewN m) := fun m => hJ _ wr (wr.drewN m) none hJr ⟨rfl, rfl, rfl, Nat.le_refl _, fun _ _ _ => rfl⟩ (fun _ e => by cases e)
      have hpl := pls_len 0 (rs.take k)
      rw [List.length_take] at hpl
      have hlr := lenB_le rs[k]
      generalize rs[k] = r at *
      rw [hpe] at hd hts hps
      rw [hpe]
      have hF := first_any (t.extract p t.size) wr (HTB.out.1.keep fun k hk => hkr k (hK2 k hk)) (by rw [ByteArray.size_extract]; unfold maxLen; have := HTL.out.2.1; omega)
      have hFe : (t.extract p t.size).data.toList = (s.data.toList.take 65535).drop p := by rw [ext_tail, HTL.out.1]
      simp only [FirstPost, firR, firN, hFe, hd] at hF
      have hhi := str_hi t p (by have := HTL.out.2.1; have := HTL.out.2.2; omega)
      have HF := Lib.hid hF
      have HY := Lib.hid (fun m => hY _ (p, (r : Int)) (wr.drewN m) (hal m) (by omega))
      have HE := Lib.hid (And.intro hts hps)
      have HK := Lib.hid hkr
      have hlt : p < s.size := by omega
      have htl2 : p + (lenB r + 1) ≤ s.size := by omega
      clear hF hFe hd hY hal hts hps hkr hpl hpe hle1 hle2 hmin hlo hp htl
      generalize lenB r = lr at *
      gi_wp2_with (refine ⟨trivial, ?_⟩; gi_at_call 157; refine (callsIn_wide.2 HF.out).mono ?_; rintro en w2 ⟨rfl, m, rfl⟩; obtain ⟨fn, tmps, assign, body, hy, hR⟩ := HY.out m; simp only [encR] at hy)
      refine hR.mono ?_
      rintro en W3 (⟨rfl, hJ3, hk3⟩ | ⟨rfl, hJx3⟩)
      · gi_wp2
        go_roundw
        case rel => exact ⟨k + 1, by rw [HE.out.1]; go_num, by omega, by rw [HE.out.2]; exact hJ3, HK.out.trans (fun k hk => hk3 k hk)⟩
        case measure => simp [intOf]; omega
      · gi_wp2
        refine bodyPost_ret (results_none rfl _ _ _) rfl ?_
        refine ⟨⟨_, rfl⟩, .inr ⟨_, ?_, hJx3⟩⟩
        rw [← HE.out.2]
        exact (pls_prefix rs (k + 1) 0).trans (List.prefix_append _ _)
    · obtain rfl : k = rs.length := by omega
      rw [List.take_length] at hpe hJr hp
      have hd := hrd.dec_end
      rw [List.take_length]
      have hal : ∀ m, J (pls 0 rs) (wr.drewN m) := fun m => hJ _ wr (wr.drewN m) none hJr ⟨rfl, rfl, rfl, Nat.le_refl _, fun _ _ _ => rfl⟩ (fun _ e => by cases e)
      have hpl := pls_len 0 rs
      have hall : plsAll s.data.toList rs = pls 0 rs ++ if p < s.size then [(p, -1)] else [] := by unfold plsAll; rw [hpe, Lib.size_eq]
      rw [hpe] at hd
      rw [hpe]
      have hF := first_any (t.extract p t.size) wr (HTB.out.1.keep fun k hk => hkr k (hK2 k hk)) (by rw [ByteArray.size_extract]; unfold maxLen; have := HTL.out.2.1; omega)
      have hFe : (t.extract p t.size).data.toList = (s.data.toList.take 65535).drop p := by rw [ext_tail, HTL.out.1]
      simp only [FirstPost, firR, firN, hFe, hd] at hF
      have hhi := str_hi t p (by have := HTL.out.2.1; have := HTL.out.2.2; omega)
      have HF := Lib.hid hF
      have HY := Lib.hid (fun m => hY _ (p, -1) (wr.drewN m) (hal m) (by omega))
      by_cases hlt : p < s.size
      · rw [if_pos hlt] at hall
        have HA := Lib.hid hall
        clear hF hFe hd hY hal hkr hpl hpe hle1 hle2 hmin hlo hp hall
        gi_wp2_with (refine ⟨trivial, ?_⟩; gi_at_call 157; refine (callsIn_wide.2 HF.out).mono ?_; rintro en w2 ⟨rfl, m, rfl⟩; obtain ⟨fn, tmps, assign, body, hy, hR⟩ := HY.out m; simp only [encR] at hy)
        refine hR.mono ?_
        rintro en W3 (⟨rfl, hJ3, hk3⟩ | ⟨rfl, hJx3⟩)
        · gi_wp2
          refine bodyPost_ret (results_none rfl _ _ _) rfl ?_
          exact ⟨⟨_, rfl⟩, .inl ⟨_, rfl, by rw [HA.out]; exact hJ3⟩⟩
        · gi_wp2
          refine bodyPost_ret (results_none rfl _ _ _) rfl ?_
          exact ⟨⟨_, rfl⟩, .inr ⟨_, by rw [HA.out]; exact List.prefix_rfl, hJx3⟩⟩
      · rw [if_neg hlt, List.append_nil] at hall
        have HA := Lib.hid hall
        clear hF hFe hd hY hal hkr hpl hpe hle1 hle2 hmin hlo hp hall HY HF hhi
        gi_wp2
        go_end0
        exact ⟨⟨_, rfl⟩, .inl ⟨_, rfl, by rw [HA.out]; exact hJr⟩⟩
theorem runes_stops (n : Nat) (hn : 1 ≤ n) (S : Nat) (s : ByteArray) (rs : List Nat) (hrd : Rd s rs) (hs : s.size ≤ maxLen) (K : Nat → Prop) (hKS : K S) (hK2 : ∀ k, k < 3 → K k) (w : World) (hK : ∀ k, K k → k < w.heap.size) (hS : w.cell? ⟨S, 0, none⟩ = some (.string s)) (ht : Tabs w) :
    SeqStopsK Fence.wide n Tryz.prog 156 #[.pointer (some ⟨S, 0, none⟩)] encR (KeepsOn K) (fun ys => ys = plsAll s.data.toList rs) (fun pre => pre <+: plsAll s.data.toList rs) (rs.length + 1) w := fun l J Jx W hW hJ _ hY h0 =>
  runes1_in n hn l S s rs hrd hs K hKS hK2 J Jx hY W hJ (((KeepsOn.of_below hW hK).cell hKS).trans hS) (ht.keep fun k hk => KeepsOn.of_below hW hK k (hK2 k hk)) h0
theorem keepsOn_pb {K : Nat → Prop} {w : World} (hK : ∀ k, K k → k < w.heap.size) (W : World) (l : Nat) (o o' : Obj) (hl : w.heap.size ≤ l) (h : W.heap[l]? = some o) (_ : o.isCells = false) (_ : o.isWalk = false) : KeepsOn K W (W.putObj l o') :=
  .of_grown (grownBy_putObj' W l o') (fun k hk => by have := hK k hk; have := (Array.getElem?_eq_some_iff.1 h).1; exact ⟨by omega, fun e => by cases e; omega⟩)
end Go.Proofs.YtgcfgheamaoceaaGreatDoor
