/- Layer 7: the law: pages are taken by their numbers. -/
import Derived.Test.YtmjjgdoekblelaaSpLc
import Derived.Test.YtmjjgdoekblelaaReg4
import Derived.Test.YtmjjgdoekblelaaSpM
import Derived.Deep.DeepCutAuto
namespace Go.Proofs.Ytmjjgdoekblelaa
open Go.RowKit

/-- While all pages are taken: those that were. -/
structure Le1 (N : Nat) (w0 wr : World) (B : Nat) (s0 s : Spc) (fs : List Nat) (v : Value) : Prop where
  sp : IsSp N wr B s
  own : OwnP wr N v fs
  all : fs ++ cands s = cands s0
  two : ∀ p ∈ fs, s.now p = some 2
  most : s.most = s0.most
  undo : s.undo = s0
  below : Below N w0 wr
theorem put_two {s : Spc} {fs : List Nat} (h : ∀ p ∈ fs, s.now p = some 2) (k : Nat) : ∀ p ∈ fs ++ [k], plPut s.now k 2 p = some 2 := fun p hp => by
  unfold plPut
  split
  · rfl
  · rename_i hne
    rcases List.mem_append.1 hp with hp | hp
    · exact h p hp
    · exact absurd (List.mem_singleton.1 hp) hne
theorem Le1.app {N : Nat} {w0 wr w2 : World} {B k : Nat} {s0 s : Spc} {fs r : List Nat} {v : Value} (h : Le1 N w0 wr B s0 s fs v) (hc : cands s = k :: r) (hs : IsSp N w2 B s.take.1) (hk : SpKeeps N wr w2) (hf : fs.length ≤ 58) (ty : Nat) :
    ∃ v' w', (Builtin.append_ #[23, 23] ty #[v, .slice (some ⟨w2.heap.size, 0, none⟩) 1 1]).run Try.prog (w2.alloc (.cells #[.int .i64 k] 2)) = .ok v' w' ∧ Le1 N w0 w' B s0 s.take.1 (fs ++ [k]) v' := by
  have hn := hs.n_le
  have hz : Below w2.heap.size w2 (w2.alloc (.cells #[.int .i64 k] 2)) := (Below.refl _ _).alloc (Nat.le_refl _) _
  have hO : OwnP w2 N v fs := hk.row h.own (by decide)
  obtain ⟨v', w', hr, h1, h2⟩ := app_nums (w2.alloc (.cells #[.int .i64 k] 2)) ty N (by simp; omega) v fs (ownP_below hO hz) w2.heap.size 0 1 [k] (fun j hj => by
    have hj0 : j = 0 := by simp at hj; omega
    subst hj0
    exact (Boxed.new w2 _ _).cell) (by simp; omega)
  have hO2 := ownP_below hO hz
  refine ⟨v', w', hr, (hs.below hz).grown h2 hO2.own, h1, ?_, ?_, ?_, ?_, ?_⟩
  · rw [take_rest hc, List.append_assoc, ← h.all, hc]; rfl
  · rw [take_some hc]; exact put_two h.two k
  · rw [take_some hc]; exact h.most
  · rw [take_some hc]; exact h.undo
  · exact (h.below.trans (hk.below.trans (hz.mono hn))).grown h2 (by simp; omega) (fun g e => (World.ownsRow.lt hO2 g e).1)
/-- While pages are given back: those that were taken, those of them that are left. -/
structure Le2 (N : Nat) (w0 wr : World) (B : Nat) (s0 s : Spc) (fs : List Nat) (v1 : Value) (l : List Nat) (v2 : Value) : Prop where
  sp : IsSp N wr B s
  own1 : OwnP wr N v1 fs
  own2 : OwnP wr N v2 l
  nodup : l.Nodup
  two : ∀ p ∈ l, s.now p = some 2
  count : (cands s).length + l.length = fs.length
  undo : s.undo = s0
  below : Below N w0 wr
theorem without_nodup {l : List Nat} (h : l.Nodup) (q : Nat) : (l.take q ++ l.drop (q + 1)).Nodup := by
  rw [← List.eraseIdx_eq_take_drop_succ]
  exact h.sublist (List.eraseIdx_sublist l q)
theorem without_mem {l : List Nat} (h : l.Nodup) {q x : Nat} (hq : q < l.length) (hx : x ∈ l.take q ++ l.drop (q + 1)) : x ∈ l ∧ x ≠ l[q]?.getD 0 := by
  rw [← List.eraseIdx_eq_take_drop_succ] at hx
  refine ⟨(List.eraseIdx_sublist l q).mem hx, fun e => ?_⟩
  obtain ⟨i, hne, hi⟩ := List.mem_eraseIdx_iff_getElem?.1 hx
  rw [List.getElem?_eq_getElem hq] at e
  replace e : x = l[q] := e
  obtain ⟨hil, hx⟩ := List.getElem?_eq_some_iff.1 hi
  exact hne ((List.getElem_inj h).1 (hx.trans e))
theorem Le2.without {N : Nat} {w0 wr w5 w8 : World} {B : Nat} {s0 s : Spc} {fs l : List Nat} {v1 v2 v8 : Value} (h : Le2 N w0 wr B s0 s fs v1 l v2) {q : Nat} (hq : q < l.length) (hs : IsSp N w5 B (s.give ((l[q]?.getD 0 : Nat) : Int)).1) (hk : SpKeeps N wr w5) (ho : OwnP w8 w5.heap.size v8 (l.take q ++ l.drop (q + 1))) (hb : Below w5.heap.size w5 w8) :
    Le2 N w0 w8 B s0 (s.give ((l[q]?.getD 0 : Nat) : Int)).1 fs v1 (l.take q ++ l.drop (q + 1)) v8 := by
  have hmem : l[q]?.getD 0 ∈ l := by rw [List.getElem?_eq_getElem hq]; exact List.getElem_mem hq
  obtain ⟨-, g1, g2⟩ := give_more h.sp.ok (h.two _ hmem)
  have hc := h.count
  refine ⟨hs.below hb, ownP_below (hk.row h.own1 (by decide)) hb, row_mono ho hs.n_le, without_nodup h.nodup q, fun x hx => ?_, ?_, ?_, h.below.trans (hk.below.trans (hb.mono hs.n_le))⟩
  · obtain ⟨m1, m2⟩ := without_mem h.nodup hq hx
    rw [g1]
    show plPut s.now (l[q]?.getD 0) 4 x = some 2
    unfold plPut
    rw [if_neg m2]; exact h.two x m1
  · rw [g2, List.length_append, List.length_take, List.length_drop]; omega
  · rw [g1]; exact h.undo
/-- A pick picks one of those that are left. -/
theorem pick_at (z : Int) {n : Nat} (h0 : 0 < n) (h : n ≤ 5000) : ∃ q : Nat, (wrap64 (z.tmod (n : Int) + (n : Int))).tmod (n : Int) = (q : Int) ∧ q < n := by
  have h1 := Int.tmod_lt_of_pos z (show (0 : Int) < n by omega)
  have h2 := Int.lt_tmod_of_pos z (show (0 : Int) < n by omega)
  generalize z.tmod (n : Int) = t at *
  have e : wrap64 (t + n) = t + n := by unfold wrap64; omega
  rw [e, Int.tmod_eq_emod_of_nonneg (by omega)]
  have h3 := Int.emod_nonneg (t + n) (show (n : Int) ≠ 0 by omega)
  have h4 := Int.emod_lt_of_pos (t + n) (show (0 : Int) < n by omega)
  exact ⟨((t + n) % (n : Int)).toNat, by omega, by omega⟩
/-- While they are taken again: how many are left to take, and that these are greater than the last one. -/
structure Le3 (N : Nat) (w0 wr : World) (B : Nat) (s0 s : Spc) (fs : List Nat) (v1 : Value) (i last : Nat) : Prop where
  sp : IsSp N wr B s
  own1 : OwnP wr N v1 fs
  count : (cands s).length + i = fs.length
  low : ∀ c ∈ cands s, last < c
  undo : s.undo = s0
  below : Below N w0 wr
theorem Le2.start {N : Nat} {w0 wr : World} {B : Nat} {s0 s : Spc} {fs l : List Nat} {v1 v2 : Value} (h : Le2 N w0 wr B s0 s fs v1 l v2) : Le3 N w0 wr B s0 s fs v1 l.length 0 :=
  ⟨h.sp, h.own1, h.count, fun c hc => by have := (mem_cands.1 hc).1; omega, h.undo, h.below⟩
theorem Le3.taken {N : Nat} {w0 wr w2 : World} {B : Nat} {s0 s : Spc} {fs : List Nat} {v1 : Value} {i last k : Nat} {r : List Nat} (h : Le3 N w0 wr B s0 s fs v1 i last) (hc : cands s = k :: r) (hs : IsSp N w2 B s.take.1) (hk : SpKeeps N wr w2) : last < k ∧ Le3 N w0 w2 B s0 s.take.1 fs v1 (i + 1) k := by
  have hn := h.count
  have hp := cands_lt s
  rw [hc] at hn hp
  refine ⟨h.low k (by rw [hc]; exact List.mem_cons_self ..), hs, hk.row h.own1 (by decide), ?_, ?_, ?_, h.below.trans hk.below⟩
  · rw [take_rest hc]; simp at hn; omega
  · rw [take_rest hc]; exact (List.pairwise_cons.1 hp).1
  · rw [take_some hc]; exact h.undo
theorem Le3.quiet {N : Nat} {w0 wr w' : World} {B : Nat} {s0 s : Spc} {fs : List Nat} {v1 : Value} {i last : Nat} (h : Le3 N w0 wr B s0 s fs v1 i last) (hb : Below wr.heap.size wr w') : Le3 N w0 w' B s0 s fs v1 i last :=
  ⟨h.sp.below hb, ownP_below h.own1 hb, h.count, h.low, h.undo, h.below.trans (hb.mono h.sp.n_le)⟩
theorem Le3.drew {N : Nat} {w0 wr : World} {B : Nat} {s0 s : Spc} {fs : List Nat} {v1 : Value} {i last : Nat} (h : Le3 N w0 wr B s0 s fs v1 i last) : Le3 N w0 wr.drew B s0 s fs v1 i last :=
  ⟨by obtain ⟨x, y, hx, hy⟩ := h.sp; exact ⟨x, y, hx.drew, hy⟩, h.own1, h.count, h.low, h.undo, ⟨h.below.os, h.below.tape, h.below.output, h.below.size, h.below.block⟩⟩
def lenV : Value → Nat
  | .slice _ n _ => n
  | _ => 0
set_option maxRecDepth 100000 in
set_option maxHeartbeats 16000000 in
theorem spaceLeast_any (m h : Int) (fa : Option Addr) (fl : List Int) (fc : Nat) (pa : Option Addr) (P : List Int) (pc : Nat) (hf : fl.length ≤ 9223372036854775807) (hL : P.length ≤ 9223372036854775807) (w : World) (hI : IntsAt w.heap.size w fa fl) (hA : IntsAt w.heap.size w pa P) :
    Calls Try.prog 5 #[.agg #[.int .i64 m, .int .i64 h], .slice fa fl.length fc, .slice pa P.length pc] w fun e w' => KnPost w e w' := by
  have HK := Lib.hid known_any
  have hb0 : Below w.heap.size w (w.alloc (.cells #[.int .i64 m, .int .i64 h] 22)) := (Below.refl _ w).alloc (Nat.le_refl _) _
  have HB0 := Lib.hid hb0
  by_cases h1 : (60 : Int) < fl.length
  · clear hb0
    go_enter Try.func5, Try.ntmps5
    go_wp2_with (go_at_call 6; refine (HK.out _).mono ?_; rintro e w' ⟨rfl, hb⟩)
    go_ret
    exact ⟨rfl, HB0.out.trans (hb.mono HB0.out.size)⟩
  by_cases h2 : (60 : Int) < P.length
  · clear hb0
    go_enter Try.func5, Try.ntmps5
    go_wp2_with (go_at_call 6; refine (HK.out _).mono ?_; rintro e w' ⟨rfl, hb⟩)
    go_ret
    exact ⟨rfl, HB0.out.trans (hb.mono HB0.out.size)⟩
  by_cases h3 : 60 < m
  · clear hb0
    go_enter Try.func5, Try.ntmps5
    go_wp2_with (go_at_call 6; refine (HK.out _).mono ?_; rintro e w' ⟨rfl, hb⟩)
    go_ret
    exact ⟨rfl, HB0.out.trans (hb.mono HB0.out.size)⟩
  obtain ⟨w0, hw0⟩ : ∃ w0, w.alloc (.cells #[.int .i64 m, .int .i64 h] 22) = w0 := ⟨_, rfl⟩
  have HW0 := Lib.hid hw0
  rw [hw0] at hb0 HB0
  have hI0 : IntsAt w0.heap.size w0 fa fl := fun hl => by
    obtain ⟨b, off, e, hlt, hc⟩ := IntsAt.below hb0 hI hl
    exact ⟨b, off, e, Nat.lt_of_lt_of_le hlt hb0.size, hc⟩
  have hA0 : IntsAt w0.heap.size w0 pa P := fun hl => by
    obtain ⟨b, off, e, hlt, hc⟩ := IntsAt.below hb0 hA hl
    exact ⟨b, off, e, Nat.lt_of_lt_of_le hlt hb0.size, hc⟩
  have hrow0 : w0.heap[w.heap.size]? = some (.cells #[.int .i64 m, .int .i64 h] 22 (0, 0)) := by rw [← hw0]; exact (MapKept.heap_alloc w _).1
  have HX := Lib.hid hrow0
  have HI0 := Lib.hid hI0
  have HA0 := Lib.hid hA0
  by_cases hok : ¬ NewOk m h fl
  · have HO := Lib.hid hok
    have HNew := Lib.hid (new_any m h fa fl fc hf w0 hI0)
    clear hok hA hA0 hI hI0 hb0 hw0 hrow0
    go_enter Try.func5, Try.ntmps5
    go_wp2_with (first
      | (go_at_call 7; rw [HW0.out]; refine HNew.out.mono ?_; rintro e w1 ⟨hb1, hp⟩; replace hp := hp.resolve_left (fun q => HO.out q.1); obtain ⟨-, rfl⟩ := hp; have HB1 := Lib.hid hb1; clear hb1)
      | (go_at_call 6; refine (HK.out _).mono ?_; rintro e w3 ⟨rfl, hb3⟩))
    go_ret
    have s1 := HB0.out.size
    have s2 := HB1.out.size
    exact ⟨rfl, (HB0.out.trans (HB1.out.mono s1)).trans (hb3.mono (by omega))⟩
  replace hok := Classical.not_not.1 hok
  have HNew := Lib.hid (new_own m h fa fl fc hf w0 hI0 hok)
  have HO := Lib.hid hok
  have HCn : Hid ((cands (Spc.new m.toNat h.toNat fl)).length = fl.length + (m.toNat - h.toNat)) := Lib.hid (new_cands (by have := hok.2.2.1; omega) (by have := hok.2.2.2.1; omega) (by have := hok.2.2.2.2; rwa [Int.toNat_of_nonneg (by have := hok.2.2.1; omega)]))
  have HFr : Hid (((Spc.new m.toNat h.toNat fl).of [4]).length = fl.length) := Lib.hid (new_free (by have := hok.2.2.2.2; rwa [Int.toNat_of_nonneg (by have := hok.2.2.1; omega)]))
  have HNe : Hid ((Spc.new m.toNat h.toNat fl).of [2] = []) := Lib.hid new_new
  have HMo : Hid (((Spc.new m.toNat h.toNat fl).most : Int) = m) := Lib.hid (by show ((m.toNat : Nat) : Int) = m; have := hok.1; omega)
  have HUn : Hid ((Spc.new m.toNat h.toNat fl).undo = Spc.new m.toNat h.toNat fl) := Lib.hid rfl
  have hmm : 2 ≤ h ∧ h ≤ m := ⟨hok.2.2.1, hok.2.2.2.1⟩
  have HCl : Hid ((cands (Spc.new m.toNat h.toNat fl)).length ≤ 58) := Lib.hid (by have := cands_len (Spc.new m.toNat h.toNat fl); have e : (Spc.new m.toNat h.toNat fl).most = m.toNat := rfl; omega)
  obtain ⟨N, hN⟩ : ∃ N, w0.heap.size = N := ⟨_, rfl⟩
  have HN := Lib.hid hN
  have HNw : Hid (w.heap.size < N) := Lib.hid (by rw [← hN, ← hw0]; simp)
  clear hok hA hA0 hI hI0 hb0 hw0 hrow0 hN
  go_enter Try.func5, Try.ntmps5
  go_wp2_with (go_at_call 7; rw [HW0.out]; refine HNew.out.mono ?_; rintro e w1 ⟨B, rfl, hS1, hb1⟩; have HS1 : Hid (IsSp N w1 B (Spc.new m.toNat h.toNat fl)) := Lib.hid (by rw [← HN.out]; exact hS1); have HB1 : Hid (Below N w0 w1) := Lib.hid (by rw [← HN.out]; exact hb1); clear hb1 hS1)
  have H1 : Hid (Le1 N w0 w1 B (Spc.new m.toNat h.toNat fl) (Spc.new m.toNat h.toNat fl) [] (.slice none 0 0)) := Lib.hid ⟨HS1.out, OwnP.nil _ _, rfl, fun p hp => absurd hp (List.not_mem_nil), rfl, HUn.out, HB1.out⟩
  generalize Spc.new m.toNat h.toNat fl = s0 at H1 HCn HFr HNe HMo HUn HCl
  clear HS1 HB1 HNew HI0 HW0
  go_loopw [9, 10, 11, 46, 47, 48, 49, 50, 51, 52, 53, 54, 55, 56, 57, 58, 59, 60, 61] (fun v _ _ _ _ _ _ _ _ _ _ _ _ _ _ _ _ _ _ wr => ∃ (fs : List Nat) (s : Spc), Hid (Le1 N w0 wr B s0 s fs v))
    (fun v _ _ _ _ _ _ _ _ _ _ _ _ _ _ _ _ _ _ _ => 60 - lenV v)
  case atStart => exact ⟨[], s0, H1⟩
  case round =>
    obtain ⟨fs, s, HL⟩ := hrel
    have hfl : fs.length + (cands s).length ≤ 58 := by rw [← List.length_append, HL.out.all]; exact HCl.out
    obtain ⟨va, vc, hv⟩ := row_slice HL.out.own
    subst hv
    cases hc : cands s with
    | cons k r =>
      have HT := Lib.hid (take_k HL.out.sp)
      have e1 : s.take.2.1 = k := by rw [take_some hc]
      have e2 : s.take.2.2 = 0 := by rw [take_some hc]
      rw [e1, e2] at HT
      rw [hc] at hfl
      have hfl' : fs.length ≤ 57 := by simp at hfl; omega
      have HC := Lib.hid hc
      clear e1 e2 hc hfl H1
      go_wp2_with (first
        | (go_at_call 10; refine HT.out.mono ?_; rintro e w2 ⟨rfl, hs2, hk2⟩; have HS2 := Lib.hid hs2; have HK2 := Lib.hid hk2; clear hs2 hk2)
        | (at_builtin; refine stop_here ?_))
      refine Lib.hid ?_
      obtain ⟨v', w', hr, h1'⟩ := HL.out.app HC.out HS2.out HK2.out (by omega) 23
      have HL' := Lib.hid h1'
      refine wpList_append_val rfl rfl rfl rfl hr ?_
      obtain ⟨va', vc', hv'⟩ := row_slice h1'.own
      subst hv'
      clear hr h1'
      have hle : (fs ++ [k]).length = fs.length + 1 := by simp
      rw [hle] at HL' ⊢
      go_wp2
      go_roundw
      case rel => exact ⟨_, _, HL'⟩
      case measure => simp [lenV]; omega
    | nil =>
      have HT := Lib.hid (take_k HL.out.sp)
      rw [take_none hc] at HT
      have hfe : fs = cands s0 := by have := HL.out.all; rwa [hc, List.append_nil] at this
      have hln : (fs.length : Int) = fl.length + (m - h) := by rw [hfe, HCn.out]; omega
      have hf58 : fs.length ≤ 58 := by omega
      have hhi := all_taken HL.out.sp.ok hc
      have HH : Hid ((s.high : Int) = m) := Lib.hid (by rw [hhi, HL.out.most]; exact HMo.out)
      have HC := Lib.hid hc
      clear hc hhi H1 hfl hfe
      go_wp2_with (go_at_call 10; refine HT.out.mono ?_; rintro e w2 ⟨rfl, hs2, hk2⟩; have HS2 : Hid (IsSp N w2 B s) := Lib.hid hs2; have HK2 := Lib.hid hk2; clear hs2 hk2)
      have hrx := ((HL.out.below.trans HK2.out.below).block w.heap.size HNw.out).trans HX.out
      have x0 := cell_of_row w2 w.heap.size 0 _ _ _ hrx
      have x1 := cell_of_row w2 w.heap.size 1 _ _ _ hrx
      simp only [List.getElem?_toArray, List.getElem?_cons_zero, List.getElem?_cons_succ] at x0 x1
      have hw1 : IntKind.i64.wrap (m - h) = m - h := by rw [IntKind.wrap_i64]; omega
      have hw2 : IntKind.i64.wrap ((fl.length : Int) + (m - h)) = fs.length := by rw [IntKind.wrap_i64]; omega
      have hw3 : ((fs.length : Int) != IntKind.i64.wrap ((fl.length : Int) + IntKind.i64.wrap (m - h))) = false := by rw [hw1, hw2]; simp
      have HSd : Hid (IsSp N w2.drew B s) := Lib.hid (by obtain ⟨x, y, hx, hy⟩ := HS2.out; exact ⟨x, y, hx.drew, hy⟩)
      clear hrx
      go_cut [79] (fun x wx => x = .bool false ∧ wx = w2.drew)
      case first =>
        go_region_with (go_at_call 8; refine (high_own HSd.out m HH.out).mono ?_; rintro e w' ⟨rfl, rfl⟩)
        all_goals (go_wp2_with fail; go_meet; exact ⟨rfl, rfl⟩)
      case rest =>
        obtain ⟨rfl, rfl⟩ := hcut
        have HBd : Hid (Below N w0 w2.drew) := by have q := HL.out.below.trans HK2.out.below; exact Lib.hid ⟨q.os, q.tape, q.output, q.size, q.block⟩
        have HOd : Hid (OwnP w2.drew N (.slice va fs.length vc) fs) := Lib.hid (HK2.out.row HL.out.own (by decide))
        have HFs : Hid (fs.Pairwise (· < ·)) := Lib.hid (by have e := HL.out.all; rw [HC.out, List.append_nil] at e; rw [e]; exact cands_lt s0)
        have H2 := Lib.hid HL.out.two
        have HU := Lib.hid HL.out.undo
        clear HS2 HK2 HL HT x0 x1 hw1 hw2 hw3 hln
        generalize w2.drew = wd at HSd HBd HOd ⊢
        go_wp2_with (at_builtin; refine stop_here ?_)
        refine Lib.hid ?_
        obtain ⟨v2, w3, hr3, ho3, hb3⟩ := copy_nums wd 23 N N (by have := HSd.out.n_le; exact this) _ fs HOd.out (by omega)
        refine wpList_append_val rfl rfl rfl rfl hr3 ?_
        obtain ⟨va2, vc2, hv2⟩ := row_slice ho3
        subst hv2
        have HO3 := Lib.hid ho3
        have HB3 := Lib.hid hb3
        clear ho3 hb3 hr3
        have H2' : Hid (Le2 N w0 w3 B s0 s fs (.slice va fs.length vc) fs (.slice va2 fs.length vc2)) := Lib.hid ⟨HSd.out.below HB3.out, ownP_below HOd.out HB3.out, HO3.out, HFs.out.imp (fun h => Nat.ne_of_lt h), H2.out, by rw [HC.out]; simp, HU.out, HBd.out.trans (HB3.out.mono HSd.out.n_le)⟩
        have hf58' : fs.length ≤ 58 := hf58
        clear HSd HBd HOd H2 HU HC HO3 HB3
        go_wp2
        go_loopw [12, 13, 14, 82, 83, 84, 85, 86, 87, 88, 89, 90, 91, 92, 93, 94, 95, 96, 97, 98, 99, 100, 101, 102, 103, 104, 105, 106, 107, 108, 109, 110, 111, 112, 113, 114, 115, 116, 117, 118, 119, 120, 121] (fun v x _ _ _ _ _ _ _ _ _ _ _ _ _ _ _ _ _ _ _ _ _ _ _ _ _ _ _ _ _ _ _ _ _ _ _ _ _ _ _ _ _ wr => ∃ (k : Nat) (l : List Nat) (s : Spc), x = .int .i64 k ∧ k ≤ P.length ∧ Hid (Le2 N w0 wr B s0 s fs (.slice va fs.length vc) l v))
          (fun _ x _ _ _ _ _ _ _ _ _ _ _ _ _ _ _ _ _ _ _ _ _ _ _ _ _ _ _ _ _ _ _ _ _ _ _ _ _ _ _ _ _ _ => P.length - (intOf x).toNat)
        case atStart => exact ⟨0, fs, s, rfl, Nat.zero_le _, H2'⟩
        case round =>
          obtain ⟨k, l, s', rfl, hk, HL⟩ := hrel
          obtain ⟨va', vc', hv⟩ := row_slice HL.out.own2
          subst hv
          have hl58 : l.length ≤ 58 := by have := HL.out.count; omega
          clear H2'
          by_cases hgo : k < P.length ∧ 0 < l.length
          · obtain ⟨hlt, hl0⟩ := hgo
            obtain ⟨b, off, rfl, hb, hc⟩ := HA0.out (by rintro rfl; simp at hlt)
            rw [HN.out] at hb
            have hck := (HL.out.below.cell (p := ⟨b, off + k, none⟩) hb).trans (hc k hlt)
            clear hc
            generalize P[k]?.getD 0 = z at hck
            obtain ⟨q, hq, hql⟩ := pick_at z hl0 (by omega)
            obtain ⟨g, c, ev, -, hgw, hcl, hrow, hcs⟩ := HL.out.own2.cells (by intro e; rw [e] at hl0; simp at hl0)
            obtain ⟨rfl, rfl⟩ : va' = some ⟨g, 0, none⟩ ∧ vc' = c := by injection ev with e1 e2 e3; exact ⟨e1, e3⟩
            have hcq := hcs q hql
            have hmem : l[q]?.getD 0 ∈ l := by rw [List.getElem?_eq_getElem hql]; exact List.getElem_mem hql
            have hgm := give_more HL.out.sp.ok (HL.out.two _ hmem)
            have HG := Lib.hid (give_k HL.out.sp ((l[q]?.getD 0 : Nat) : Int))
            rw [hgm.1] at HG
            have HGM := Lib.hid hgm.2
            have HCS := Lib.hid hcs
            have HRW := Lib.hid hrow
            have HQP : Hid (∃ p, l[q]?.getD 0 = p) := Lib.hid ⟨_, rfl⟩
            clear hgm hmem ev hcs hrow
            generalize hp : l[q]?.getD 0 = p at hcq HG HGM
            have HP := Lib.hid hp
            clear hp
            go_wp2_with (go_at_call 22; refine HG.out.mono ?_; rintro e w5 ⟨rfl, hs5, hk5⟩; have HS5 := Lib.hid hs5; have HK5 := Lib.hid hk5; clear hs5 hk5)
            obtain ⟨p', hp'⟩ := HQP.out
            have hWD : Below w5.heap.size w5 w5.drew := (Below.refl _ _).drew
            have hn5 := HS5.out.n_le
            have hgN : g < w5.heap.size := Nat.lt_of_lt_of_le hgw HK5.out.below.size
            have hcw : ∀ j, j < l.length → w5.cell? ⟨g, j, none⟩ = some (.int .i64 (l[j]?.getD 0 : Nat)) := fun j hj => by
              obtain ⟨cs, hr0, -⟩ := HRW.out
              have hr5 := HK5.out.cells g cs _ _ hr0 (by decide)
              exact (World.cell?_of_block (a := ⟨g, j, none⟩) (hr5.trans hr0.symm)).trans (HCS.out j hj)
            have hlt' : (l.take q).length = q := by rw [List.length_take]; omega
            have hld' : (l.drop (q + 1)).length = l.length - (q + 1) := List.length_drop
            obtain ⟨v3, w3s, hr3, ho3, hgr3⟩ := app_nums w5.drew 23 w5.heap.size (Nat.le_refl _) (.slice none 0 0) [] (OwnP.nil _ _) g 0 vc' (l.take q) (fun j hj => by rw [hlt'] at hj; rw [Nat.zero_add, List.getElem?_take, if_pos hj]; exact hcw j (by omega)) (by rw [hlt']; simp; omega)
            have hB3 : Below w5.heap.size w5 w3s := hWD.grown hgr3 hWD.size (fun q e => by cases e)
            obtain ⟨b', off', hbo, hsx⟩ := slice_hi2 l.length g 0 vc' (q + 1) hql hcl
            obtain ⟨v8, w8s, hr8, ho8, hgr8⟩ := app_nums w3s 23 w5.heap.size hB3.size v3 ([] ++ l.take q) ho3 b' off' (vc' - (q + 1)) (l.drop (q + 1)) (fun j hj => by
              rw [hld'] at hj
              obtain ⟨rfl, rfl⟩ := hbo (by omega)
              rw [List.getElem?_drop, Nat.zero_add]
              exact (hB3.cell (p := ⟨b', q + 1 + j, none⟩) hgN).trans (hcw (q + 1 + j) (by omega))) (by rw [hld', List.nil_append, hlt']; omega)
            have hB8 : Below w5.heap.size w5 w8s := hB3.grown hgr8 hB3.size (fun q e => (World.ownsRow.lt ho3 q e).1)
            rw [List.nil_append] at ho8
            rw [hlt'] at hr3
            rw [hld'] at hr8
            have HLn : Hid (Le2 N w0 w8s B s0 (s'.give (p : Int)).1 fs (.slice va fs.length vc) (l.take q ++ l.drop (q + 1)) v8) := Lib.hid (by
              have hz := HL.out.without hql (by rw [HP.out]; exact HS5.out) HK5.out ho8 hB8
              rwa [HP.out] at hz)
            have HRG := Lib.hid (And.intro hr3 (And.intro hr8 hsx))
            clear hr3 hr8 ho8 hB8 hsx hB3 hgr3 hgr8 ho3 hbo hcw hWD hlt' hld' HG HGM HRW HCS HQP hp' hcq
            go_wp2_with fail
            refine wp_region_n (WoI w5.drew w3s w8s) (WoV (.slice (some ⟨g, 0, none⟩) l.length vc') g 0 q vc' b' off' (l.length - (q + 1)) (vc' - (q + 1)) v3 v8) (by kernel_rfl) (by kernel_rfl) (by kernel_rfl) (by kernel_rfl) (by unfold WoI; simp) ?stepW ?finW
            case stepW =>
              intro i0 o ho listed a' w' hIn hn' hpre
              have hI := hIn.toL
              have hi0 : i0 < 10 := (Array.getElem?_eq_some_iff.1 ho).1
              have hB := hI.inv
              have hsz : listed.size = 10 := hI.size
              match i0, hi0 with
              | 0, _ =>
                cases ho
                exact wpOp_move rfl rfl (.inl rfl) (hIn.later 9 (t := 12) (by kernel_rfl) (hI.notyet hn' 9 (by kernel_rfl))) ⟨_, rfl, hB.still (by decide) (by decide), fun _ => rfl, fun _ _ _ h => h⟩
              | 1, _ =>
                cases ho
                exact wpOp_move rfl rfl (.inl rfl) (hI.kept (t := 14) (by kernel_rfl)) ⟨_, rfl, hB.still (by decide) (by decide), fun _ => rfl, fun _ _ _ h => h⟩
              | 2, _ =>
                cases ho
                exact wpOp_slice rfl rfl rfl (hI.slot 0 113 rfl (hpre ⟨0, .data⟩ (by simp) rfl) rfl) rfl (congrArg some (hI.slot 1 114 rfl (hpre ⟨1, .data⟩ (by simp) rfl) rfl)) rfl (slice_lo w' g 0 l.length vc' q (by omega)) ⟨_, rfl, hB.still (by decide) (by decide), fun _ => rfl, fun _ _ _ h => h⟩
              | 3, _ =>
                cases ho
                have h8 : listed.getD 8 false = false := by
                  cases h : listed.getD 8 false
                  · rfl
                  · have := hI.closed 8 _ rfl h ⟨3, .data⟩ (by simp) rfl
                    rw [hn'] at this; cases this
                obtain rfl : w' = w5.drew := hB.at0 h8 hn'
                exact wpOp_append rfl rfl rfl rfl (hI.slot 2 115 rfl (hpre ⟨2, .data⟩ (by simp) rfl) rfl) HRG.out.1 ⟨_, rfl, WoI.to3 h8 (by omega), fun _ => rfl, fun j u _ h => WoV.any j u h⟩
              | 4, _ =>
                cases ho
                exact wpOp_move rfl rfl (.inl rfl) (hIn.later 9 (t := 12) (by kernel_rfl) (hI.notyet hn' 9 (by kernel_rfl))) ⟨_, rfl, hB.still (by decide) (by decide), fun _ => rfl, fun _ _ _ h => h⟩
              | 5, _ =>
                cases ho
                exact wpOp_move rfl rfl (.inl rfl) (hI.kept (t := 14) (by kernel_rfl)) ⟨_, rfl, hB.still (by decide) (by decide), fun _ => rfl, fun _ _ _ h => h⟩
              | 6, _ =>
                cases ho
                have e0 : a'.eval (.tmp 118) = .int .i64 q := hI.slot 5 118 rfl (hpre ⟨5, .data⟩ (by simp) rfl) rfl
                exact wpOp_add1 rfl rfl rfl e0 rfl (by omega) ⟨_, rfl, hB.still (by decide) (by decide), fun _ => rfl, fun _ _ _ h => h⟩
              | 7, _ =>
                cases ho
                exact wpOp_slice rfl rfl rfl (hI.slot 4 117 rfl (hpre ⟨4, .data⟩ (by simp) rfl) rfl) (congrArg some (hI.slot 6 119 rfl (hpre ⟨6, .data⟩ (by simp) rfl) rfl)) rfl rfl (HRG.out.2.2 w') ⟨_, rfl, hB.still (by decide) (by decide), fun _ => rfl, fun _ _ _ h => h⟩
              | 8, _ =>
                cases ho
                have h3 := hpre ⟨3, .data⟩ (by simp) rfl
                obtain rfl : w' = w3s := hB.at3 hn' h3
                exact wpOp_append rfl rfl rfl (hI.slot 3 116 rfl h3 rfl) (hI.slot 7 120 rfl (hpre ⟨7, .data⟩ (by simp) rfl) rfl) HRG.out.2.1 ⟨_, rfl, WoI.to8 (by omega), fun _ => rfl, fun j u _ h => WoV.any j u h⟩
              | 9, _ =>
                cases ho
                exact wpOp_move rfl rfl (.inr rfl) (hI.slot 8 121 rfl (hpre ⟨8, .data⟩ (by simp) rfl) rfl) ⟨_, rfl, hB.still (by decide) (by decide), fun _ => rfl, fun _ _ _ h => h⟩
            case finW =>
              intro listed a' w' hIn hall
              have hI := hIn.toL
              obtain rfl : w' = w8s := hI.inv.at8 (hall 8 (by decide))
              have s9 : a'.tmps.getD 12 undef = v8 := hI.slot 9 12 rfl (hall 9 (by decide)) rfl
              obtain ⟨vs', us, hvl', hul, hvs, -, e⟩ := hI.frame2 12 1 113 9 (by decide) (Nat.le_of_ble_eq_true (by kernel_rfl)) (by kernel_rfl)
              have v0 := hvs 0 (by decide)
              match vs', us, hvl', hul with
              | [p0], [x0, x1, x2, x3, x4, x5, x6, x7, x8], _, _ =>
              simp only [List.getElem?_cons_zero, Option.some.injEq, Nat.add_zero] at v0
              rw [s9] at v0
              clear hI hIn hall hvs s9
              subst v0
              simp only [List.take_succ_cons, List.take_zero, List.drop_succ_cons, List.drop_zero, List.cons_append, List.nil_append, Nat.reduceAdd, Nat.reduceSub] at e
              subst e
              clear HRG
              obtain ⟨va8, vc8, hv8⟩ := row_slice HLn.out.own2
              subst hv8
              go_wp2
              exact ⟨⟨k + 1, _, _, by go_num, by omega, HLn⟩, by simp [intOf]; omega⟩
          · have H3 := Lib.hid HL.out.start
            obtain ⟨wb, rfl⟩ : ∃ wb, wb = wr := ⟨_, rfl⟩
            have hll : l.length ≤ fs.length := by have := HL.out.count; omega
            have hcase : P.length ≤ k ∨ (k < P.length ∧ l.length = 0) := by
              by_cases q : k < P.length
              · exact .inr ⟨q, by have : ¬ 0 < l.length := fun q2 => hgo ⟨q, q2⟩; omega⟩
              · exact .inl (by omega)
            have HLs := Lib.hid (And.intro hl58 hk)
            clear hgo HL
            generalize l.length = n at hcase H3 hll HLs ⊢
            rcases hcase with hge | ⟨hlt, rfl⟩
            all_goals
              go_wp2
              go_loopw [15, 16, 17, 18, 124, 125, 126, 127, 128, 129, 130, 131, 132, 133, 134, 135, 136, 137, 138, 139, 140, 141, 142] (fun y x _ _ _ _ _ _ _ _ _ _ _ _ _ _ _ _ _ _ _ _ _ wr => ∃ (i last : Nat) (s : Spc), x = .int .i64 i ∧ y = .int .i64 last ∧ i ≤ fs.length ∧ Hid (Le3 N w0 wr B s0 s fs (.slice va fs.length vc) i last))
                (fun _ x _ _ _ _ _ _ _ _ _ _ _ _ _ _ _ _ _ _ _ _ _ _ => fs.length - (intOf x).toNat)
              case atStart => exact ⟨_, 0, _, rfl, rfl, hll, H3⟩
              case round =>
                obtain ⟨i, last, s2, rfl, rfl, hi, HL⟩ := hrel
                by_cases hlt3 : i < fs.length
                · have hcn := HL.out.count
                  cases hc : cands s2 with
                  | nil => rw [hc] at hcn; simp at hcn; omega
                  | cons c r =>
                    have HT := Lib.hid (take_k HL.out.sp)
                    have e1 : s2.take.2.1 = c := by rw [take_some hc]
                    have e2 : s2.take.2.2 = 0 := by rw [take_some hc]
                    rw [e1, e2] at HT
                    have hlow : last < c := HL.out.low c (by rw [hc]; exact List.mem_cons_self ..)
                    have HC := Lib.hid hc
                    clear e1 e2 hc hcn
                    go_wp2_with (go_at_call 10; refine HT.out.mono ?_; rintro e w6 ⟨rfl, hs6, hk6⟩; have HL6 := Lib.hid (HL.out.taken HC.out hs6 hk6).2; clear hs6 hk6)
                    exact ⟨⟨i + 1, c, _, by go_num, rfl, by omega, HL6⟩, by simp [intOf]; omega⟩
                · go_wp2
                  go_loopw [19, 143, 144, 145, 146, 147, 148, 149, 150, 151, 152, 153, 154, 155, 156, 157, 158] (fun x _ _ _ _ _ _ _ _ _ _ _ _ _ _ _ _ wr => ∃ (j : Nat), x = .int .i64 j ∧ 1 ≤ j ∧ (j ≤ fs.length ∨ j = 1) ∧ Hid (Le3 N w0 wr B s0 s2 fs (.slice va fs.length vc) i last))
                    (fun x _ _ _ _ _ _ _ _ _ _ _ _ _ _ _ _ _ => fs.length - (intOf x).toNat)
                  case atStart => exact ⟨1, rfl, Nat.le_refl _, .inr rfl, HL⟩
                  case round =>
                    obtain ⟨j, rfl, hj1, hj, HL⟩ := hrel
                    by_cases hlt4 : j < fs.length
                    · obtain ⟨g, c, ev, -, -, -, -, hcs⟩ := HL.out.own1.cells (by intro e; rw [e] at hlt4; simp at hlt4)
                      obtain ⟨rfl, rfl⟩ : va = some ⟨g, 0, none⟩ ∧ vc = c := by injection ev with e1 e2 e3; exact ⟨e1, e3⟩
                      have c1 := hcs j hlt4
                      have c2 := hcs (j - 1) (by omega)
                      have hpw := List.pairwise_iff_getElem.1 HFs.out (j - 1) j (by omega) hlt4 (by omega)
                      rw [List.getElem?_eq_getElem hlt4] at c1
                      rw [List.getElem?_eq_getElem (show j - 1 < fs.length by omega)] at c2
                      simp only [Option.getD_some] at c1 c2
                      have hj0 : (((j - 1 : Nat) : Nat) : Int) = (j : Int) - 1 := by omega
                      have HLd := Lib.hid HL.out.drew
                      clear ev hcs
                      generalize fs[j] = x1 at c1 hpw
                      generalize fs[j - 1] = x2 at c2 hpw
                      have hlt5 : ((x2 : Nat) : Int) < x1 := by omega
                      have hge5 : ¬ ((x1 : Nat) : Int) ≤ x2 := by omega
                      go_wp2
                      go_quiet (fail)
                      go_wp2
                      go_roundw
                      case rel => exact ⟨j + 1, by go_num, by omega, .inl (by omega), Lib.hid (HL.out.quiet ⟨rfl, rfl, rfl, Nat.le_refl _, fun _ _ => rfl⟩)⟩
                      case measure => simp [intOf]; omega
                    · have HU := Lib.hid (undo_k HL.out.sp)
                      rw [HL.out.undo] at HU
                      have HBl := Lib.hid HL.out.below
                      clear hj
                      go_wp2_with (first
                        | (go_at_call 20; refine HU.out.mono ?_; rintro e w7 ⟨rfl, hs7, hk7⟩; have HS7 := Lib.hid hs7; have HB7 := Lib.hid (HBl.out.trans hk7.below); clear hs7 hk7)
                        | (go_at_call 13; refine (nums_k (l := []) HS7.out (fun _ _ h => by rw [← HNe.out]; exact new_pages h)).mono ?_; rintro e w8 ⟨a8, c8, rfl, -, hs8, hb8⟩; have HS8 := Lib.hid hs8; have HB8 := Lib.hid (HB7.out.trans (hb8.mono HS7.out.n_le)); clear hs8 hb8)
                        | (go_at_call 12; refine (nums_k (l := s0.of [4]) HS8.out (fun _ _ h => free_any h)).mono ?_; rw [HFr.out]; rintro e w9 ⟨a9, c9, rfl, -, hs9, hb9⟩; have HS9 := Lib.hid hs9; have HB9 := Lib.hid (HB8.out.trans (hb9.mono HS8.out.n_le)); clear hs9 hb9)
                        | (go_at_call 6; refine (HK.out _).mono ?_; rintro e w10 ⟨rfl, hb10⟩))
                      go_ret
                      have y1 := HNw.out
                      have y2 := HS9.out.n_le
                      exact ⟨rfl, (HB0.out.trans (HB9.out.mono (by omega))).trans (hb10.mono (by omega))⟩
end Go.Proofs.Ytmjjgdoekblelaa
