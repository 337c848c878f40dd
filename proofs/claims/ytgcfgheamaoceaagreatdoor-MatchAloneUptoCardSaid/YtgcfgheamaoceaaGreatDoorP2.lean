/- Texts of the proof in one file, in build order: MatI, MatJ, MatK, MatL, MatM. -/
import Derived.Sort.KeysCollected
import Derived.Sort.MapsRangeIn
import Derived.RangeFuncNested
import Derived.LoopIn
import Derived.Test.YtgcfgheamaoceaaGreatDoorP1
import Derived.Maps.AppendAt
import Derived.OwnWalkIn
import Derived.Great.FillDense
import Derived.Great.BuildSlice
import Derived.Shelf.Abstract
import Derived.Laws.EntriesVeiled
/- Layer 14: maps.Values of what ends at a branch: what its iterator gives. -/
namespace Go.Proofs.YtgcfgheamaoceaaGreatDoor
open Go.RowKit Go.MapKept Go.ChangeMaps Go.Maps

/-- These keys, each once, are all that there are. -/
def AllOf (f : Txt → Option Value) (ks : List Txt) : Prop := ks.Nodup ∧ ∀ k, k ∈ ks ↔ (f k).isSome = true
/-- These keys, each once, are there. -/
def SomeOf (f : Txt → Option Value) (ks : List Txt) : Prop := ks.Nodup ∧ ∀ k ∈ ks, (f k).isSome = true
theorem SReads.all {D : VD} {f : Txt → Option Value} (h : SReads D f) {left : Lit → Bool} {ks : List Txt} (hC : Collected D left ks) (hl : ∀ kl, left kl = false) : AllOf f ks :=
  ⟨hC.1, fun k => by rw [hC.2 k, h.has, hl]; simp⟩
theorem SReads.some {D : VD} {f : Txt → Option Value} (h : SReads D f) {left : Lit → Bool} {ks : List Txt} (hC : Collected D left ks) : SomeOf f ks :=
  ⟨hC.1, fun k hk => by rw [← h.has]; exact ((hC.2 k).1 hk).1⟩
/-- What a value of an entry is. -/
def IsSub (v : Value) : Prop := ∃ a b q, v = .agg #[.string a, .string b, .int .i64 q]
theorem sbV_is (s : Sb) : IsSub (sbV s) := ⟨_, _, _, rfl⟩

attribute [local go_sem] Oper.semAt_some
set_option maxRecDepth 100000 in
set_option maxHeartbeats 2000000 in
theorem vals1_in (F : Fence) (n : Nat) (hfn : F.fn 96) (hro : F.round = none) (hn : 1 ≤ n) (l Bm b : Nat) (f : Txt → Option Value) (hf : ∀ k v, f k = some v → IsSub v) (J Jx : List Txt → World → Prop)
    (hY : ∀ pre k v W, f k = some v → J pre W → pre.length < 5000 → YieldAt F (n - 1) Tryz.prog l #[v] W fun e W' => (e = .returned (.bool true) ∧ J (pre ++ [k]) W' ∧ KeepsWalks W W') ∨ (e = .returned (.bool false) ∧ Jx (pre ++ [k]) W'))
    (W : World) (hJ : AbidesFrom W.heap.size J) (hm : W.cell? ⟨Bm, 0, none⟩ = some (.map (some b))) (hown : SMap Tryz.prog 9 W b f) (h0 : J [] W) :
    CallsIn F n Tryz.prog 96 #[.func (.yield l) #[] #[], .pointer (some ⟨Bm, 0, none⟩)] W fun e W' => (∃ v, e = .returned v) ∧ ((∃ ks, AllOf f ks ∧ J ks W') ∨ (∃ pre, SomeOf f pre ∧ Jx pre W')) := by
  obtain ⟨D0, hown, hr⟩ := hown
  have hsz5 : Maps.size D0 ≤ 5000 := by
    obtain ⟨es, clock, _, _, hs, rfl⟩ := hown
    rw [Maps.size_eq, length_sorted]
    simpa using hs
  refine callsIn_of_wp Tryz.func96 rfl hfn ?_ hro
  simp only [Tryz.ntmps96, List.size_toArray, List.length_cons, List.length_nil, Nat.reduceAdd, Nat.reduceSub, Array.replicate_succ, Array.replicate_zero, List.push_toArray, List.append_toArray, List.nil_append, List.cons_append]
  gi_wp2_with (first
    | (gi_at_range; refine wpListIn_range_own _ rfl _ 82 rfl 9 31 (string_keyed Tryz.underlying9) Tryz.underlying82 _ b 5000 _ rfl hown ?_; intro w0 hrg0 hg0 hs0)
    | gi_in)
  go_frame
  gi_loopw [4, 7, 8, 9, 10, 11, 12, 13, 14] (fun _ _ _ _ _ _ _ _ _ wr => ∃ (left : Lit → Bool) (cnt : Nat) (ss : List Txt), wr.ranges Tryz.prog 9 heldR b W.heap.size 5000 D0 left cnt ∧ ss.length + cnt ≤ Maps.size D0 ∧ Collected D0 left ss ∧ J ss wr)
    (fun _ _ _ _ _ _ _ _ _ wr => wr.rangeLeft b W.heap.size)
  case atStart =>
    exact ⟨_, _, [], hrg0, by simp, Collected.start D0, hJ [] W w0 none h0 hg0 (fun r e => by cases e)⟩
  case round =>
    obtain ⟨left, cnt, ss, hrg, hcs, hC, hJs⟩ := hrel
    gi_wp2_with (first
      | (gi_at_next; refine wpListIn_next_ranges _ rfl _ rfl 9 (string_keyed Tryz.underlying9) heldR encStr id (fun key kl hk => by obtain ⟨x, hx, _⟩ := Maps.keyOf_str Tryz.underlying9 hk; exact ⟨x, hx⟩) (fun v _ _ => ⟨v, rfl⟩) b W.heap.size 5000 _ _ _ rfl hrg ?_ ?_)
      | gi_in)
    · intro hc0 hl0
      gi_wp2
      go_end0
      exact ⟨⟨_, rfl⟩, .inl ⟨ss, hr.all hC hl0, hJs⟩⟩
    · intro x c kl yd yp w2 cnt2 hkey hlk hv hat hrg2 hlt hg2 hs2 hen
      obtain ⟨x', ex, rfl, _⟩ := Maps.keyOf_str Tryz.underlying9 hkey
      obtain rfl : x = x' := encStr_inj ex
      have hfx : f x = some c := by
        have h1 := hat .nil
        rw [hr.at_] at h1
        have hv' : some ((.held c : VD), ([] : List MemPlace)) = some (yd, yp) := hv
        cases hv'
        cases hfx : f x with
        | none => rw [hfx] at h1; cases h1
        | some u => rw [hfx] at h1; injection h1 with h1; rw [h1]
      obtain ⟨sa, sb, sq, rfl⟩ := hf x c hfx
      have hJ2 : J ss w2 := hJ ss wr w2 (some W.heap.size) hJs hg2 (fun r e => by cases e; exact ⟨Nat.le_refl _, hrg.iter_walk⟩)
      have hJ3 : J ss (w2.alloc (.cells #[.string sa, .string sb, .int .i64 sq] 31)) := hJ ss w2 _ none hJ2 (World.grownBy_alloc _ _ none) (fun r e => by cases e)
      obtain ⟨fn, tmps, assign, body, hy, hR⟩ := hY ss x _ _ hfx hJ3 (by omega)
      clear hs2 ex hJ2 hJ3
      gi_wp2
      refine hR.mono ?_
      rintro e W3 (⟨rfl, hJ4, hk3⟩ | ⟨rfl, hJx3⟩)
      · have hrg3 := (hrg2.of_walks (KeepsWalks.alloc w2 (.cells #[.string sa, .string sb, .int .i64 sq] 31))).of_walks hk3
        have hC' := hC.step hlk hat
        clear hR hy
        gi_wp2
        go_roundw
        case rel => exact ⟨_, cnt2, ss ++ [x], hrg3, by simp; omega, hC', hJ4⟩
        case measure => rw [hrg3.left_eq, hrg.left_eq]; exact hlt
      · have hS := hr.some (hC.step hlk hat)
        clear hR hy
        gi_wp2
        refine bodyPost_ret (results_none rfl _ _ _) rfl ?_
        exact ⟨⟨_, rfl⟩, .inr ⟨ss ++ [x], hS, hJx3⟩⟩
/-- maps.Values(m) of what ends at a branch: an iterator over all that there is. -/
theorem vals_stops (F : Fence) (n : Nat) (hfn : F.fn 96) (hro : F.round = none) (hn : 1 ≤ n) (Bm b : Nat) (f : Txt → Option Value) (g : Txt → Sb) (hg : ∀ k v, f k = some v → v = sbV (g k)) (w : World) (hBm : Bm < w.heap.size)
    (hm : w.cell? ⟨Bm, 0, none⟩ = some (.map (some b))) (hown : SMap Tryz.prog 9 w b f) :
    SeqStopsK (α := Sb) F n Tryz.prog 96 #[.pointer (some ⟨Bm, 0, none⟩)] (fun s => #[sbV s]) KeepsWalks (fun xs => ∃ ks, AllOf f ks ∧ xs = ks.map g) (fun xs => ∃ ks, SomeOf f ks ∧ xs = ks.map g) 5000 w := by
  intro l J Jx W hW hJ hJx hY h0
  refine (vals1_in F n hfn hro hn l Bm b f (fun k v hk => by rw [hg k v hk]; exact sbV_is _) (fun ks W => J (ks.map g) W) (fun ks W => Jx (ks.map g) W) (fun pre k v W1 hk hJ1 hlen => ?_) W (fun ks A B row hs hgr hr => hJ _ A B row hs hgr hr)
    ((hW.cell (p := ⟨Bm, 0, none⟩) hBm).trans hm) (hown.below hW hown.lt) h0).mono ?_
  · have := hY (pre.map g) (g k) W1 hJ1 (by simpa using hlen)
    rw [hg k v hk]
    obtain ⟨fn, tmps, assign, body, hy, hR⟩ := this
    refine ⟨fn, tmps, assign, body, hy, hR.mono ?_⟩
    rintro e W' (⟨he, h1, h2⟩ | ⟨he, h1⟩)
    · exact .inl ⟨he, by rw [List.map_append]; exact h1, h2⟩
    · exact .inr ⟨he, by rw [List.map_append]; exact h1⟩
  · rintro e W' ⟨hv, ⟨ks, hk, h1⟩ | ⟨ks, hk, h1⟩⟩
    · exact ⟨hv, .inl ⟨_, ⟨ks, hk, rfl⟩, h1⟩⟩
    · exact ⟨hv, .inr ⟨_, ⟨ks, hk, rfl⟩, h1⟩⟩
theorem vals_any (w : World) (b : Nat) : Calls Tryz.prog 74 #[.map (some b)] w fun e w' => e = .returned (.func (.func 96) #[] #[.pointer (some ⟨w.heap.size, 0, none⟩)]) ∧ w' = w.alloc (.cells #[.map (some b)] 82) := by
  go_enter Tryz.func74, Tryz.ntmps74
  go_wp2
  go_ret
  exact ⟨rfl, rfl⟩
end Go.Proofs.YtgcfgheamaoceaaGreatDoor
/- Layer 14: rows of entries that a call made; slices.AppendSeq of entries. -/
namespace Go.Proofs.YtgcfgheamaoceaaGreatDoor
open Go.RowKit Go.MapKept Go.ChangeMaps Go.Maps

def subL (s : Sb) : List Value := [.string (str s.f), .string (str s.c), .int .i64 (s.q : Int)]
def subsL (L : List Sb) : List Value := L.flatMap subL
theorem subsL_app (L M : List Sb) : subsL (L ++ M) = subsL L ++ subsL M := by simp [subsL]
theorem subsL_len (L : List Sb) : (subsL L).length = L.length * 3 := by
  induction L with
  | nil => rfl
  | cons c L ih => rw [show subsL (c :: L) = subL c ++ subsL L from rfl, List.length_append, ih]; simp [subL]; omega
theorem subsL_one (L : List Sb) : ∀ u ∈ subsL L, u.oneCell' = true := by
  intro u hu
  simp only [subsL, List.mem_flatMap] at hu
  obtain ⟨c, _, hu⟩ := hu
  simp [subL] at hu
  rcases hu with rfl | rfl | rfl <;> rfl
/-- A slice that the call made, of these entries. -/
def OwnS (w : World) (base : Nat) (v : Value) (L : List Sb) : Prop := w.ownsRow base 31 3 v L.length (subsL L)
theorem OwnS.nil (w : World) (base : Nat) : OwnS w base (.slice none 0 0) [] := World.ownsRow_nil w base _ _
theorem ownS_block {w : World} {base : Nat} {v : Value} {L : List Sb} (h : OwnS w base v L) (g : Nat) (hg : v.ownBlock = some g) : ∃ cs, w.heap[g]? = some (.cells cs 31 (0, 0)) := by
  rcases h.2 with ⟨rfl, _⟩ | ⟨g', cap, cur, rfl, _, hh, _⟩
  · cases hg
  · cases hg; exact ⟨cur, hh⟩
theorem ownS_lt {w : World} {base : Nat} {v : Value} {L : List Sb} (h : OwnS w base v L) (g : Nat) (hg : v.ownBlock = some g) : base ≤ g ∧ g < w.heap.size := by
  rcases h.2 with ⟨rfl, _⟩ | ⟨g', cap, cur, rfl, hb, hh, _⟩
  · cases hg
  · cases hg; exact ⟨hb, (Array.getElem?_eq_some_iff.1 hh).1⟩
theorem ownS_slice {w : World} {base : Nat} {v : Value} {L : List Sb} (h : OwnS w base v L) : ∃ a cap, v = .slice a L.length cap := by
  rcases h.2 with ⟨rfl, h0⟩ | ⟨g', cap, cur, rfl, _⟩
  · exact ⟨none, 0, by rw [h0]⟩
  · exact ⟨_, cap, rfl⟩
theorem OwnS.kept {w w' : World} {base : Nat} {v : Value} {L : List Sb} (h : OwnS w base v L) (hg : ∀ g, v.ownBlock = some g → w'.heap[g]? = w.heap[g]?) : OwnS w' base v L := by
  rcases h with ⟨hl, e | ⟨g, cp, cur, rfl, hb, hh, r⟩⟩
  · exact ⟨hl, .inl e⟩
  · exact ⟨hl, .inr ⟨g, cp, cur, rfl, hb, (hg g rfl).trans hh, r⟩⟩
theorem OwnS.below {w w' : World} {base : Nat} {v : Value} {L : List Sb} (h : OwnS w base v L) (hb : Below w.heap.size w w') : OwnS w' base v L := h.kept fun g hg => hb.block g (ownS_lt h g hg).2
theorem OwnS.mono {w : World} {b b' : Nat} {v : Value} {L : List Sb} (h : OwnS w b v L) (hn : b' ≤ b) : OwnS w b' v L := by
  rcases h with ⟨hl, e | ⟨g, cp, cur, rfl, hb, r⟩⟩
  · exact ⟨hl, .inl e⟩
  · exact ⟨hl, .inr ⟨g, cp, cur, rfl, Nat.le_trans hn hb, r⟩⟩
theorem infoSub : (Tryz.prog.info? 31).map (fun i => (i.zero, i.size, i.bytes)) = some (some (.agg #[.string ⟨#[]⟩, .string ⟨#[]⟩, .int .i64 0]), 3, 40) := by kernel_rfl
/-- append of one entry that lies in a block of its own. -/
theorem run_append_sub (w : World) (base ty : Nat) (v : Value) (L : List Sb) (hown : OwnS w base v L) (B : Nat) (s : Sb) (hB : w.heap[B]? = some (.cells #[.string (str s.f), .string (str s.c), .int .i64 (s.q : Int)] 31 (0, 0))) (hL : L.length ≤ 1000000) (hbase : base ≤ w.heap.size) :
    ∃ v' w', (Builtin.append_ #[27, 27] ty #[v, .slice (some ⟨B, 0, none⟩) 1 1]).run Tryz.prog w = .ok v' w' ∧ OwnS w' base v' (L ++ [s]) ∧ w.grownBy w' v.ownBlock ∧ (v'.ownBlock = v.ownBlock ∨ v'.ownBlock = some w.heap.size) := by
  obtain ⟨i0, hi, hz0, hz1, hz2⟩ := info_parts infoSub
  obtain ⟨-, c0, c1, c2, -, -, -⟩ := box3 hB
  obtain ⟨v', w', h1, h2, h3, -, h5⟩ := run_append_own_at (P := Tryz.prog) (w := w) base 27 ty 31 i0 _ 3 40 Tryz.underlying27 hi hz0 hz1 hz2 rfl (by decide) v L.length (subsL L) hown ⟨B, 0, none⟩ 1 1 (subL s) rfl (fun j u hu => by
      rw [addr_add, Nat.zero_add]
      match j, hu with
      | 0, hu => cases hu; exact c0
      | 1, hu => cases hu; exact c1
      | 2, hu => cases hu; exact c2
      | j + 3, hu => simp [subL] at hu) (fun u hu => by
      simp [subL] at hu
      rcases hu with rfl | rfl | rfl <;> rfl) (by unfold maxLen; omega) (by omega) hbase
  refine ⟨v', w', h1, ?_, h3, h5⟩
  unfold OwnS
  rw [subsL_app, List.length_append]
  simpa [subsL] using h2
theorem grownBy.trans' {a b c : World} {row row' : Option Nat} (h : a.grownBy b row) (k : b.grownBy c row') (hr : row' = row ∨ ∀ g, row' = some g → a.heap.size ≤ g) : a.grownBy c row :=
  ⟨k.os.trans h.os, k.tape.trans h.tape, k.output.trans h.output, Nat.le_trans h.size k.size, fun i hi hne => (k.block i (Nat.lt_of_lt_of_le hi h.size) (fun e => by
    rcases hr with hr | hr
    · exact hne (e.trans hr)
    · have := hr i e.symm
      omega)).trans (h.block i hi hne)⟩
theorem wpListIn_append_run {F : Fence} {n : Nat} {P : Program} {T : TypeId} {w w' : World} {ops : Array Oper} {rest : List Oper} {o : Oper} {a : Act} {Q : Exit → Act → World → Prop} (hg : o.guard = none) (s x : Operand) (hop : o.op = Op.call { callee := Callee.builtin Builtin.append, args := #[s, x], argTypes := #[T, T] })
    (v y v' : Value) (hs : a.eval s = v) (hx : a.eval x = y) (hr : (Builtin.append_ #[T, T] o.type #[v, y]).run P w = .ok v' w') (hK : wpListIn F n P ops Q rest (a.put o.dst v') w') : wpListIn F n P ops Q (o :: rest) a w := by
  refine wpListIn_plain hg fun K hK' => ?_
  unfold Oper.wpIn
  refine ⟨?_, ?_⟩
  · simp [Oper.about, hop, resolve, Target.leads, Sem.run_pure]
  · rw [Oper.semAt_plain F _ _ (by rw [hop]; intro c hc'; cases hc')]
    simp [execOp, hop, resolve, invoke, builtin, hs, hx, hr, Result.andThen]
    exact hK' _ _ hK
/-- What AppendSeq's box holds between two rounds. -/
structure ApI (w : World) (base : Nat) (v : Value) (L : List Sb) (Bs : Nat) (pre : List Sb) (W : World) (u : Value) : Prop where
  box : Boxed W Bs 27 u
  row : OwnS W base u (L ++ pre)
  grown : w.grownBy W v.ownBlock
  loc : u.ownBlock = v.ownBlock ∨ ∀ k, u.ownBlock = some k → w.heap.size ≤ k
theorem ApI.kept {w : World} {base : Nat} {v : Value} {L : List Sb} {Bs : Nat} {pre : List Sb} {W W' : World} {u : Value} (h : ApI w base v L Bs pre W u) {row : Option Nat} (hg : W.grownBy W' row) (hr : ∀ r, row = some r → w.heap.size ≤ r ∧ ∃ o : Obj, W.heap[r]? = some o ∧ o.isCells = false) : ApI w base v L Bs pre W' u :=
  ⟨h.box.kept hg (fun e => by obtain ⟨-, o, ho, hc⟩ := hr Bs e.symm; rw [show W.heap[Bs]? = _ from h.box] at ho; cases ho; cases hc),
   h.row.kept fun g hgb => hg.block g (ownS_lt h.row g hgb).2 (fun e => by obtain ⟨-, o, ho, hc⟩ := hr g e.symm; obtain ⟨cs, hcs⟩ := ownS_block h.row g hgb; rw [hcs] at ho; cases ho; cases hc),
   grownBy.trans' h.grown hg (.inr fun g e => (hr g e).1), h.loc⟩
attribute [local go_sem] Oper.semAt_some
set_option maxRecDepth 100000 in
set_option maxHeartbeats 4000000 in
theorem appS_in (F : Fence) (n : Nat) (hfn : F.fn 73) (hro : F.round = none) (hn : 2 ≤ n) (g : Nat) (lb : Array Value) (hFg : F.fn g) (eg : ∀ args w, (callFunc g args).run Tryz.prog w = .ok (.enter g args) w)
    (S Sp : List Sb → Prop) (w : World) (hseq : SeqStopsK F (n - 1) Tryz.prog g lb (fun s => #[sbV s]) KeepsWalks S Sp 5000 w) (base : Nat) (v : Value) (L : List Sb) (hO : OwnS w base v L) (hL : L.length ≤ 900000) (hbase : base ≤ w.heap.size) :
    CallsIn F n Tryz.prog 73 #[v, .func (.func g) #[] lb] w fun e w' => ∃ v' xs, e = .returned v' ∧ S xs ∧ OwnS w' base v' (L ++ xs) ∧ w.grownBy w' v.ownBlock := by
  have h1 : 1 ≤ n := by omega
  obtain ⟨va, vc, rfl⟩ := ownS_slice hO
  refine callsIn_of_wp_marks Tryz.func73 rfl hfn ?_ hro
  simp only [Tryz.ntmps73, List.size_toArray, List.length_cons, List.length_nil, Nat.reduceAdd, Nat.reduceSub, Array.replicate_succ, Array.replicate_zero, List.push_toArray, List.append_toArray, List.nil_append, List.cons_append]
  gi_wp2
  obtain ⟨w1, hw1⟩ : ∃ w1, w.alloc (.cells #[.slice va L.length vc] 27) = w1 := ⟨_, rfl⟩
  have hs1 : w1.heap.size = w.heap.size + 1 := by rw [← hw1]; simp
  have bV : Boxed w1 w.heap.size 27 (.slice va L.length vc) := by rw [← hw1]; exact Boxed.new w _ _
  have hB0 : Below w.heap.size w w1 := by rw [← hw1]; exact (Below.refl _ w).alloc (Nat.le_refl _) _
  have hg1 : w.grownBy w1 (Value.slice va L.length vc).ownBlock := by rw [← hw1]; exact World.grownBy_alloc w _ _
  rw [hw1]
  clear hw1
  refine wpIn_rangeFunc_ownH hro h1 (gf := g) (lb := lb) rfl hFg eg hseq walksK_t walksK_b hB0 (fun _ => rfl)
    (fun pre W => ∃ u, ApI w base (.slice va L.length vc) L w.heap.size pre W u)
    (fun _ _ _ => False)
    (fun s A B row hs hg' hr => by
      obtain ⟨u, hu⟩ := hs
      exact ⟨u, hu.kept hg' fun r e => ⟨by have := (hr r e).1; omega, (hr r e).2⟩⟩)
    (fun _ _ _ _ _ hs _ _ => hs)
    ⟨_, bV, by rw [List.append_nil]; exact hO.below hB0, hg1, .inl rfl⟩
    (fun x a' W => ∃ P, w.heap.size + 1 ≤ P ∧ W.heap[P]? = some (boxOf x) ∧ a' = { tmps := #[.slice va L.length vc, .func (.func g) #[] lb, .pointer (some ⟨w.heap.size, 0, none⟩), undef, .slice none 0 0, .pointer (some ⟨P, 0, none⟩), .func (.func g) #[] lb, sbV x, undef, undef, undef, undef, undef], defers := [] })
    (fun x a' _ A B row hs hg' hr => by
      obtain ⟨P, hP, hrow, e⟩ := hs
      exact ⟨P, hP, (hg'.block P (Array.getElem?_eq_some_iff.1 hrow).1 (fun e' => by obtain ⟨o, ho, hc⟩ := (hr P e'.symm).2; rw [hrow] at ho; cases ho; cases hc)).trans hrow, e⟩) ?assign ?body ?done ?stop
  case assign =>
    rintro l pre x W K ⟨u, hI⟩ hK
    unfold sbV at hK ⊢
    gi_wp2
    have hlt := hI.box.lt
    refine hK _ _ ((KeepsOthers.alloc _ _).from _) (KeepsWalks.alloc _ _) ⟨u, hI.kept (World.grownBy_alloc _ _ none) (fun r e => by cases e)⟩ ⟨W.heap.size, hlt, (MapKept.heap_alloc W _).1, rfl⟩
  case body =>
    rintro l pre x a' W hl - ⟨u, hI⟩ ⟨P, hP, hrow, rfl⟩ hlen
    have hc := hI.box.cell
    have hf := hI.box.frozen
    have hBl := hI.box.lt
    obtain ⟨b3, b0, b1, b2, -, -, -⟩ := box3 hrow
    have hsz := hI.grown.size
    have hrow2 := hI.row.kept (w' := W.alloc (boxOf x)) fun g hgb => (World.grownBy_alloc W (boxOf x) none).block g (ownS_lt hI.row g hgb).2 (by simp)
    obtain ⟨v', w3, hr, ho3, hg3, hloc3⟩ := run_append_sub (W.alloc (boxOf x)) base 27 u (L ++ pre) hrow2 W.heap.size x (MapKept.heap_alloc W _).1 (by rw [List.length_append]; omega) (by simp; omega)
    have hne : some w.heap.size ≠ u.ownBlock := fun e => by
      obtain ⟨cs, hcs⟩ := ownS_block hI.row _ e.symm
      have := (show W.heap[w.heap.size]? = _ from hI.box).symm.trans hcs
      injection this with this
      injection this with _ e2
      exact absurd e2 (by decide)
    have hbx3 : Boxed w3 w.heap.size 27 u := (hI.box.alloc _).kept hg3 hne
    have hc3 := hbx3.cell
    have hf3 := hbx3.frozen
    have hbl3 := hbx3.lt
    obtain ⟨ua, uc, hu⟩ := ownS_slice hI.row
    obtain ⟨va', vc', hv'⟩ := ownS_slice ho3
    obtain ⟨k1, hk1⟩ : ∃ k, (L ++ pre).length = k := ⟨_, rfl⟩
    obtain ⟨k2, hk2⟩ : ∃ k, (L ++ pre ++ [x]).length = k := ⟨_, rfl⟩
    rw [hk1] at hu
    rw [hk2] at hv'
    subst hv' hu
    have HX := Lib.hid (And.intro hI (And.intro ho3 (And.intro hg3 (And.intro hloc3 (And.intro hbx3 hne)))))
    clear hk1 hk2
    clear hI ho3 hg3 hloc3 hbx3 hne hrow2 hrow
    unfold sbV
    gi_wp2_with (first
      | (gi_at_builtin; refine wpListIn_append_run (T := 27) rfl _ _ rfl _ _ _ rfl rfl hr ?_)
      | gi_in)
    obtain ⟨hI, ho3, hg3, hloc3, hbx3, hne⟩ := HX.out
    have hgA := World.grownBy_alloc W (boxOf x) none
    have hrc : ∀ (j : Nat) (o : Obj), (Value.slice ua k1 uc).ownBlock = some j → (W.alloc (boxOf x)).heap[j]? = some o → o.isCells = true := fun j o ej ho => by
      obtain ⟨cs, hcs⟩ := ownS_block hI.row j ej
      rw [hgA.block j (ownS_lt hI.row j ej).2 (by simp), hcs] at ho
      cases ho; rfl
    have hko : KeepsOthers W (w3.setCell ⟨w.heap.size, 0, none⟩ (.slice va' k2 vc')) := ((KeepsOthers.alloc W (boxOf x)).trans (KeepsOthers.of_grownBy hg3 hrc)).trans (KeepsOthers.setCell _ _ _)
    have hlocN : (Value.slice va' k2 vc').ownBlock = (Value.slice va L.length vc).ownBlock ∨ ∀ k, (Value.slice va' k2 vc').ownBlock = some k → w.heap.size ≤ k := by
      rcases hloc3 with e | e
      · rw [e]; exact hI.loc
      · refine .inr fun k hk => ?_
        rw [e] at hk
        have : (W.alloc (boxOf x)).heap.size = k := by injection hk
        rw [← this]; simp; omega
    have hne' : some w.heap.size ≠ (Value.slice va' k2 vc').ownBlock := by
      rcases hloc3 with e | e
      · rw [e]; exact hne
      · rw [e]; intro e2
        have : w.heap.size = (W.alloc (boxOf x)).heap.size := by injection e2
        simp at this; omega
    have hgS := grownBy_setCell' w3 w.heap.size (.slice va' k2 vc')
    refine ⟨hko.from _, hko.walks, .slice va' k2 vc', ⟨hbx3.set _, ?_, ?_, hlocN⟩⟩
    · rw [← List.append_assoc]
      exact ho3.kept fun g hgb => hgS.block g (ownS_lt ho3 g hgb).2 (fun e => hne' (by rw [hgb]; exact e.symm))
    · exact grownBy.trans' (grownBy.trans' (grownBy.trans' hI.grown hgA (.inr fun g e => by cases e)) hg3 hI.loc) hgS (.inr fun g e => by injection e with e; omega)
  case done =>
    rintro D xs W hD hS ⟨u, hI⟩ hK
    obtain ⟨ua, uc, hu⟩ := ownS_slice hI.row
    obtain ⟨k1, hk1⟩ : ∃ k, (L ++ xs).length = k := ⟨_, rfl⟩
    rw [hk1] at hu
    subst hu
    have hc := hI.box.cell
    have HX := Lib.hid (And.intro hI hS)
    clear hI hS hk1
    gi_wp2
    refine ⟨by simp, .inl ⟨_, _, rfl, run_takeDeferred hK, ?_⟩⟩
    refine ⟨_, results_tmp rfl _ _ _, ?_⟩
    obtain ⟨hI, hS⟩ := HX.out
    refine ⟨_, xs, rfl, hS, ?_, ?_⟩
    · exact hI.row.kept fun g hgb => World.putObj_heap_other (fun e => by
        obtain ⟨cs, hcs⟩ := ownS_block hI.row g hgb
        rw [e, hK] at hcs
        cases hcs)
    · exact grownBy.trans' hI.grown (grownBy_putObj' W D _) (.inr fun g e => by injection e with e; omega)
  case stop =>
    rintro D c pre W _ _ h _
    exact h.elim
end Go.Proofs.YtgcfgheamaoceaaGreatDoor
/- Layer 14: who is met: the closure that gathers. -/
namespace Go.Proofs.YtgcfgheamaoceaaGreatDoor
open Go.RowKit Go.MapKept Go.ChangeMaps Go.Maps

/-- What a tree's entries are. -/
structure EnOf (En : Pth → Txt → Option Sb) (g : List Sb) : Prop where
  iff : ∀ p c s, En p c = some s ↔ s ∈ g ∧ lv s.f = p ∧ s.c = c
  nodup : g.Nodup
  ok : ∀ s ∈ g, okF (lv s.f) = true
theorem perm_of_nodup {α : Type} [DecidableEq α] {a b : List α} (ha : a.Nodup) (hb : b.Nodup) (h : ∀ x, x ∈ a ↔ x ∈ b) : a.Perm b := (List.perm_ext_iff_of_nodup ha hb).2 h
theorem EnOf.vals {En : Pth → Txt → Option Sb} {g : List Sb} (h : EnOf En g) {p : Pth} {xs : List Sb} (hx : ∃ ks, AllOf (endV En p) ks ∧ xs = ks.map fun c => (En p c).getD ⟨[], [], 0⟩) : xs.Perm (g.filter fun s => decide (lv s.f = p)) := by
  obtain ⟨ks, ⟨hn, hm⟩, rfl⟩ := hx
  have hE : ∀ c ∈ ks, ∃ s, En p c = some s := fun c hc => by
    have := (hm c).1 hc
    unfold endV at this
    rw [Option.isSome_map] at this
    exact Option.isSome_iff_exists.1 this
  refine perm_of_nodup ?_ (h.nodup.filter _) fun s => ?_
  · rw [List.nodup_iff_pairwise_ne, List.pairwise_map]
    refine List.Pairwise.imp_of_mem ?_ (List.nodup_iff_pairwise_ne.1 hn)
    intro a b ha hb hne e
    obtain ⟨s1, e1⟩ := hE a ha
    obtain ⟨s2, e2⟩ := hE b hb
    rw [e1, e2] at e
    have e3 : s1 = s2 := e
    subst e3
    exact hne (((h.iff p a s1).1 e1).2.2.symm.trans ((h.iff p b s1).1 e2).2.2)
  · rw [List.mem_map, List.mem_filter]
    constructor
    · rintro ⟨c, hc, e⟩
      obtain ⟨s1, e1⟩ := hE c hc
      rw [e1] at e
      have e : s1 = s := e
      subst e
      exact ⟨((h.iff p c s1).1 e1).1, decide_eq_true ((h.iff p c s1).1 e1).2.1⟩
    · rintro ⟨h1, h2⟩
      have e1 := (h.iff p s.c s).2 ⟨h1, of_decide_eq_true h2, rfl⟩
      refine ⟨s.c, (hm s.c).2 ?_, by rw [e1]; rfl⟩
      unfold endV
      rw [e1]; rfl
structure Gk (base F : Nat) (w w' : World) : Prop where
  low : Below 0 w w'
  block : ∀ k, k < base → k ≠ F → w'.heap[k]? = w.heap[k]?
theorem Gk.trans {base F : Nat} {a b c : World} (h : Gk base F a b) (k : Gk base F b c) : Gk base F a c := ⟨h.low.trans k.low, fun i hi hF => (k.block i hi hF).trans (h.block i hi hF)⟩
theorem Gk.of_below {base F : Nat} {a b : World} (h : Below base a b) : Gk base F a b := ⟨h.mono (Nat.zero_le _), fun k hk _ => h.block k hk⟩
def gthV (F G : Nat) : Value := .func (.func 72) #[] #[.pointer (some ⟨G, 0, none⟩), .pointer (some ⟨F, 0, none⟩)]
structure GPre (t : Tr) (En : Pth → Txt → Option Sb) (C : Pth → Nat) (gs : List (Pth × Txt)) (base F G : Nat) (w : World) (v : Value) (L : List Sb) : Prop where
  tree : TreeAt w t En C gs
  low : ∀ k, Foot t k → k < base ∧ k ≠ F
  boxF : Boxed w F 27 v
  boxG : Boxed w G 112 (gthV F G)
  row : OwnS w base v L
  fl : F < base ∧ G < base ∧ F ≠ G ∧ base ≤ w.heap.size
def GPost (base F : Nat) (w : World) (L M0 : List Sb) (e : Ending) (w' : World) : Prop := e = .returned (.tuple #[]) ∧ Gk base F w w' ∧ ∃ v' M, Boxed w' F 27 v' ∧ OwnS w' base v' (L ++ M) ∧ M.Perm M0
variable {t : Tr} {En : Pth → Txt → Option Sb} {C : Pth → Nat} {gs : List (Pth × Txt)} {base F G : Nat} {w w' : World} {v v' : Value} {L L' : List Sb}
theorem GPre.go (h : GPre t En C gs base F G w v L) (hk : Gk base F w w') (hF : Boxed w' F 27 v') (hr : OwnS w' base v' L') : GPre t En C gs base F G w' v' L' :=
  ⟨h.tree.keeps fun k hf => hk.block k (h.low k hf).1 (h.low k hf).2, h.low, hF, (hk.block G h.fl.2.1 h.fl.2.2.1.symm).trans h.boxG, hr, h.fl.1, h.fl.2.1, h.fl.2.2.1, Nat.le_trans h.fl.2.2.2 hk.low.size⟩
theorem GPre.below (h : GPre t En C gs base F G w v L) (hb : Below w.heap.size w w') : GPre t En C gs base F G w' v L :=
  ⟨h.tree.below hb, h.low, (hb.block F (Nat.lt_of_lt_of_le h.fl.1 h.fl.2.2.2)).trans h.boxF, (hb.block G (Nat.lt_of_lt_of_le h.fl.2.1 h.fl.2.2.2)).trans h.boxG, h.row.below hb, h.fl.1, h.fl.2.1, h.fl.2.2.1, Nat.le_trans h.fl.2.2.2 hb.size⟩
set_option maxRecDepth 100000 in
theorem gather_none (w : World) (a b c d : Value) : Calls Tryz.prog 72 #[.pointer none, a, b, c, d] w fun e w' => e = .returned (.tuple #[]) ∧ w = w' := by
  go_enter Tryz.func72, Tryz.ntmps72
  go_wp2
  refine bodyPost_ret (results_none rfl _ _ _) rfl ?_
  exact ⟨rfl, rfl⟩
theorem appS_any (g : Nat) (lb : Array Value) (eg : ∀ args w, (callFunc g args).run Tryz.prog w = .ok (.enter g args) w)
    (S Sp : List Sb → Prop) (w : World) (hseq : SeqStopsK Fence.wide 3 Tryz.prog g lb (fun s => #[sbV s]) KeepsWalks S Sp 5000 w) (base : Nat) (v : Value) (L : List Sb) (hO : OwnS w base v L) (hL : L.length ≤ 900000) (hbase : base ≤ w.heap.size) :
    Calls Tryz.prog 73 #[v, .func (.func g) #[] lb] w fun e w' => ∃ v' xs, e = .returned v' ∧ S xs ∧ OwnS w' base v' (L ++ xs) ∧ w.grownBy w' v.ownBlock :=
  callsIn_wide.1 (appS_in Fence.wide 4 trivial rfl (by decide) g lb trivial eg S Sp w hseq base v L hO hL hbase)
/-- What ends here, appended to what was found. -/
theorem gather_app (h : GPre t En C gs base F G w v L) {g : List Sb} (hg : EnOf En g) {p : Pth} {x : Nd} (hx : t p = some x) (hL : L.length ≤ 900000) (W : World) (Bm : Nat) (hb : Below w.heap.size w W) (hcell : W.cell? ⟨Bm, 0, none⟩ = some (.map (some x.e))) (hBm : Bm < W.heap.size) :
    Calls Tryz.prog 73 #[v, .func (.func 96) #[] #[.pointer (some ⟨Bm, 0, none⟩)]] W fun e w' =>
      ∃ (k : Nat) (va' : Option Addr) (vc' : Nat) (M : List Sb), e = .returned (.slice va' k vc') ∧ OwnS w' base (.slice va' k vc') (L ++ M) ∧ M.Perm (g.filter fun s => decide (lv s.f = p)) ∧ Boxed w' F 27 v ∧ Gk base F w w' := by
  have h2 := h.below hb
  obtain ⟨f1, f2, f3, f4⟩ := h2.fl
  refine (appS_any _ _ (enters_of Tryz.func96 (by kernel_rfl) rfl) _ _ _
    (vals_stops Fence.wide 3 trivial rfl (by decide) Bm x.e (endV En p) (fun c => (En p c).getD ⟨[], [], 0⟩) (fun k u hk => by
      unfold endV at hk
      cases hE : En p k with
      | none => rw [hE] at hk; cases hk
      | some s => rw [hE] at hk; injection hk with hk; rw [← hk]; rfl) _ hBm hcell (h2.tree.ends p x hx)) base v L h2.row hL h2.fl.2.2.2).mono ?_
  rintro e w' ⟨v', M, rfl, hM, hO, hgr⟩
  obtain ⟨va', vc', hv'⟩ := ownS_slice hO
  refine ⟨_, va', vc', M, by rw [hv'], hv' ▸ hO, hg.vals hM, h2.boxF.kept hgr (fun e => by have := (ownS_lt h2.row F e.symm).1; omega), ?_⟩
  have hW : Gk base F w W := Gk.of_below (hb.mono (by have := h.fl.2.2.2; omega))
  exact hW.trans ⟨⟨hgr.os, hgr.tape, hgr.output, hgr.size, fun i hi => absurd hi (Nat.not_lt_zero i)⟩, fun k hk hF => hgr.block k (by omega) fun e => by have := (ownS_lt h2.row k e.symm).1; omega⟩
theorem Gk.setF {a b : World} (h : Gk base F a b) (u : Value) : Gk base F a (b.setCell ⟨F, 0, none⟩ u) :=
  ⟨h.low.setCell (p := ⟨F, 0, none⟩) (Nat.zero_le _) u, fun k hk hF => (heap_setCell_other b ⟨F, 0, none⟩ k u hF).trans (h.block k hk hF)⟩
theorem OwnS.setF {w : World} {base : Nat} {v : Value} {L : List Sb} (h : OwnS w base v L) (hF : F < base) (u : Value) : OwnS (w.setCell ⟨F, 0, none⟩ u) base v L :=
  h.kept fun g hg => heap_setCell_other w ⟨F, 0, none⟩ g u (fun e => by have := (ownS_lt h g hg).1; have : g = F := e; omega)
set_option maxRecDepth 100000 in
set_option maxHeartbeats 4000000 in
/-- Nothing is left of the name. -/
theorem gather_nil {g : List Sb} (hg : EnOf En g) {p : Pth} {x : Nd} (hx : t p = some x) (a : Option Addr) (k : Nat) (o : Bool)
    (HC : o = true → ∀ W v L, GPre t En C gs base F G W v L → L.length + (g.filter (got true (p ++ [[35]]) [])).length ≤ 900000 → Calls Tryz.prog 72 #[ptrV (t (p ++ [[35]])), .slice none 0 0, .bool true, .pointer (some ⟨G, 0, none⟩), .pointer (some ⟨F, 0, none⟩)] W fun e w' => GPost base F W L (g.filter (got true (p ++ [[35]]) [])) e w')
    (h : GPre t En C gs base F G w v L) (hL : L.length + (g.filter (got o p [])).length ≤ 900000) :
    Calls Tryz.prog 72 #[.pointer (some ⟨x.b, 0, none⟩), .slice a 0 k, .bool o, .pointer (some ⟨G, 0, none⟩), .pointer (some ⟨F, 0, none⟩)] w fun e w' => GPost base F w L (g.filter (got o p [])) e w' := by
  obtain ⟨c0, c1, c2⟩ := h.tree.cells hx
  have hlt := h.tree.lt ⟨p, x, hx, .inl rfl⟩
  have hcG := h.boxG.cell
  have hlG := h.boxG.lt
  have hper := got_nil_perm (o := o) (p := p) hg.ok
  obtain ⟨M0, hM0⟩ : ∃ M0, g.filter (got o p []) = M0 := ⟨_, rfl⟩
  rw [hM0] at hL hper ⊢
  have H := Lib.hid h
  clear hM0 c2
  unfold gthV at hcG
  cases o with
  | true =>
    have hlk := h.tree.drew.look_kid hx [35] (by decide)
    rw [show str [35] = (⟨#[35]⟩ : ByteArray) from rfl] at hlk
    have HC' := HC rfl w.drew v L (h.below ((Below.refl _ w).drew)) (by have e2 := hper.length_eq; simp only [if_true, List.length_append] at e2; omega)
    have hK0 : Gk base F w w.drew := Gk.of_below ((Below.refl _ w).drew)
    have HK0 := Lib.hid hK0
    obtain ⟨u, hu⟩ : ∃ u, ptrV (t (p ++ [[35]])) = u := ⟨_, rfl⟩
    rw [hu] at hlk HC'
    have HCc := Lib.hid HC'
    have HP := Lib.hid hper
    clear h hu hper HC HC' hK0
    go_enter Tryz.func72, Tryz.ntmps72
    go_wp2_with fail
    go_still_tail 6, (by kernel_rfl)
    change wpList _ _ _ _ _ w.drew
    go_wp2_with (go_at_call 72; refine HCc.out.mono ?_; rintro e wz ⟨rfl, hK, v1, M1, hF1, hO1, hP1⟩; have HZ := Lib.hid (And.intro hK (And.intro hF1 (And.intro hO1 hP1))); clear hK hF1 hO1 hP1)
    obtain ⟨hK, hF1, hO1, hP1⟩ := HZ.out
    have h1 := (H.out.below ((Below.refl _ w).drew)).go hK hF1 hO1
    have hlen1 : (L ++ M1).length ≤ 900000 := by
      have e1 := hP1.length_eq
      have e2 := HP.out.length_eq
      rw [List.length_append] at e2 ⊢
      simp only [if_true] at e2
      omega
    have HA := Lib.hid (gather_app h1 hg hx hlen1)
    obtain ⟨va, vc, hv⟩ := ownS_slice hO1
    obtain ⟨k0, hk0⟩ : ∃ k, (L ++ M1).length = k := ⟨_, rfl⟩
    rw [hk0] at hv
    subst hv
    obtain ⟨d0, d1, -⟩ := h1.tree.cells hx
    have dF := h1.boxF.cell
    have dlF := h1.boxF.lt
    have dlt := h1.tree.lt ⟨p, x, hx, .inl rfl⟩
    clear hK hF1 hO1 hP1 h1 hlen1 hk0 c0 c1 hlk hcG hlG hlt
    go_wp2_with fail
    go_region_with (first
        | (go_at_call 74; refine (vals_any _ _).mono ?_; rintro e wv ⟨rfl, rfl⟩)
        | (go_at_call 73; go_loud (refine (HA.out _ _ ((Below.refl _ wz).alloc (Nat.le_refl _) _).drew (Boxed.new wz _ _).cell (by simp)).mono ?_; rintro e wy ⟨k', va', vc', M, rfl, hO, hP, hbx, hgk⟩; have z0 := hbx.cell; have z1 := hbx.frozen; have z2 := hbx.lt; have HY := Lib.hid (And.intro hO (And.intro hP (And.intro hbx hgk))); clear hO hP hbx hgk)))
    all_goals
      go_wp2
      refine bodyPost_ret (results_none rfl _ _ _) rfl ?_
      obtain ⟨hO, hP, hbx, hgk⟩ := HY.out
      obtain ⟨hK, hF1, hO1, hP1⟩ := HZ.out
      refine ⟨rfl, ((HK0.out.trans hK).trans hgk).setF _, _, M1 ++ M, hbx.set _, ?_, ?_⟩
      · rw [← List.append_assoc]; exact hO.setF H.out.fl.1 _
      · refine List.Perm.trans ?_ HP.out.symm
        simp only [if_true]
        exact hP1.append hP
  | false =>
    have hlen1 : L.length ≤ 900000 := by omega
    have HA := Lib.hid (gather_app h hg hx hlen1)
    have hcF := h.boxF.cell
    have hlF := h.boxF.lt
    obtain ⟨va, vc, hv⟩ := ownS_slice h.row
    obtain ⟨k0, hk0⟩ : ∃ k, L.length = k := ⟨_, rfl⟩
    rw [hk0] at hv
    subst hv
    have HP := Lib.hid hper
    clear h hper HC hlen1 hk0
    go_enter Tryz.func72, Tryz.ntmps72
    go_wp2_with fail
    go_region_with (first
        | (go_at_call 74; refine (vals_any _ _).mono ?_; rintro e wv ⟨rfl, rfl⟩)
        | (go_at_call 73; go_loud (refine (HA.out _ _ ((Below.refl _ w).alloc (Nat.le_refl _) _).drew (Boxed.new w _ _).cell (by simp)).mono ?_; rintro e wy ⟨k', va', vc', M, rfl, hO, hP, hbx, hgk⟩; have z0 := hbx.cell; have z1 := hbx.frozen; have z2 := hbx.lt; have HY := Lib.hid (And.intro hO (And.intro hP (And.intro hbx hgk))); clear hO hP hbx hgk)))
    all_goals
      go_wp2
      refine bodyPost_ret (results_none rfl _ _ _) rfl ?_
      obtain ⟨hO, hP, hbx, hgk⟩ := HY.out
      refine ⟨rfl, hgk.setF _, _, M, hbx.set _, hO.setF H.out.fl.1 _, hP.trans ?_⟩
      exact HP.out.symm
end Go.Proofs.YtgcfgheamaoceaaGreatDoor
/- Layer 14: the closure that gathers, whole; met. -/
namespace Go.Proofs.YtgcfgheamaoceaaGreatDoor
open Go.RowKit Go.MapKept Go.ChangeMaps Go.Maps

variable {t : Tr} {En : Pth → Txt → Option Sb} {C : Pth → Nat} {gs : List (Pth × Txt)} {base F G : Nat} {w w' : World} {v v' : Value} {L L' : List Sb}
set_option maxRecDepth 100000 in
set_option maxHeartbeats 4000000 in
/-- Some is left of the name. -/
theorem gather_cons {g : List Sb} (hg : EnOf En g) {p : Pth} {x : Nd} (hx : t p = some x) (B off k m : Nat) (l : Txt) (N : Pth) (o : Bool) (hl : l.length ≤ maxLen) (hs : hasS l = false) (hB : B < base ∧ B ≠ F) (hk : m + 1 ≤ k) (hk2 : k ≤ 9223372036854775807)
    (H1 : o = true → ∀ W v L, GPre t En C gs base F G W v L → L.length + (g.filter (got true (p ++ [[35]]) [])).length ≤ 900000 → Calls Tryz.prog 72 #[ptrV (t (p ++ [[35]])), .slice none 0 0, .bool true, .pointer (some ⟨G, 0, none⟩), .pointer (some ⟨F, 0, none⟩)] W fun e w' => GPost base F W L (g.filter (got true (p ++ [[35]]) [])) e w')
    (H2 : o = true → ∀ W v L off', (1 ≤ m → off' = off + 1) → W.heap[B]? = w.heap[B]? → GPre t En C gs base F G W v L → L.length + (g.filter (got true (p ++ [[43]]) N)).length ≤ 900000 → Calls Tryz.prog 72 #[ptrV (t (p ++ [[43]])), .slice (some ⟨B, off', none⟩) m (k - 1), .bool true, .pointer (some ⟨G, 0, none⟩), .pointer (some ⟨F, 0, none⟩)] W fun e w' => GPost base F W L (g.filter (got true (p ++ [[43]]) N)) e w')
    (H3 : ∀ W v L off', (1 ≤ m → off' = off + 1) → W.heap[B]? = w.heap[B]? → GPre t En C gs base F G W v L → L.length + (g.filter (got true (p ++ [l]) N)).length ≤ 900000 → Calls Tryz.prog 72 #[ptrV (t (p ++ [l])), .slice (some ⟨B, off', none⟩) m (k - 1), .bool true, .pointer (some ⟨G, 0, none⟩), .pointer (some ⟨F, 0, none⟩)] W fun e w' => GPost base F W L (g.filter (got true (p ++ [l]) N)) e w')
    (h : GPre t En C gs base F G w v L) (hc : w.cell? ⟨B, off, none⟩ = some (.string (str l))) (hL : L.length + (g.filter (got o p (l :: N))).length ≤ 900000) :
    Calls Tryz.prog 72 #[.pointer (some ⟨x.b, 0, none⟩), .slice (some ⟨B, off, none⟩) (m + 1) k, .bool o, .pointer (some ⟨G, 0, none⟩), .pointer (some ⟨F, 0, none⟩)] w fun e w' => GPost base F w L (g.filter (got o p (l :: N))) e w' := by
  obtain ⟨c0, c1, c2⟩ := h.tree.cells hx
  have hlt := h.tree.lt ⟨p, x, hx, .inl rfl⟩
  have hcG := h.boxG.cell
  have hlG := h.boxG.lt
  have hper := got_cons_perm (o := o) (p := p) (N := N) hs hg.ok
  obtain ⟨M0, hM0⟩ : ∃ M0, g.filter (got o p (l :: N)) = M0 := ⟨_, rfl⟩
  rw [hM0] at hL hper ⊢
  have HPL := Lib.hid (And.intro hper.length_eq hL)
  obtain ⟨off', ho, hsl⟩ := slice_tl (m + 1) B off k (by omega) hk hk2
  have ho' : 1 ≤ m → off' = off + 1 := fun h => ho (by omega)
  have hm1 : (0 : Int) < ((m : Int) + 1) := by omega
  simp only [Nat.add_sub_cancel] at hsl
  have H := Lib.hid h
  have HO := Lib.hid ho'
  have HP := Lib.hid hper
  have hd0 : Below w.heap.size w w.drew := (Below.refl _ w).drew
  have HD := Lib.hid hd0
  have hBl : B < w.heap.size := Nat.lt_of_lt_of_le hB.1 h.fl.2.2.2
  clear hM0 c2 c1 hper ho ho' hd0
  unfold gthV at hcG
  cases o with
  | true =>
    have hlk := h.tree.drew.look_kid hx [35] (by decide)
    rw [show str [35] = (⟨#[35]⟩ : ByteArray) from rfl] at hlk
    have HCc := Lib.hid (H1 rfl w.drew v L (h.below HD.out) (by have e2 := HPL.out.1; simp only [if_true, List.length_append] at e2; omega))
    have HH2 := Lib.hid (H2 rfl)
    have HH3 := Lib.hid H3
    obtain ⟨u, hu⟩ : ∃ u, ptrV (t (p ++ [[35]])) = u := ⟨_, rfl⟩
    rw [hu] at hlk HCc
    clear h hu H1 H2 H3
    go_enter Tryz.func72, Tryz.ntmps72
    go_wp2_with fail
    go_still_tail 6, (by kernel_rfl)
    change wpList _ _ _ _ _ w.drew
    go_wp2_with (go_at_call 72; refine HCc.out.mono ?_; rintro e w1 ⟨rfl, hK, v1, M1, hF1, hO1, hP1⟩; have HZ := Lib.hid (And.intro hK (And.intro hF1 (And.intro hO1 hP1))); clear hK hF1 hO1 hP1)
    obtain ⟨hK, hF1, hO1, hP1⟩ := HZ.out
    have h1 := (H.out.below HD.out).go hK hF1 hO1
    have hB1 : w1.heap[B]? = w.heap[B]? := hK.block B hB.1 hB.2
    have hlk := h1.tree.drew.look_kid hx [43] (by decide)
    rw [show str [43] = (⟨#[43]⟩ : ByteArray) from rfl] at hlk
    obtain ⟨d0, -, -⟩ := h1.tree.cells hx
    have dG := h1.boxG.cell
    have dlG := h1.boxG.lt
    have dlt := h1.tree.lt ⟨p, x, hx, .inl rfl⟩
    unfold gthV at dG
    have HCc2 := Lib.hid (HH2.out w1.drew v1 (L ++ M1) off' HO.out hB1 (h1.below ((Below.refl _ w1).drew)) (by
      obtain ⟨e2, e3⟩ := HPL.out
      have e1 := hP1.length_eq
      simp only [if_true, List.length_append] at e2 ⊢
      omega))
    obtain ⟨u2, hu2⟩ : ∃ u, ptrV (t (p ++ [[43]])) = u := ⟨_, rfl⟩
    rw [hu2] at hlk HCc2
    have HB1 := Lib.hid (And.intro hB1 h1)
    clear hK hF1 hO1 hP1 h1 hB1 c0 hcG hlG hlt hu2
    go_wp2_with fail
    go_still_tail 8, (by kernel_rfl)
    change wpList _ _ _ _ _ w1.drew
    go_wp2_with (go_at_call 72; refine HCc2.out.mono ?_; rintro e w2 ⟨rfl, hK, v2, M2, hF1, hO1, hP1⟩; have HY := Lib.hid (And.intro hK (And.intro hF1 (And.intro hO1 hP1))); clear hK hF1 hO1 hP1)
    obtain ⟨hK2, hF2, hO2, hP2⟩ := HY.out
    obtain ⟨hB1, h1⟩ := HB1.out
    have h2 := (h1.below ((Below.refl _ w1).drew)).go hK2 hF2 hO2
    have hB2 : w2.heap[B]? = w.heap[B]? := (hK2.block B hB.1 hB.2).trans hB1
    have ec := (World.cell?_of_block (a := ⟨B, off, none⟩) hB2).trans hc
    have hlk := h2.tree.drew.look_kid hx l hl
    obtain ⟨e0, -, -⟩ := h2.tree.cells hx
    have eG := h2.boxG.cell
    have elG := h2.boxG.lt
    have elt := h2.tree.lt ⟨p, x, hx, .inl rfl⟩
    have elB : B < w2.heap.size := Nat.lt_of_lt_of_le hB.1 h2.fl.2.2.2
    unfold gthV at eG
    have HCc3 := Lib.hid (HH3.out w2.drew v2 (L ++ M1 ++ M2) off' HO.out hB2 (h2.below ((Below.refl _ w2).drew)) (by
      obtain ⟨e2, e3⟩ := HPL.out
      have e1 := HZ.out.2.2.2.length_eq
      have e4 := hP2.length_eq
      simp only [if_true, List.length_append] at e2 ⊢
      omega))
    obtain ⟨u3, hu3⟩ : ∃ u, ptrV (t (p ++ [l])) = u := ⟨_, rfl⟩
    rw [hu3] at hlk HCc3
    clear hK2 hF2 hO2 hP2 h1 hB1 h2 hB2 d0 dG dlG dlt hu3 hc
    go_wp2_with fail
    go_still_tail 11, (by kernel_rfl)
    change wpList _ _ _ _ _ w2.drew
    go_wp2_with (go_at_call 72; refine HCc3.out.mono ?_; rintro e w3 ⟨rfl, hK, v3, M3, hF1, hO1, hP1⟩; have HX := Lib.hid (And.intro hK (And.intro hF1 (And.intro hO1 hP1))); clear hK hF1 hO1 hP1)
    go_end0
    obtain ⟨hK3, hF3, hO3, hP3⟩ := HX.out
    obtain ⟨hK2, hF2, hO2, hP2⟩ := HY.out
    obtain ⟨hK, hF1, hO1, hP1⟩ := HZ.out
    have hz : ∀ (W : World), base ≤ W.heap.size → Gk base F W W.drew := fun W hW => Gk.of_below (((Below.refl _ W).drew).mono hW)
    have hb0 := H.out.fl.2.2.2
    have hb1 := HB1.out.2.fl.2.2.2
    have hb2 := Nat.le_trans hb1 hK2.low.size
    refine ⟨rfl, (((((hz w hb0).trans hK).trans (hz w1 hb1)).trans hK2).trans (hz w2 hb2)).trans hK3, v3, M1 ++ (M2 ++ M3), hF3, ?_, ?_⟩
    · rw [List.append_assoc, List.append_assoc] at hO3; exact hO3
    · refine List.Perm.trans ?_ HP.out.symm
      simp only [if_true]
      exact hP1.append (hP2.append hP3)
  | false =>
    have hlk := h.tree.drew.look_kid hx l hl
    have HCc := Lib.hid (H3 w.drew v L off' HO.out rfl (h.below HD.out) (by
      obtain ⟨e2, e3⟩ := HPL.out
      simp only [Bool.false_eq_true, if_false, List.nil_append] at e2
      omega))
    obtain ⟨u, hu⟩ : ∃ u, ptrV (t (p ++ [l])) = u := ⟨_, rfl⟩
    rw [hu] at hlk HCc
    clear h hu H1 H2 H3
    go_enter Tryz.func72, Tryz.ntmps72
    go_wp2_with fail
    go_still_tail 11, (by kernel_rfl)
    change wpList _ _ _ _ _ w.drew
    go_wp2_with (go_at_call 72; refine HCc.out.mono ?_; rintro e w1 ⟨rfl, hK, v1, M1, hF1, hO1, hP1⟩; have HZ := Lib.hid (And.intro hK (And.intro hF1 (And.intro hO1 hP1))); clear hK hF1 hO1 hP1)
    go_end0
    obtain ⟨hK, hF1, hO1, hP1⟩ := HZ.out
    refine ⟨rfl, (Gk.of_below (HD.out.mono H.out.fl.2.2.2)).trans hK, v1, M1, hF1, hO1, hP1.trans ?_⟩
    refine List.Perm.trans ?_ HP.out.symm
    simp only [Bool.false_eq_true, if_false, List.nil_append]
    exact .refl _
end Go.Proofs.YtgcfgheamaoceaaGreatDoor
/- Layer 14: met. -/
namespace Go.Proofs.YtgcfgheamaoceaaGreatDoor
open Go.RowKit Go.MapKept Go.ChangeMaps Go.Maps

variable {t : Tr} {En : Pth → Txt → Option Sb} {C : Pth → Nat} {gs : List (Pth × Txt)} {base F G : Nat} {w w' : World} {v v' : Value} {L L' : List Sb}
theorem EnOf.gone {g : List Sb} (hg : EnOf En g) (h : TreeAt w t En C gs) {p : Pth} (hp : t p = none) (o : Bool) (N : Pth) : g.filter (got o p N) = [] := by
  refine List.filter_eq_nil_iff.2 fun s hs hgot => ?_
  unfold got at hgot
  rw [Bool.and_eq_true] at hgot
  obtain ⟨r, hr⟩ := under_iff.1 hgot.1
  have := h.gone hp r s.c
  rw [← hr, (hg.iff _ _ s).2 ⟨hs, rfl, rfl⟩] at this
  cases this
theorem gather_no {g : List Sb} (hg : EnOf En g) (h : GPre t En C gs base F G w v L) {p : Pth} (hp : t p = none) (o : Bool) (N : Pth) (a b c d : Value) : Calls Tryz.prog 72 #[ptrV (t p), a, b, c, d] w fun e w' => GPost base F w L (g.filter (got o p N)) e w' := by
  rw [hp, hg.gone h.tree hp]
  refine (gather_none w a b c d).mono ?_
  rintro e w' ⟨rfl, rfl⟩
  exact ⟨rfl, ⟨Below.refl _ _, fun _ _ _ => rfl⟩, v, [], h.boxF, by rw [List.append_nil]; exact h.row, .nil⟩
theorem gather_nil_any {g : List Sb} (hg : EnOf En g) (hlast : ∀ q m, t (q ++ [[35]] ++ [m]) = none) (p : Pth) (a : Option Addr) (k : Nat) (o : Bool) (h : GPre t En C gs base F G w v L) (hL : L.length + (g.filter (got o p [])).length ≤ 900000) :
    Calls Tryz.prog 72 #[ptrV (t p), .slice a 0 k, .bool o, .pointer (some ⟨G, 0, none⟩), .pointer (some ⟨F, 0, none⟩)] w fun e w' => GPost base F w L (g.filter (got o p [])) e w' := by
  cases hx : t p with
  | none => rw [← hx]; exact gather_no hg h hx o [] _ _ _ _
  | some x =>
    refine gather_nil hg hx a k o (fun _ W v L hW hL => ?_) h hL
    cases hy : t (p ++ [[35]]) with
    | none => rw [← hy]; exact gather_no hg hW hy true [] _ _ _ _
    | some y =>
      refine gather_nil hg hy none 0 true (fun _ W v L hW hL => ?_) hW hL
      exact gather_no hg hW (hlast p [35]) true [] _ _ _ _
theorem gather_any {g : List Sb} (hg : EnOf En g) (hlast : ∀ q m, t (q ++ [[35]] ++ [m]) = none) {B : Nat} : ∀ (N p : Pth) (w : World) (v : Value) (L : List Sb) (off k : Nat) (o : Bool), (∀ x ∈ N, hasS x = false ∧ x.length ≤ maxLen) → GPre t En C gs base F G w v L → B < base ∧ B ≠ F → LvAt w B off N → N.length ≤ k → k ≤ 9223372036854775807 → L.length + (g.filter (got o p N)).length ≤ 900000 →
    Calls Tryz.prog 72 #[ptrV (t p), .slice (some ⟨B, off, none⟩) N.length k, .bool o, .pointer (some ⟨G, 0, none⟩), .pointer (some ⟨F, 0, none⟩)] w fun e w' => GPost base F w L (g.filter (got o p N)) e w'
  | [], p, w, v, L, off, k, o, _, h, _, _, _, _, hL => gather_nil_any hg hlast p _ k o h hL
  | l :: N, p, w, v, L, off, k, o, hN, h, hB, hlv, hk, hk2, hL => by
    cases hx : t p with
    | none => rw [← hx]; exact gather_no hg h hx o _ _ _ _ _
    | some x =>
      have hlvW : ∀ (W : World) (off' : Nat), (1 ≤ N.length → off' = off + 1) → W.heap[B]? = w.heap[B]? → LvAt W B off' N := fun W off' ho hb => by
        cases N with
        | nil => intro j x hj; cases hj
        | cons m N => rw [ho (by simp)]; exact hlv.tl.block hb
      refine gather_cons hg hx B off k N.length l N o (hN l (by simp)).2 (hN l (by simp)).1 hB hk hk2 (fun _ W v L hW hL => gather_nil_any hg hlast _ none 0 true hW hL)
        (fun _ W v L off' ho hb hW hL => gather_any hg hlast N (p ++ [[43]]) W v L off' (k - 1) true (fun x hx => hN x (by simp [hx])) hW hB (hlvW W off' ho hb) (by simp at hk; omega) (by omega) hL)
        (fun W v L off' ho hb hW hL => gather_any hg hlast N (p ++ [l]) W v L off' (k - 1) true (fun x hx => hN x (by simp [hx])) hW hB (hlvW W off' ho hb) (by simp at hk; omega) (by omega) hL)
        h (hlv 0 l rfl) hL
theorem results_box {fn : Func} {p : Tmp} (h : fn.results = #[.cell p 27]) (tmps : Array Value) (w : World) (B : Nat) (v : Value) (hp : tmps.getD p undef = .pointer (some ⟨B, 0, none⟩)) (hb : Boxed w B 27 v) : (results fn tmps).run Tryz.prog w = .ok v w := by
  have hp' : tmps[p]?.getD undef = .pointer (some ⟨B, 0, none⟩) := by simpa using hp
  have hc := hb.cell
  simp [results, h, hp', asAddr, loadVar, hc, go_sem, Result.andThen]
def MetPost (w : World) (M0 : List Sb) (e : Ending) (w' : World) : Prop := ∃ v M, e = .returned v ∧ OwnS w' w.heap.size v M ∧ M.Perm M0 ∧ Below w.heap.size w w'
set_option maxRecDepth 100000 in
set_option maxHeartbeats 2000000 in
/-- met: what ends at filters that meet a name of such levels. -/
theorem met_any {g : List Sb} (hg : EnOf En g) (hlast : ∀ q m, t (q ++ [[35]] ++ [m]) = none) {x : Nd} (hx : t [] = some x) (h : TreeAt w t En C gs) (N : Pth) (hN : ∀ x ∈ N, hasS x = false ∧ x.length ≤ maxLen) (B off k : Nat) (hB : B < w.heap.size) (hlv : LvAt w B off N) (hk : N.length ≤ k) (hk2 : k ≤ 9223372036854775807) (hgl : g.length ≤ 5000) (o : Bool) :
    Calls Tryz.prog 43 #[.pointer (some ⟨x.b, 0, none⟩), .slice (some ⟨B, off, none⟩) N.length k, .bool o] w fun e w' => MetPost w (g.filter (got o [] N)) e w' := by
  obtain ⟨n, hn⟩ : ∃ n, N.length = n := ⟨_, rfl⟩
  obtain ⟨N0, hN0⟩ : ∃ N0, w.heap.size = N0 := ⟨_, rfl⟩
  obtain ⟨W0, hW0⟩ : ∃ W0, (w.alloc (.cells #[.slice none 0 0] 27)).alloc (.cells #[gthV N0 (N0 + 1)] 112) = W0 := ⟨_, rfl⟩
  have hb0 : Below w.heap.size w W0 := by rw [← hW0]; exact ((Below.refl _ w).alloc (Nat.le_refl _) _).alloc (by simp) _
  have hs0 : W0.heap.size = N0 + 2 := by rw [← hW0, ← hN0]; simp
  have bF : Boxed W0 N0 27 (.slice none 0 0) := by rw [← hW0, ← hN0]; exact (Boxed.new w _ _).alloc _
  have bG : Boxed W0 (N0 + 1) 112 (gthV N0 (N0 + 1)) := by
    rw [← hW0]
    have := Boxed.new (w.alloc (.cells #[.slice none 0 0] 27)) 112 (gthV N0 (N0 + 1))
    rwa [show (w.alloc (.cells #[.slice none 0 0] 27)).heap.size = N0 + 1 by simp [hN0]] at this
  have hP : GPre t En C gs (N0 + 2) N0 (N0 + 1) W0 (.slice none 0 0) [] := ⟨h.below hb0, fun k hk => by have := h.lt hk; omega, bF, bG, OwnS.nil _ _, by omega, by omega, by omega, by omega⟩
  have hG := gather_any hg hlast N [] W0 (.slice none 0 0) [] off k o hN hP (by omega) (hlv.block (hb0.block B hB)) hk hk2 (by have := List.length_filter_le (got o [] N) g; simp; omega)
  rw [hx, hn] at hG
  simp only [ptrV] at hG
  rw [hn]
  have HG := Lib.hid hG
  have HW := Lib.hid hW0
  have HN := Lib.hid hN0
  have HB := Lib.hid hb0
  clear hG hP hb0 h hlv hn hk hN
  have hcG := bG.cell
  have hlG := bG.lt
  clear bF bG hW0
  go_enter Tryz.func43, Tryz.ntmps43
  unfold gthV at HW
  go_wp2_with (go_at_call 72; (rw [HW.out]; refine HG.out.mono ?_; rintro e w1 ⟨rfl, hK, v1, M1, hF1, hO1, hP1⟩; obtain ⟨va, vc, hv⟩ := ownS_slice hO1; obtain ⟨k0, hk0⟩ : ∃ k, ([] ++ M1).length = k := ⟨_, rfl⟩; rw [hk0] at hv; subst hv; have z0 := hF1.cell; have z1 := hF1.frozen; have z2 := hF1.lt; have HZ := Lib.hid (And.intro hK (And.intro hF1 (And.intro hO1 hP1))); clear hK hF1 hO1 hP1 hk0))
  obtain ⟨hK, hF1, hO1, hP1⟩ := HZ.out
  refine bodyPost_ret (results_box rfl _ _ N0 _ rfl (hF1.set _)) rfl ?_
  refine ⟨_, M1, rfl, ?_, hP1, ?_⟩
  · have := (hO1.setF (F := N0) (by omega) (.slice va k0 vc)).mono (show w.heap.size ≤ N0 + 2 by omega)
    exact this
  · have hKw : Gk (N0 + 2) N0 W0 (w1.setCell ⟨N0, 0, none⟩ (.slice va k0 vc)) := hK.setF _
    have hb := HB.out
    exact ⟨hKw.low.os.trans hb.os, hKw.low.tape.trans hb.tape, hKw.low.output.trans hb.output, Nat.le_trans hb.size hKw.low.size, fun i hi => (hKw.block i (by omega) (by omega)).trans (hb.block i hi)⟩
end Go.Proofs.YtgcfgheamaoceaaGreatDoor
