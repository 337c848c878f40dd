/- Layer 13: are a text's levels what a filter's ones stand for? -/
import Derived.Test.YtgcfgheamaoceaaGreatDoorTopN
import Derived.Test.YtgcfgheamaoceaaGreatDoorStops
namespace Go.Proofs.YtgcfgheamaoceaaGreatDoor
open Go.RowKit Go.Shelf

attribute [local go_sem] Oper.semAt_some

theorem wpIn_scope {n : Nat} {P : Program} {c : Code} {Q : Exit → Act → World → Prop} {a : Act} {w : World} (h : c.wpIn Fence.wide n P (Exit.noGoto Q) a w) : (Code.scope c).wpIn Fence.wide n P Q a w := wpIn_wide.2 (wp_scope_straight (wpIn_wide.1 h))
def prs (p : List (Nat × Lvl)) : List (Nat × List UInt8) := p.map fun x => (x.1, byt x.2)
theorem prs_snoc (p : List (Nat × Lvl)) (x : Nat × Lvl) : prs (p ++ [x]) = prs p ++ [(x.1, byt x.2)] := by simp [prs]
theorem prs_itm (k : Nat) {a : List (List UInt8)} (h : ∀ x ∈ a, x.length ≤ 1000) : prs (itm k a) = en k a := by
  induction a generalizing k with
  | nil => rfl
  | cons x r ih => simp only [itm, prs, List.map_cons, en]; rw [byt_lvl (h x (by simp))]; exact congrArg _ (ih (k + 1) fun y hy => h y (by simp [hy]))
theorem cvP_len1 (all : List (List UInt8)) (hid : Bool) (s : Bool × List (List UInt8)) (x : Nat × List UInt8) (h : s.1 = false → s.2.length ≤ all.length) : (cvF all hid s x).1 = false → (cvF all hid s x).2.length ≤ all.length := by
  intro hf
  unfold cvF at hf ⊢
  by_cases hs : s.1 = true
  · rw [if_pos hs] at hf ⊢; exact h hf
  · rw [if_neg hs] at hf ⊢
    unfold cvStep at hf ⊢
    split at hf
    · rename_i hsp
      rw [if_pos hsp]
      split at hf
      · cases hf
      · rename_i hno
        rw [if_neg hno]
        simp only [decide_eq_false_iff_not, Nat.not_lt] at hf
        exact hf
    · rename_i hsp
      rw [if_neg hsp]
      simp only [decide_eq_false_iff_not, Nat.not_lt] at hf
      exact hf
theorem cvP_len (all : List (List UInt8)) (hid : Bool) (p : List (Nat × List UInt8)) : (cvP all hid p).1 = false → (cvP all hid p).2.length ≤ all.length := by
  suffices ∀ (q : List (Nat × List UInt8)) (s : Bool × List (List UInt8)), (s.1 = false → s.2.length ≤ all.length) → (q.foldl (cvF all hid) s).1 = false → (q.foldl (cvF all hid) s).2.length ≤ all.length from this p (false, []) (fun _ => Nat.zero_le _)
  intro q
  induction q with
  | nil => exact fun s h => h
  | cons x q ih =>
    intro s h
    rw [List.foldl_cons]
    exact ih _ (cvP_len1 all hid s x h)
theorem cvP_any (all : List (List UInt8)) (hid : Bool) (p : List (Nat × List UInt8)) : (cvP all hid p).2.length ≤ 2 * all.length + 1 := by
  suffices ∀ (q : List (Nat × List UInt8)) (s : Bool × List (List UInt8)), (s.1 = false → s.2.length ≤ all.length) → s.2.length ≤ 2 * all.length + 1 → (q.foldl (cvF all hid) s).2.length ≤ 2 * all.length + 1 from this p (false, []) (fun _ => Nat.zero_le _) (Nat.zero_le _)
  intro q
  induction q with
  | nil => exact fun s _ h => h
  | cons x q ih =>
    intro s h hl
    rw [List.foldl_cons]
    have hm : ∀ f L, (mM f L).length ≤ L.length + 1 := fun f L => by
      unfold mM
      split
      · split
        · simp
        · split <;> simp
      · omega
    refine ih _ (fun hf => ?_) ?_
    · have h5 := cvP_len1 all hid s x h
      exact h5 hf
    · unfold cvF
      by_cases hs : s.1 = true
      · rw [if_pos hs]; exact hl
      · rw [if_neg hs]
        have h6 := h (by simpa using hs)
        unfold cvStep
        split
        · split
          · exact hl
          · have := hm x.2 (all.drop s.2.length)
            rw [List.length_drop] at this
            simp only [List.length_append]
            omega
        · simp only [List.length_append, List.length_singleton]; omega
/-- What stays while a filter's levels are gone over: all below the iterator's end but the box of what was met. -/
def KpB (B5 mb : Nat) (k : Nat) : Prop := k < B5 ∧ k ≠ mb
def K5 (B5 mb : Nat) (w5 W : World) : Prop := B5 ≤ W.heap.size ∧ KeepsOn (KpB B5 mb) w5 W
theorem K5.own {β : Type} {B5 mb B : Nat} {w5 : World} (hB : B5 ≤ B) : OwnFrom B (fun (_ : β) W => K5 B5 mb w5 W) := fun _ X Y row hs hg hr =>
  ⟨Nat.le_trans hs.1 hg.size, fun k hk => (hg.block k (Nat.lt_of_lt_of_le hk.1 hs.1) fun e => by have h1 := (hr k e.symm).1; have h2 := hk.1; omega).trans (hs.2 k hk)⟩
theorem box_keep {B5 mb k : Nat} {w5 W : World} {t : TypeId} {v : Value} (h : Boxed w5 k t v) (hK : KeepsOn (KpB B5 mb) w5 W) (hk : k < B5) (hm : k ≠ mb) : Boxed W k t v := (hK k ⟨hk, hm⟩).trans h
theorem TxAt.far {w w' : World} {row : Option Nat} {b off : Nat} {L : List (List UInt8)} (h : TxAt w (some ⟨b, off, none⟩) L) (hg : w.grownBy w' row) (hne : some b ≠ row) : TxAt w' (some ⟨b, off, none⟩) L := fun hL => by
  obtain ⟨b', o', e, h2, h3⟩ := h hL
  cases e
  exact ⟨b, off, rfl, Nat.lt_of_lt_of_le h2 hg.size, fun j x hj => (World.cell?_of_block (hg.block b h2 hne)).trans (h3 j x hj)⟩
section
variable {ops : Array Oper} {Q : Exit → Act → World → Prop} {i : Nat} {o : Oper} {a : Act} {w : World} {K : Act → World → Prop}
theorem wpOp_lenT {x : Operand} {ao : Option Addr} {n c : Nat} (ho : ops[i]? = some o) (hg : Region.wanted o (yielded ops a.tmps) = true) (hop : o.op = .call { callee := .builtin .len, args := #[x], argTypes := #[79] }) (hx : a.eval x = .slice ao n c) (hK : K (a.put o.dst (.int .i64 n)) w) : wpOp Tryz.prog ops Q i K a w :=
  wpOp_val (v := .int .i64 n) (w' := w) ho hg (by simp only [execOp, hop, resolve, invoke, Go.builtin, List.map_toArray, List.map_cons, List.map_nil, hx, Sem.run_bind, Sem.run_pure, Result.andThen_ok]; rw [run_len_slice w 79 o.type ao n c (by rw [show Tryz.prog.elem 79 = 9 by kernel_rfl]; exact Tryz.underlying79)]; rfl) hK
/-- A call of a function value. -/
theorem wpOp_callVal {P : Program} {x : Operand} {f : FuncId} {args : Array Operand} {ts : Array TypeId} {vs : Array Value} (ho : ops[i]? = some o) (hg : Region.wanted o (yielded ops a.tmps) = true) (hop : o.op = .call { callee := .value x, args := args, argTypes := ts }) (hf : a.eval x = .func (.func f) #[] #[]) (hv : args.map a.eval = vs)
    (hen : ∀ args w, (callFunc f args).run P w = .ok (.enter f args) w) (hC : Calls P f vs w fun e w' => ∃ v, e = .returned v ∧ K (a.put o.dst v) w') : wpOp P ops Q i K a w :=
  wpOp_call ho hg (by simp [execOp, hop, resolve, invoke, Deferred.ofValue, hf, hv, hen]) hC
end
/-- What each slot of 'met = append(met, meet(all[len(met):])...)' holds. -/
def CvV (n0 B5 ab g k o5 nX cX : Nat) (v vall : Value) (X M : List (List UInt8)) : Nat → Value → World → Prop
  | 0, u, _ => u = v
  | 1, u, _ => u = .func (.func g) #[] #[]
  | 2, u, _ => u = vall
  | 3, u, _ => u = v
  | 4, u, _ => u = .int .i64 k
  | 5, u, _ => u = .slice (some ⟨ab, o5, none⟩) nX cX
  | 6, u, W => ∃ b' off' c', u = .slice (some ⟨b', off', none⟩) X.length c' ∧ TxAt W (some ⟨b', off', none⟩) X ∧ (n0 ≤ b' ∨ b' = ab)
  | 7, u, W => OwnT W B5 u M
  | _, _, _ => True
structure CvI (N0 B5 mb : Nat) (v : Value) (M : List (List UInt8)) (W : World) (listed : Array Bool) (W' : World) : Prop where
  one : listed.getD 7 false = false → Below W.heap.size W W'
  two : listed.getD 7 false = true → KeepsOthers W W' ∧ KeepsOn (KpB B5 mb) W W' ∧ Below N0 W W'
  box : listed.getD 8 false = false → Boxed W' mb 79 v
  end' : listed.getD 8 false = true → ∃ u, Boxed W' mb 79 u ∧ OwnT W' B5 u M
set_option maxRecDepth 100000 in
set_option maxHeartbeats 8000000 in
theorem covers_wide (n : Nat) (hn : 4 ≤ n) (f t : ByteArray) (hf : f.size ≤ 1000) (ht : t.size ≤ 1000) (w : World) :
    CallsIn Fence.wide n Tryz.prog 71 #[.string f, .string t] w fun e w' => BPost w (covL f.data.toList t.data.toList) e w' := by
  have h1 : 1 ≤ n := by omega
  have hdp : Fence.wide.depth.isSome = true → 1 ≤ n - 1 - 1 := fun _ => by omega
  refine callsIn_of_wp_marks Tryz.func71 rfl trivial ?_ rfl
  simp only [Tryz.ntmps71, List.size_toArray, List.length_cons, List.length_nil, Nat.reduceAdd, Nat.reduceSub, Array.replicate_succ, Array.replicate_zero, List.push_toArray, List.append_toArray, List.nil_append, List.cons_append]
  obtain ⟨N0, hN0⟩ : ∃ N0, w.heap.size = N0 := ⟨_, rfl⟩
  obtain ⟨w1, hw1⟩ : ∃ w1, w.alloc (.cells #[.string t] 9) = w1 := ⟨_, rfl⟩
  obtain ⟨w2, hw2⟩ : ∃ w2, w1.alloc (.cells #[.slice none 0 0] 79) = w2 := ⟨_, rfl⟩
  have hs1 : w1.heap.size = N0 + 1 := by rw [← hw1]; simp [hN0]
  have hs2 : w2.heap.size = N0 + 2 := by rw [← hw2]; simp [hs1]
  have bT2 : Boxed w2 N0 9 (.string t) := by rw [← hw2, ← hw1, ← hN0]; exact (Boxed.new w _ _).alloc _
  have bM2 : Boxed w2 (N0 + 1) 79 (.slice none 0 0) := by rw [← hw2, ← hs1]; exact Boxed.new w1 _ _
  have hb2 : Below N0 w w2 := by rw [← hw2, ← hw1, ← hN0]; exact ((Below.refl _ w).alloc (Nat.le_refl _) _).alloc (by simp) _
  have HW := Lib.hid (And.intro hN0 (And.intro hw1 (And.intro hw2 hs1)))
  clear hN0 hw1 hw2 hs1
  gi_wp2
  refine wpIn_scope ?_
  gi_wp2
  rw [HW.out.1, HW.out.2.1, HW.out.2.2.1]
  refine ⟨trivial, (callsIn_wide.2 (levelsF_any t ht w2)).mono ?_⟩
  rintro en wL ⟨v, rfl, hO, hbL⟩
  rw [hs2] at hO hbL
  obtain ⟨va, vc, rfl, htx, hvc, hvm, hva⟩ := TxAt.own hO
  obtain ⟨ab, ao, rfl, hab, -⟩ := htx (lv_ne _)
  have hab2 := hva ab ao rfl
  obtain ⟨ALL, hALL⟩ : ∃ ALL, lv t.data.toList = ALL := ⟨_, rfl⟩
  rw [hALL] at htx hvc
  have hlen : (lv t.data.toList).length ≤ 1001 := by have := lv_len_le t.data.toList; rw [← Lib.size_eq] at this; omega
  rw [hALL] at hlen ⊢
  have bT3 : Boxed wL N0 9 (.string t) := (hbL.block N0 (by omega)).trans bT2
  have bM3 : Boxed wL (N0 + 1) 79 (.slice none 0 0) := (hbL.block (N0 + 1) (by omega)).trans bM2
  have hb3 : Below N0 w wL := hb2.trans (hbL.mono (by omega))
  have hsL := hbL.size
  have HALL := Lib.hid hALL
  have HTX := Lib.hid (And.intro htx (And.intro hvc hvm))
  clear hO hbL htx hvc hvm hva bT2 bM2 hb2 hALL
  gi_wp2
  refine ⟨trivial, (callsIn_wide.2 (meeting_any wL)).mono ?_⟩
  rintro en wM ⟨rfl, hmm, hbM, hsM⟩
  obtain ⟨m, hm⟩ : ∃ m, wL.heap.size = m := ⟨_, rfl⟩
  rw [hm] at hmm hbM hsM hsL hab ⊢
  have bT4 : Boxed wM N0 9 (.string t) := (hbM.block N0 (by omega)).trans bT3
  have bM4 : Boxed wM (N0 + 1) 79 (.slice none 0 0) := (hbM.block (N0 + 1) (by omega)).trans bM3
  have hb4 : Below N0 w wM := hb3.trans (hbM.mono (by omega))
  have htx4 : TxAt wM (some ⟨ab, ao, none⟩) ALL := HTX.out.1.below (hm ▸ hbM)
  have HM := Lib.hid (And.intro hmm htx4)
  clear hmm hbM bT3 bM3 hb3 htx4 hm
  gi_wp2
  obtain ⟨A, hA⟩ : ∃ A, wM.heap.size = A := ⟨_, rfl⟩
  obtain ⟨w3, hw3⟩ : ∃ w3, wM.alloc (.cells #[.slice (some ⟨ab, ao, none⟩) ALL.length vc] 79) = w3 := ⟨_, rfl⟩
  obtain ⟨w4, hw4⟩ : ∃ w4, w3.alloc (.cells #[.map (some m)] 131) = w4 := ⟨_, rfl⟩
  obtain ⟨w5, hw5⟩ : ∃ w5, w4.alloc (.cells #[.string f] 9) = w5 := ⟨_, rfl⟩
  rw [hA, hw3, hw4]
  rw [hA] at hsM
  have hs3 : w3.heap.size = A + 1 := by rw [← hw3]; simp [hA]
  have hs4 : w4.heap.size = A + 2 := by rw [← hw4]; simp [hs3]
  have hs5 : w5.heap.size = A + 3 := by rw [← hw5]; simp [hs4]
  have bA5 : Boxed w5 A 79 (.slice (some ⟨ab, ao, none⟩) ALL.length vc) := by rw [← hw5, ← hw4, ← hw3, ← hA]; exact ((Boxed.new wM _ _).alloc _).alloc _
  have bQ5 : Boxed w5 (A + 1) 131 (.map (some m)) := by rw [← hw5, ← hw4, ← hs3]; exact (Boxed.new w3 _ _).alloc _
  have bS5 : Boxed w5 (A + 2) 9 (.string f) := by rw [← hw5, ← hs4]; exact Boxed.new w4 _ _
  have hM5 : Below A wM w5 := by rw [← hw5, ← hw4, ← hw3, ← hA]; exact (((Below.refl _ wM).alloc (Nat.le_refl _) _).alloc (by simp) _).alloc (by simp <;> omega) _
  have bT5 : Boxed w5 N0 9 (.string t) := (hM5.block N0 (by omega)).trans bT4
  have bM5 : Boxed w5 (N0 + 1) 79 (.slice none 0 0) := (hM5.block (N0 + 1) (by omega)).trans bM4
  have hb5 : Below N0 w w5 := hb4.trans (hM5.mono (by omega))
  have hmm5 : MeetAt w5 m := by
    obtain ⟨b1, b2, k, hk⟩ := HM.out.1
    exact ⟨b1, b2, k, (hM5.block m (by omega)).trans hk⟩
  have htx5 : TxAt w5 (some ⟨ab, ao, none⟩) ALL := HM.out.2.below (hA ▸ hM5)
  have HM5 := Lib.hid (And.intro hmm5 htx5)
  have HW5 := Lib.hid hw5
  clear hw3 hw4 hw5 hA hs3 bT4 bM4 hb4 hmm5 htx5 hM5 HM
  refine wpIn_label ?_
  gi_wp2
  refine ⟨trivial, (levels_in Fence.wide _ trivial rfl f _).mono ?_⟩
  rintro en w' ⟨rfl, rfl⟩
  rw [hs4, HW5.out]
  clear hs4
  gi_wp2
  refine wpIn_rangeFunc_ownF rfl h1 (gf := 89) (lb := #[.pointer (some ⟨A + 2, 0, none⟩)]) rfl trivial (enters_of Tryz.func89 (by kernel_rfl) rfl)
    (levels_stops (n - 1) (by omega) (A + 2) f hf w5 (by omega) bS5.cell) (fun _ _ => trivial) (fun _ _ _ _ _ _ _ _ => trivial) (Below.refl _ _) (fun _ => rfl)
    (fun pre W => ((cvP ALL (dol t.data.toList) (prs pre)).1 = false ∧ (∃ v, Boxed W (N0 + 1) 79 v ∧ W.ownsRow (A + 3) 9 1 v (cvP ALL (dol t.data.toList) (prs pre)).2.length (strVals (cvP ALL (dol t.data.toList) (prs pre)).2) ∧ True)) ∧ (K5 (A + 3) (N0 + 1) w5 W ∧ Below N0 w W))
    (fun c pre W => ((c = .exit 0 ∧ (cvP ALL (dol t.data.toList) (prs pre)).1 = true) ∧ (∃ v, Boxed W (N0 + 1) 79 v ∧ W.ownsRow (A + 3) 9 1 v (cvP ALL (dol t.data.toList) (prs pre)).2.length (strVals (cvP ALL (dol t.data.toList) (prs pre)).2) ∧ True)) ∧ (K5 (A + 3) (N0 + 1) w5 W ∧ Below N0 w W))
    (OwnFrom.and (OwnFrom.and (ownFrom_pure _ _) (Own.from (holdsRow_own (A + 3) (N0 + 1) 79 9 1 (fun pre => (cvP ALL (dol t.data.toList) (prs pre)).2.length) (fun pre => strVals (cvP ALL (dol t.data.toList) (prs pre)).2) (fun _ _ => True)) _)) (OwnFrom.and (K5.own (by omega)) (ownFrom_below (by rw [HW.out.1]; exact Nat.le_refl _) (by omega))))
    (fun c => OwnFrom.and (OwnFrom.and (ownFrom_pure _ _) (Own.from (holdsRow_own (A + 3) (N0 + 1) 79 9 1 (fun pre => (cvP ALL (dol t.data.toList) (prs pre)).2.length) (fun pre => strVals (cvP ALL (dol t.data.toList) (prs pre)).2) (fun _ _ => True)) _)) (OwnFrom.and (K5.own (by omega)) (ownFrom_below (by rw [HW.out.1]; exact Nat.le_refl _) (by omega))))
    ⟨⟨rfl, _, bM5, World.ownsRow_nil _ _ _ _, trivial⟩, ⟨by omega, KeepsOn.refl _ _⟩, hb5⟩
    (fun y => { tmps := #[.string f, .string t, undef, .pointer (some ⟨N0, 0, none⟩), .bool false, .pointer (some ⟨N0 + 1, 0, none⟩), .pointer (some ⟨A, 0, none⟩), .pointer (some ⟨A + 1, 0, none⟩), .int .i64 y.1, .string y.2.1, undef, undef, .string t, .slice (some ⟨ab, ao, none⟩) ALL.length vc, .map (some m), .string f, .func (.func 89) #[] #[.pointer (some ⟨A + 2, 0, none⟩)], .int .i64 y.1, .string y.2.1, undef, undef, undef, undef, undef, undef, undef, undef, undef, undef, undef, undef, undef, undef, undef, undef, undef, undef, undef, undef, undef, undef, undef, undef, undef, undef, undef, undef, undef, undef, undef, undef, undef, undef, undef, undef], defers := [] }) ?assign ?body ?done ?stop
  case assign =>
    intro l x W K hK
    simp only [encL]
    gi_wp2
    exact hK
  case body =>
    rintro lp pre ⟨y1, y2⟩ W ⟨⟨hns, v, hv, hrow, -⟩, hK, hB⟩ hlp
    obtain ⟨met, hmet⟩ : ∃ met, (cvP ALL (dol t.data.toList) (prs pre)).2 = met := ⟨_, rfl⟩
    have hstep : cvP ALL (dol t.data.toList) (prs (pre ++ [(y1, y2)])) = cvStep ALL (dol t.data.toList) met y1 (byt y2) := by
      rw [prs_snoc, cvP_snoc]
      unfold cvF
      rw [hns, hmet]; rfl
    have hml := cvP_len ALL (dol t.data.toList) (prs pre) hns
    rw [hmet] at hrow hml
    obtain ⟨vm, vcm, rfl⟩ := row_slice hrow
    have hO : OwnT W (A + 3) (.slice vm met.length vcm) met := hrow
    have bT := box_keep bT5 hK.2 (by omega) (by omega)
    have bA := box_keep bA5 hK.2 (by omega) (by omega)
    have bQ := box_keep bQ5 hK.2 (by omega) (by omega)
    have hmm : MeetAt W m := by
      obtain ⟨b1, b2, k, hk⟩ := HM5.out.1
      exact ⟨b1, b2, k, (hK.2 m ⟨by omega, by omega⟩).trans hk⟩
    have htxW : TxAt W (some ⟨ab, ao, none⟩) ALL := fun hne => by
      obtain ⟨b', o', e, h2, h3⟩ := HM5.out.2 hne
      cases e
      have hkk : W.heap[ab]? = w5.heap[ab]? := hK.2 ab ⟨by omega, by omega⟩
      exact ⟨ab, ao, rfl, by have := hK.1; omega, fun j x hj => (World.cell?_of_block hkk).trans (h3 j x hj)⟩
    by_cases hy : byt y2 = [43]
    · skip
      have hsp : isSp (byt y2) = true := by rw [hy]; rfl
      have hlk0 := look_plus hmm y2.1 hy
      have hPF := Lib.hid (fun X => prefix_any t X)
      have hcT := bT.cell
      have hcQ := bQ.cell
      have HY := Lib.hid (And.intro hsp (And.intro hstep (And.intro hO (And.intro hv (And.intro hK (And.intro hB (And.intro htxW (And.intro bA hml))))))))
      clear hmm hsp hstep hO hv hK hB htxW bA bT bQ hrow
      by_cases hy1 : y1 = 0
      · subst hy1
        rcases Bool.eq_false_or_eq_true (dol t.data.toList) with hd | hd
        · rw [hd] at hPF
          have HD := Lib.hid hd
          clear hd
          gi_wp2
          refine ⟨trivial, hdp, ?_⟩
          refine (CallsIn.inRound lp (callsIn_wide.2 (hPF.out _))).mono ?_
          rintro e w7 ⟨rfl, rfl⟩
          gi_wp2
          obtain ⟨hsp, hstep, hO, hv, hK, hB, -, -, -⟩ := HY.out
          have hst : cvP ALL (dol t.data.toList) (prs (pre ++ [(0, y2)])) = (true, met) := by
            rw [hstep]; unfold cvStep; rw [if_pos hsp, if_pos ⟨rfl, HD.out⟩]
          exact ⟨KeepsOthers.refl _, ⟨⟨rfl, by rw [hst]⟩, ⟨_, hv, by rw [hst]; exact hO, trivial⟩⟩, hK, hB⟩
        · rw [hd] at hPF
          have HD := Lib.hid hd
          clear hd
          gi_wp2
          refine ⟨trivial, hdp, ?_⟩
          refine (CallsIn.inRound lp (callsIn_wide.2 (hPF.out _))).mono ?_
          rintro e w7 ⟨rfl, rfl⟩
          gi_wp2
          obtain ⟨hsp, hstep, hO, hv, hK, hB, htxW, bA, hml⟩ := HY.out
          have hst : cvP ALL (dol t.data.toList) (prs (pre ++ [(0, y2)])) = (decide (ALL.length < (met ++ mM (byt y2) (ALL.drop met.length)).length), met ++ mM (byt y2) (ALL.drop met.length)) := by
            rw [hstep]; unfold cvStep; rw [if_pos hsp, if_neg (fun h => by rw [HD.out] at h; cases h.2)]
          rw [hy] at hst
          have hXl : (mM [43] (ALL.drop met.length)).length ≤ 1001 := by
            have h5 : (ALL.drop met.length).length ≤ 1001 := by rw [List.length_drop]; omega
            unfold mM
            split
            · split
              · simp
              · split <;> simp
            · exact h5
          obtain ⟨X, hX⟩ : ∃ X, mM [43] (ALL.drop met.length) = X := ⟨_, rfl⟩
          rw [hX] at hst hXl
          obtain ⟨MM, hMM⟩ : ∃ MM, met ++ X = MM := ⟨_, rfl⟩
          have hMl : MM.length = met.length + X.length := by rw [← hMM, List.length_append]
          rw [hMM] at hst
          obtain ⟨o5, hsl, htf⟩ := tx_from ab ao ALL.length vc met.length hml HTX.out.2.1
          have htW5 := htf W ALL rfl htxW
          have hB5W := hK.1
          have HST := Lib.hid (And.intro hst hMM)
          clear hst hMM hstep
          refine region_round_m (l := lp) (CvI N0 (A + 3) (N0 + 1) (.slice vm met.length vcm) MM W) (CvV W.heap.size (A + 3) ab 115 met.length o5 (ALL.length - met.length) (vc - met.length) (.slice vm met.length vcm) (.slice (some ⟨ab, ao, none⟩) ALL.length vc) X MM) (by kernel_rfl) (fun ⟨_, _, h⟩ => h) (by kernel_rfl) (by kernel_rfl) (by kernel_rfl) (by kernel_rfl)
            ⟨fun _ => (Below.refl _ _).drew, (fun h => by simp at h), fun _ => hv, (fun h => by simp at h)⟩ ?step1 ?fin1
          case step1 =>
            intro q o ho listed a' w' hJ hn' hpre
            have hq : q < 9 := (Array.getElem?_eq_some_iff.1 ho).1
            have hI := hJ.inv
            have hln : listed.size = 9 := hJ.size
            have hsame : ∀ k, k ≠ 7 → k ≠ 8 → CvI N0 (A + 3) (N0 + 1) (.slice vm met.length vcm) MM W (listed.setIfInBounds k true) w' := fun k h4 h5 => ⟨by rw [listed_other (Ne.symm h4)]; exact hI.one, by rw [listed_other (Ne.symm h4)]; exact hI.two, by rw [listed_other (Ne.symm h5)]; exact hI.box, by rw [listed_other (Ne.symm h5)]; exact hI.end'⟩
            match q, hq with
            | 0, _ =>
              cases ho
              have h8 := hJ.notyet hn' 8 (by kernel_rfl)
              exact wpOp_load rfl rfl rfl (hJ.kept (t := 5) (by kernel_rfl)) (load_box (hI.box h8)) ⟨_, rfl, hsame _ (by decide) (by decide), fun _ => rfl, fun _ _ _ h => h⟩
            | 1, _ =>
              cases ho
              exact wpOp_move rfl rfl (.inl rfl) (hJ.kept (t := 10) (by kernel_rfl)) ⟨_, rfl, hsame _ (by decide) (by decide), fun _ => rfl, fun _ _ _ h => h⟩
            | 2, _ =>
              cases ho
              have h5 := hJ.notyet hn' 5 (by kernel_rfl)
              have h6 := hJ.notyet h5 6 (by kernel_rfl)
              have h7 := hJ.notyet h6 7 (by kernel_rfl)
              exact wpOp_load rfl rfl rfl (hJ.kept (t := 6) (by kernel_rfl)) (load_box (bA.kept (below_grown (hI.one h7)) (by nofun))) ⟨_, rfl, hsame _ (by decide) (by decide), fun _ => rfl, fun _ _ _ h => h⟩
            | 3, _ =>
              cases ho
              have h8 := hJ.notyet hn' 8 (by kernel_rfl)
              exact wpOp_load rfl rfl rfl (hJ.kept (t := 5) (by kernel_rfl)) (load_box (hI.box h8)) ⟨_, rfl, hsame _ (by decide) (by decide), fun _ => rfl, fun _ _ _ h => h⟩
            | 4, _ =>
              cases ho
              have e3 : a'.eval (.tmp 28) = .slice vm met.length vcm := hJ.slot 3 28 rfl (hpre ⟨3, .data⟩ (by simp) rfl) rfl
              exact wpOp_lenT rfl rfl rfl e3 ⟨_, rfl, hsame _ (by decide) (by decide), fun _ => rfl, fun _ _ _ h => h⟩
            | 5, _ =>
              cases ho
              have e2 : a'.eval (.tmp 27) = .slice (some ⟨ab, ao, none⟩) ALL.length vc := hJ.slot 2 27 rfl (hpre ⟨2, .data⟩ (by simp) rfl) rfl
              have e4 : a'.eval (.tmp 29) = .int .i64 met.length := hJ.slot 4 29 rfl (hpre ⟨4, .data⟩ (by simp) rfl) rfl
              exact wpOp_slice rfl rfl rfl e2 (vlo := some (.int .i64 met.length)) (by rw [Option.map_some, e4]) rfl rfl (hsl w') ⟨_, rfl, hsame _ (by decide) (by decide), fun _ => rfl, fun _ _ _ h => h⟩
            | 6, _ =>
              cases ho
              have h7 := hJ.notyet hn' 7 (by kernel_rfl)
              have h8 := hJ.notyet h7 8 (by kernel_rfl)
              have e1 : a'.eval (.tmp 26) = .func (.func 115) #[] #[] := hJ.slot 1 26 rfl (hpre ⟨1, .data⟩ (by simp) rfl) rfl
              have e5 : a'.eval (.tmp 30) = .slice (some ⟨ab, o5, none⟩) (ALL.length - met.length) (vc - met.length) := hJ.slot 5 30 rfl (hpre ⟨5, .data⟩ (by simp) rfl) rfl
              have hlx : (ALL.drop met.length).length = ALL.length - met.length := List.length_drop
              have htx6 : TxAt w' (some ⟨ab, o5, none⟩) (ALL.drop met.length) := htW5.below (hI.one h7)
              have hC := meeting1_any ab o5 (vc - met.length) (ALL.drop met.length) w' htx6 (by rw [List.length_drop]; have := HTX.out.2.1; omega)
              rw [hlx, hX] at hC
              refine wpOp_callVal rfl rfl rfl e1 (vs := #[.slice (some ⟨ab, o5, none⟩) (ALL.length - met.length) (vc - met.length)]) (by simp only [List.map_toArray, List.map_cons, List.map_nil, e5]) (enters_of Tryz.func115 (by kernel_rfl) rfl) (hC.mono ?_)
              rintro e w8 ⟨b', off', c', rfl, htx8, hfar, hb8⟩
              refine ⟨_, rfl, _, rfl, ⟨fun _ => (hI.one h7).trans (hb8.mono (hI.one h7).size), (fun h => by rw [listed_other (by decide), h7] at h; cases h), fun _ => (hI.box h8).kept (below_grown hb8) (by nofun), (fun h => by rw [listed_other (by decide), h8] at h; cases h)⟩, fun _ => ⟨b', off', c', rfl, htx8, hfar.imp_left fun h => Nat.le_trans (hI.one h7).size h⟩, fun j u hj h => ?_⟩
              match j, hj, h with
              | 0, _, h => exact h
              | 1, _, h => exact h
              | 2, _, h => exact h
              | 3, _, h => exact h
              | 4, _, h => exact h
              | 5, _, h => exact h
              | 6, hj, _ => rw [hn'] at hj; cases hj
              | 7, hj, _ => rw [h7] at hj; cases hj
              | _ + 8, _, _ => trivial
            | 7, _ =>
              cases ho
              have h8 := hJ.notyet hn' 8 (by kernel_rfl)
              have e0 : a'.eval (.tmp 25) = .slice vm met.length vcm := hJ.slot 0 25 rfl (hpre ⟨0, .data⟩ (by simp) rfl) rfl
              obtain ⟨b', off', c', e6, htx6, hfar⟩ : ∃ b' off' c', a'.eval (.tmp 31) = .slice (some ⟨b', off', none⟩) X.length c' ∧ TxAt w' (some ⟨b', off', none⟩) X ∧ (W.heap.size ≤ b' ∨ b' = ab) := hJ.slot 6 31 rfl (hpre ⟨6, .data⟩ (by simp) rfl) rfl
              have hb1 := hI.one hn'
              have hO1 : OwnT w' (A + 3) (.slice vm met.length vcm) met := World.ownsRow.kept hO (below_grown hb1) (own_or _)
              obtain ⟨v6, w6, hr6, ho6, hg6⟩ := append_texts w' (A + 3) _ met X b' off' c' htx6 hO1 (by omega) (by have := hb1.size; omega)
              rw [HST.out.2] at ho6
              have hnr := (hI.box h8).not_row (show 79 ≠ 9 by decide) hO1
              refine wpOp_append rfl rfl rfl e0 e6 hr6 ⟨_, rfl, ⟨(fun h => by rw [listed_same (by omega)] at h; cases h), fun _ => ⟨(KeepsOthers.of_grownBy (below_grown hb1) (by nofun)).trans (KeepsOthers.of_grownBy hg6 fun j o e hj => ?_), fun k hk => ?_, (hb1.mono (by omega)).grown hg6 (by have := hb1.size; omega) (fun q e => by have := (own_lt hO1 q e).1; omega)⟩, fun _ => (hI.box h8).kept hg6 hnr, (fun h => by rw [listed_other (by decide), h8] at h; cases h)⟩, fun _ => ho6, fun j u hj h => ?_⟩
              · obtain ⟨-, -, o', ho', hc'⟩ := own_lt hO1 j e
                rw [hj] at ho'; cases ho'; exact hc'
              · have h9 := hk.1
                exact (hg6.block k (by have := hb1.size; omega) fun e => by have := (own_lt hO1 k e.symm).1; omega).trans (hb1.block k (by omega))
              · match j, hj, h with
                | 0, _, h => exact h
                | 1, _, h => exact h
                | 2, _, h => exact h
                | 3, _, h => exact h
                | 4, _, h => exact h
                | 5, _, h => exact h
                | 6, _, h =>
                  obtain ⟨b9, off9, c9, h1, h2, h3⟩ := h
                  exact ⟨b9, off9, c9, h1, h2.far hg6 fun e => by have h4 := own_lt hO b9 e.symm; rcases h3 with h3 | h3 <;> omega, h3⟩
                | 7, hj, _ => rw [hn'] at hj; cases hj
                | _ + 8, _, _ => trivial
            | 8, _ =>
              cases ho
              have l7 := hpre ⟨7, .data⟩ (by simp) rfl
              have e7 : OwnT w' (A + 3) (a'.eval (.tmp 32)) MM := hJ.slot 7 32 rfl l7 rfl
              obtain ⟨u, hu⟩ : ∃ u, a'.eval (.tmp 32) = u := ⟨_, rfl⟩
              rw [hu] at e7
              obtain ⟨ua, uc, rfl⟩ := row_slice e7
              have hbx := hI.box hn'
              obtain ⟨hk2, hkn2, hb2⟩ := hI.two l7
              have hnr := hbx.not_row (show 79 ≠ 9 by decide) e7
              refine wpOp_store rfl rfl rfl (hJ.kept (t := 5) (by kernel_rfl)) hu (store_box ua _ uc hbx) ⟨_, rfl, ⟨(fun h => by rw [listed_other (by decide), l7] at h; cases h), fun _ => ⟨hk2.trans (KeepsOthers.setCell _ _ _), fun k hk => ?_, hb2.setCell (p := ⟨N0 + 1, 0, none⟩) (Nat.le_succ _) _⟩, (fun h => by rw [listed_same (by omega)] at h; cases h), fun _ => ⟨_, hbx.set _, World.ownsRow.kept e7 (grownBy_setCell' w' (N0 + 1) _) (.inr hnr.symm)⟩⟩, (fun e => by cases e), fun j u' hj h => ?_⟩
              · have h9 : k < w'.heap.size := by
                  have h10 := (Array.getElem?_eq_some_iff.1 (show w'.heap[N0 + 1]? = _ from hbx)).1
                  have h11 := hb2.size
                  have h12 := hkn2 A ⟨by omega, by omega⟩
                  rcases Nat.lt_or_ge k w'.heap.size with h | h
                  · exact h
                  · exfalso
                    have h13 : W.heap[k]? = none := by rw [← hkn2 k hk]; exact Array.getElem?_eq_none h
                    rw [Array.getElem?_eq_none_iff] at h13
                    have := hk.1; omega
                exact ((grownBy_setCell' w' (N0 + 1) _).block k h9 fun e => hk.2 (Option.some.inj e)).trans (hkn2 k hk)
              · match j, hj, h with
                | 0, _, h => exact h
                | 1, _, h => exact h
                | 2, _, h => exact h
                | 3, _, h => exact h
                | 4, _, h => exact h
                | 5, _, h => exact h
                | 6, _, h =>
                  obtain ⟨b9, off9, c9, h1, h2, h3⟩ := h
                  exact ⟨b9, off9, c9, h1, h2.far (grownBy_setCell' w' (N0 + 1) _) fun e => by have h4 := Option.some.inj e; rcases h3 with h3 | h3 <;> omega, h3⟩
                | 7, _, h =>
                  have h' : OwnT w' (A + 3) u' MM := h
                  exact World.ownsRow.kept h' (grownBy_setCell' w' (N0 + 1) _) (.inr (hbx.not_row (show 79 ≠ 9 by decide) h').symm)
                | _ + 8, _, _ => trivial
          case fin1 =>
            intro listed a' w' hJ hall
            obtain ⟨u, hu, hO2⟩ := hJ.inv.end' (hall 8 (by decide))
            obtain ⟨hk2, hkn2, hb2⟩ := hJ.inv.two (hall 7 (by decide))
            obtain ⟨vs, hvl, -, e⟩ := hJ.frame 25 8 (Nat.le_of_ble_eq_true (by kernel_rfl)) (by kernel_rfl)
            clear hJ hall
            match vs, hvl with
            | [t0, t1, t2, t3, t4, t5, t6, t7], _ =>
            simp only [List.take_succ_cons, List.take_zero, List.drop_succ_cons, List.drop_zero, List.cons_append, List.nil_append, Nat.reduceAdd] at e
            subst e
            have bA9 : Boxed w' A 79 (.slice (some ⟨ab, ao, none⟩) ALL.length vc) := (hkn2 A ⟨by omega, by omega⟩).trans bA
            obtain ⟨ua, uc, rfl⟩ := row_slice hO2
            have hcM := hu.cell
            have hcA := bA9.cell
            have hsz9 : A + 3 ≤ w'.heap.size := by
              rcases Nat.lt_or_ge w'.heap.size (A + 3) with h | h
              · exfalso
                have h13 : W.heap[A + 2]? = none := by rw [← hkn2 (A + 2) ⟨by omega, by omega⟩]; exact Array.getElem?_eq_none (by omega)
                rw [Array.getElem?_eq_none_iff] at h13
                omega
              · exact h
            have HZ := Lib.hid (And.intro hu (And.intro hO2 (And.intro hk2 (And.intro (⟨hsz9, hK.2.trans hkn2⟩ : K5 (A + 3) (N0 + 1) w5 w') (hB.trans hb2)))))
            clear hu hO2 hk2 hkn2 hb2 bA9 hK hB hO hv bA htxW htW5 htf
            by_cases hgt : ALL.length < MM.length
            · have d1 : decide ((ALL.length : Int) < (MM.length : Int)) = true := by simp; omega
              gi_wp2
              obtain ⟨hu, hO2, hk2, hK9, hB9⟩ := HZ.out
              have h5 := HST.out.1
              rw [decide_eq_true hgt] at h5
              refine ⟨hk2, ⟨⟨rfl, by rw [h5]⟩, ⟨_, hu, by rw [h5]; exact hO2, trivial⟩⟩, hK9, hB9⟩
            · have d1 : decide ((ALL.length : Int) < (MM.length : Int)) = false := by simp; omega
              gi_wp2
              obtain ⟨hu, hO2, hk2, hK9, hB9⟩ := HZ.out
              have h5 := HST.out.1
              rw [decide_eq_false hgt] at h5
              refine ⟨hk2, trivial, ⟨by rw [h5], ⟨_, hu, by rw [h5]; exact hO2, trivial⟩⟩, hK9, hB9⟩
      · have hy2 : ((y1 : Int) == 0) = false := by simp; omega
        gi_wp2
        refine ⟨trivial, ?_⟩
        go_at_K
        gi_wp2
        obtain ⟨hsp, hstep, hO, hv, hK, hB, htxW, bA, hml⟩ := HY.out
        have hst : cvP ALL (dol t.data.toList) (prs (pre ++ [(y1, y2)])) = (decide (ALL.length < (met ++ mM (byt y2) (ALL.drop met.length)).length), met ++ mM (byt y2) (ALL.drop met.length)) := by
          rw [hstep]; unfold cvStep; rw [if_pos hsp, if_neg (fun h => hy1 h.1)]
        rw [hy] at hst
        have hXl : (mM [43] (ALL.drop met.length)).length ≤ 1001 := by
          have h5 : (ALL.drop met.length).length ≤ 1001 := by rw [List.length_drop]; omega
          unfold mM
          split
          · split
            · simp
            · split <;> simp
          · exact h5
        obtain ⟨X, hX⟩ : ∃ X, mM [43] (ALL.drop met.length) = X := ⟨_, rfl⟩
        rw [hX] at hst hXl
        obtain ⟨MM, hMM⟩ : ∃ MM, met ++ X = MM := ⟨_, rfl⟩
        have hMl : MM.length = met.length + X.length := by rw [← hMM, List.length_append]
        rw [hMM] at hst
        obtain ⟨o5, hsl, htf⟩ := tx_from ab ao ALL.length vc met.length hml HTX.out.2.1
        have htW5 := htf W ALL rfl htxW
        have hB5W := hK.1
        have HST := Lib.hid (And.intro hst hMM)
        clear hst hMM hstep
        refine region_round_m (l := lp) (CvI N0 (A + 3) (N0 + 1) (.slice vm met.length vcm) MM W) (CvV W.heap.size (A + 3) ab 115 met.length o5 (ALL.length - met.length) (vc - met.length) (.slice vm met.length vcm) (.slice (some ⟨ab, ao, none⟩) ALL.length vc) X MM) (by kernel_rfl) (fun ⟨_, _, h⟩ => h) (by kernel_rfl) (by kernel_rfl) (by kernel_rfl) (by kernel_rfl)
          ⟨fun _ => (Below.refl _ _).drew, (fun h => by simp at h), fun _ => hv, (fun h => by simp at h)⟩ ?step2 ?fin2
        case step2 =>
          intro q o ho listed a' w' hJ hn' hpre
          have hq : q < 9 := (Array.getElem?_eq_some_iff.1 ho).1
          have hI := hJ.inv
          have hln : listed.size = 9 := hJ.size
          have hsame : ∀ k, k ≠ 7 → k ≠ 8 → CvI N0 (A + 3) (N0 + 1) (.slice vm met.length vcm) MM W (listed.setIfInBounds k true) w' := fun k h4 h5 => ⟨by rw [listed_other (Ne.symm h4)]; exact hI.one, by rw [listed_other (Ne.symm h4)]; exact hI.two, by rw [listed_other (Ne.symm h5)]; exact hI.box, by rw [listed_other (Ne.symm h5)]; exact hI.end'⟩
          match q, hq with
          | 0, _ =>
            cases ho
            have h8 := hJ.notyet hn' 8 (by kernel_rfl)
            exact wpOp_load rfl rfl rfl (hJ.kept (t := 5) (by kernel_rfl)) (load_box (hI.box h8)) ⟨_, rfl, hsame _ (by decide) (by decide), fun _ => rfl, fun _ _ _ h => h⟩
          | 1, _ =>
            cases ho
            exact wpOp_move rfl rfl (.inl rfl) (hJ.kept (t := 10) (by kernel_rfl)) ⟨_, rfl, hsame _ (by decide) (by decide), fun _ => rfl, fun _ _ _ h => h⟩
          | 2, _ =>
            cases ho
            have h5 := hJ.notyet hn' 5 (by kernel_rfl)
            have h6 := hJ.notyet h5 6 (by kernel_rfl)
            have h7 := hJ.notyet h6 7 (by kernel_rfl)
            exact wpOp_load rfl rfl rfl (hJ.kept (t := 6) (by kernel_rfl)) (load_box (bA.kept (below_grown (hI.one h7)) (by nofun))) ⟨_, rfl, hsame _ (by decide) (by decide), fun _ => rfl, fun _ _ _ h => h⟩
          | 3, _ =>
            cases ho
            have h8 := hJ.notyet hn' 8 (by kernel_rfl)
            exact wpOp_load rfl rfl rfl (hJ.kept (t := 5) (by kernel_rfl)) (load_box (hI.box h8)) ⟨_, rfl, hsame _ (by decide) (by decide), fun _ => rfl, fun _ _ _ h => h⟩
          | 4, _ =>
            cases ho
            have e3 : a'.eval (.tmp 28) = .slice vm met.length vcm := hJ.slot 3 28 rfl (hpre ⟨3, .data⟩ (by simp) rfl) rfl
            exact wpOp_lenT rfl rfl rfl e3 ⟨_, rfl, hsame _ (by decide) (by decide), fun _ => rfl, fun _ _ _ h => h⟩
          | 5, _ =>
            cases ho
            have e2 : a'.eval (.tmp 27) = .slice (some ⟨ab, ao, none⟩) ALL.length vc := hJ.slot 2 27 rfl (hpre ⟨2, .data⟩ (by simp) rfl) rfl
            have e4 : a'.eval (.tmp 29) = .int .i64 met.length := hJ.slot 4 29 rfl (hpre ⟨4, .data⟩ (by simp) rfl) rfl
            exact wpOp_slice rfl rfl rfl e2 (vlo := some (.int .i64 met.length)) (by rw [Option.map_some, e4]) rfl rfl (hsl w') ⟨_, rfl, hsame _ (by decide) (by decide), fun _ => rfl, fun _ _ _ h => h⟩
          | 6, _ =>
            cases ho
            have h7 := hJ.notyet hn' 7 (by kernel_rfl)
            have h8 := hJ.notyet h7 8 (by kernel_rfl)
            have e1 : a'.eval (.tmp 26) = .func (.func 115) #[] #[] := hJ.slot 1 26 rfl (hpre ⟨1, .data⟩ (by simp) rfl) rfl
            have e5 : a'.eval (.tmp 30) = .slice (some ⟨ab, o5, none⟩) (ALL.length - met.length) (vc - met.length) := hJ.slot 5 30 rfl (hpre ⟨5, .data⟩ (by simp) rfl) rfl
            have hlx : (ALL.drop met.length).length = ALL.length - met.length := List.length_drop
            have htx6 : TxAt w' (some ⟨ab, o5, none⟩) (ALL.drop met.length) := htW5.below (hI.one h7)
            have hC := meeting1_any ab o5 (vc - met.length) (ALL.drop met.length) w' htx6 (by rw [List.length_drop]; have := HTX.out.2.1; omega)
            rw [hlx, hX] at hC
            refine wpOp_callVal rfl rfl rfl e1 (vs := #[.slice (some ⟨ab, o5, none⟩) (ALL.length - met.length) (vc - met.length)]) (by simp only [List.map_toArray, List.map_cons, List.map_nil, e5]) (enters_of Tryz.func115 (by kernel_rfl) rfl) (hC.mono ?_)
            rintro e w8 ⟨b', off', c', rfl, htx8, hfar, hb8⟩
            refine ⟨_, rfl, _, rfl, ⟨fun _ => (hI.one h7).trans (hb8.mono (hI.one h7).size), (fun h => by rw [listed_other (by decide), h7] at h; cases h), fun _ => (hI.box h8).kept (below_grown hb8) (by nofun), (fun h => by rw [listed_other (by decide), h8] at h; cases h)⟩, fun _ => ⟨b', off', c', rfl, htx8, hfar.imp_left fun h => Nat.le_trans (hI.one h7).size h⟩, fun j u hj h => ?_⟩
            match j, hj, h with
            | 0, _, h => exact h
            | 1, _, h => exact h
            | 2, _, h => exact h
            | 3, _, h => exact h
            | 4, _, h => exact h
            | 5, _, h => exact h
            | 6, hj, _ => rw [hn'] at hj; cases hj
            | 7, hj, _ => rw [h7] at hj; cases hj
            | _ + 8, _, _ => trivial
          | 7, _ =>
            cases ho
            have h8 := hJ.notyet hn' 8 (by kernel_rfl)
            have e0 : a'.eval (.tmp 25) = .slice vm met.length vcm := hJ.slot 0 25 rfl (hpre ⟨0, .data⟩ (by simp) rfl) rfl
            obtain ⟨b', off', c', e6, htx6, hfar⟩ : ∃ b' off' c', a'.eval (.tmp 31) = .slice (some ⟨b', off', none⟩) X.length c' ∧ TxAt w' (some ⟨b', off', none⟩) X ∧ (W.heap.size ≤ b' ∨ b' = ab) := hJ.slot 6 31 rfl (hpre ⟨6, .data⟩ (by simp) rfl) rfl
            have hb1 := hI.one hn'
            have hO1 : OwnT w' (A + 3) (.slice vm met.length vcm) met := World.ownsRow.kept hO (below_grown hb1) (own_or _)
            obtain ⟨v6, w6, hr6, ho6, hg6⟩ := append_texts w' (A + 3) _ met X b' off' c' htx6 hO1 (by omega) (by have := hb1.size; omega)
            rw [HST.out.2] at ho6
            have hnr := (hI.box h8).not_row (show 79 ≠ 9 by decide) hO1
            refine wpOp_append rfl rfl rfl e0 e6 hr6 ⟨_, rfl, ⟨(fun h => by rw [listed_same (by omega)] at h; cases h), fun _ => ⟨(KeepsOthers.of_grownBy (below_grown hb1) (by nofun)).trans (KeepsOthers.of_grownBy hg6 fun j o e hj => ?_), fun k hk => ?_, (hb1.mono (by omega)).grown hg6 (by have := hb1.size; omega) (fun q e => by have := (own_lt hO1 q e).1; omega)⟩, fun _ => (hI.box h8).kept hg6 hnr, (fun h => by rw [listed_other (by decide), h8] at h; cases h)⟩, fun _ => ho6, fun j u hj h => ?_⟩
            · obtain ⟨-, -, o', ho', hc'⟩ := own_lt hO1 j e
              rw [hj] at ho'; cases ho'; exact hc'
            · have h9 := hk.1
              exact (hg6.block k (by have := hb1.size; omega) fun e => by have := (own_lt hO1 k e.symm).1; omega).trans (hb1.block k (by omega))
            · match j, hj, h with
              | 0, _, h => exact h
              | 1, _, h => exact h
              | 2, _, h => exact h
              | 3, _, h => exact h
              | 4, _, h => exact h
              | 5, _, h => exact h
              | 6, _, h =>
                obtain ⟨b9, off9, c9, h1, h2, h3⟩ := h
                exact ⟨b9, off9, c9, h1, h2.far hg6 fun e => by have h4 := own_lt hO b9 e.symm; rcases h3 with h3 | h3 <;> omega, h3⟩
              | 7, hj, _ => rw [hn'] at hj; cases hj
              | _ + 8, _, _ => trivial
          | 8, _ =>
            cases ho
            have l7 := hpre ⟨7, .data⟩ (by simp) rfl
            have e7 : OwnT w' (A + 3) (a'.eval (.tmp 32)) MM := hJ.slot 7 32 rfl l7 rfl
            obtain ⟨u, hu⟩ : ∃ u, a'.eval (.tmp 32) = u := ⟨_, rfl⟩
            rw [hu] at e7
            obtain ⟨ua, uc, rfl⟩ := row_slice e7
            have hbx := hI.box hn'
            obtain ⟨hk2, hkn2, hb2⟩ := hI.two l7
            have hnr := hbx.not_row (show 79 ≠ 9 by decide) e7
            refine wpOp_store rfl rfl rfl (hJ.kept (t := 5) (by kernel_rfl)) hu (store_box ua _ uc hbx) ⟨_, rfl, ⟨(fun h => by rw [listed_other (by decide), l7] at h; cases h), fun _ => ⟨hk2.trans (KeepsOthers.setCell _ _ _), fun k hk => ?_, hb2.setCell (p := ⟨N0 + 1, 0, none⟩) (Nat.le_succ _) _⟩, (fun h => by rw [listed_same (by omega)] at h; cases h), fun _ => ⟨_, hbx.set _, World.ownsRow.kept e7 (grownBy_setCell' w' (N0 + 1) _) (.inr hnr.symm)⟩⟩, (fun e => by cases e), fun j u' hj h => ?_⟩
            · have h9 : k < w'.heap.size := by
                have h10 := (Array.getElem?_eq_some_iff.1 (show w'.heap[N0 + 1]? = _ from hbx)).1
                have h11 := hb2.size
                have h12 := hkn2 A ⟨by omega, by omega⟩
                rcases Nat.lt_or_ge k w'.heap.size with h | h
                · exact h
                · exfalso
                  have h13 : W.heap[k]? = none := by rw [← hkn2 k hk]; exact Array.getElem?_eq_none h
                  rw [Array.getElem?_eq_none_iff] at h13
                  have := hk.1; omega
              exact ((grownBy_setCell' w' (N0 + 1) _).block k h9 fun e => hk.2 (Option.some.inj e)).trans (hkn2 k hk)
            · match j, hj, h with
              | 0, _, h => exact h
              | 1, _, h => exact h
              | 2, _, h => exact h
              | 3, _, h => exact h
              | 4, _, h => exact h
              | 5, _, h => exact h
              | 6, _, h =>
                obtain ⟨b9, off9, c9, h1, h2, h3⟩ := h
                exact ⟨b9, off9, c9, h1, h2.far (grownBy_setCell' w' (N0 + 1) _) fun e => by have h4 := Option.some.inj e; rcases h3 with h3 | h3 <;> omega, h3⟩
              | 7, _, h =>
                have h' : OwnT w' (A + 3) u' MM := h
                exact World.ownsRow.kept h' (grownBy_setCell' w' (N0 + 1) _) (.inr (hbx.not_row (show 79 ≠ 9 by decide) h').symm)
              | _ + 8, _, _ => trivial
        case fin2 =>
          intro listed a' w' hJ hall
          obtain ⟨u, hu, hO2⟩ := hJ.inv.end' (hall 8 (by decide))
          obtain ⟨hk2, hkn2, hb2⟩ := hJ.inv.two (hall 7 (by decide))
          obtain ⟨vs, hvl, -, e⟩ := hJ.frame 25 8 (Nat.le_of_ble_eq_true (by kernel_rfl)) (by kernel_rfl)
          clear hJ hall
          match vs, hvl with
          | [t0, t1, t2, t3, t4, t5, t6, t7], _ =>
          simp only [List.take_succ_cons, List.take_zero, List.drop_succ_cons, List.drop_zero, List.cons_append, List.nil_append, Nat.reduceAdd] at e
          subst e
          have bA9 : Boxed w' A 79 (.slice (some ⟨ab, ao, none⟩) ALL.length vc) := (hkn2 A ⟨by omega, by omega⟩).trans bA
          obtain ⟨ua, uc, rfl⟩ := row_slice hO2
          have hcM := hu.cell
          have hcA := bA9.cell
          have hsz9 : A + 3 ≤ w'.heap.size := by
            rcases Nat.lt_or_ge w'.heap.size (A + 3) with h | h
            · exfalso
              have h13 : W.heap[A + 2]? = none := by rw [← hkn2 (A + 2) ⟨by omega, by omega⟩]; exact Array.getElem?_eq_none (by omega)
              rw [Array.getElem?_eq_none_iff] at h13
              omega
            · exact h
          have HZ := Lib.hid (And.intro hu (And.intro hO2 (And.intro hk2 (And.intro (⟨hsz9, hK.2.trans hkn2⟩ : K5 (A + 3) (N0 + 1) w5 w') (hB.trans hb2)))))
          clear hu hO2 hk2 hkn2 hb2 bA9 hK hB hO hv bA htxW htW5 htf
          by_cases hgt : ALL.length < MM.length
          · have d1 : decide ((ALL.length : Int) < (MM.length : Int)) = true := by simp; omega
            gi_wp2
            obtain ⟨hu, hO2, hk2, hK9, hB9⟩ := HZ.out
            have h5 := HST.out.1
            rw [decide_eq_true hgt] at h5
            refine ⟨hk2, ⟨⟨rfl, by rw [h5]⟩, ⟨_, hu, by rw [h5]; exact hO2, trivial⟩⟩, hK9, hB9⟩
          · have d1 : decide ((ALL.length : Int) < (MM.length : Int)) = false := by simp; omega
            gi_wp2
            obtain ⟨hu, hO2, hk2, hK9, hB9⟩ := HZ.out
            have h5 := HST.out.1
            rw [decide_eq_false hgt] at h5
            refine ⟨hk2, trivial, ⟨by rw [h5], ⟨_, hu, by rw [h5]; exact hO2, trivial⟩⟩, hK9, hB9⟩
    by_cases hyh : byt y2 = [35]
    · clear hy
      have hy := hyh
      clear hyh
      have hsp : isSp (byt y2) = true := by rw [hy]; rfl
      have hlk0 := look_hash hmm y2.1 hy
      have hPF := Lib.hid (fun X => prefix_any t X)
      have hcT := bT.cell
      have hcQ := bQ.cell
      have HY := Lib.hid (And.intro hsp (And.intro hstep (And.intro hO (And.intro hv (And.intro hK (And.intro hB (And.intro htxW (And.intro bA hml))))))))
      clear hmm hsp hstep hO hv hK hB htxW bA bT bQ hrow
      by_cases hy1 : y1 = 0
      · subst hy1
        rcases Bool.eq_false_or_eq_true (dol t.data.toList) with hd | hd
        · rw [hd] at hPF
          have HD := Lib.hid hd
          clear hd
          gi_wp2
          refine ⟨trivial, hdp, ?_⟩
          refine (CallsIn.inRound lp (callsIn_wide.2 (hPF.out _))).mono ?_
          rintro e w7 ⟨rfl, rfl⟩
          gi_wp2
          obtain ⟨hsp, hstep, hO, hv, hK, hB, -, -, -⟩ := HY.out
          have hst : cvP ALL (dol t.data.toList) (prs (pre ++ [(0, y2)])) = (true, met) := by
            rw [hstep]; unfold cvStep; rw [if_pos hsp, if_pos ⟨rfl, HD.out⟩]
          exact ⟨KeepsOthers.refl _, ⟨⟨rfl, by rw [hst]⟩, ⟨_, hv, by rw [hst]; exact hO, trivial⟩⟩, hK, hB⟩
        · rw [hd] at hPF
          have HD := Lib.hid hd
          clear hd
          gi_wp2
          refine ⟨trivial, hdp, ?_⟩
          refine (CallsIn.inRound lp (callsIn_wide.2 (hPF.out _))).mono ?_
          rintro e w7 ⟨rfl, rfl⟩
          gi_wp2
          obtain ⟨hsp, hstep, hO, hv, hK, hB, htxW, bA, hml⟩ := HY.out
          have hst : cvP ALL (dol t.data.toList) (prs (pre ++ [(0, y2)])) = (decide (ALL.length < (met ++ mM (byt y2) (ALL.drop met.length)).length), met ++ mM (byt y2) (ALL.drop met.length)) := by
            rw [hstep]; unfold cvStep; rw [if_pos hsp, if_neg (fun h => by rw [HD.out] at h; cases h.2)]
          rw [hy] at hst
          have hXl : (mM [35] (ALL.drop met.length)).length ≤ 1001 := by
            have h5 : (ALL.drop met.length).length ≤ 1001 := by rw [List.length_drop]; omega
            unfold mM
            split
            · split
              · simp
              · split <;> simp
            · exact h5
          obtain ⟨X, hX⟩ : ∃ X, mM [35] (ALL.drop met.length) = X := ⟨_, rfl⟩
          rw [hX] at hst hXl
          obtain ⟨MM, hMM⟩ : ∃ MM, met ++ X = MM := ⟨_, rfl⟩
          have hMl : MM.length = met.length + X.length := by rw [← hMM, List.length_append]
          rw [hMM] at hst
          obtain ⟨o5, hsl, htf⟩ := tx_from ab ao ALL.length vc met.length hml HTX.out.2.1
          have htW5 := htf W ALL rfl htxW
          have hB5W := hK.1
          have HST := Lib.hid (And.intro hst hMM)
          clear hst hMM hstep
          refine region_round_m (l := lp) (CvI N0 (A + 3) (N0 + 1) (.slice vm met.length vcm) MM W) (CvV W.heap.size (A + 3) ab 116 met.length o5 (ALL.length - met.length) (vc - met.length) (.slice vm met.length vcm) (.slice (some ⟨ab, ao, none⟩) ALL.length vc) X MM) (by kernel_rfl) (fun ⟨_, _, h⟩ => h) (by kernel_rfl) (by kernel_rfl) (by kernel_rfl) (by kernel_rfl)
            ⟨fun _ => (Below.refl _ _).drew, (fun h => by simp at h), fun _ => hv, (fun h => by simp at h)⟩ ?step3 ?fin3
          case step3 =>
            intro q o ho listed a' w' hJ hn' hpre
            have hq : q < 9 := (Array.getElem?_eq_some_iff.1 ho).1
            have hI := hJ.inv
            have hln : listed.size = 9 := hJ.size
            have hsame : ∀ k, k ≠ 7 → k ≠ 8 → CvI N0 (A + 3) (N0 + 1) (.slice vm met.length vcm) MM W (listed.setIfInBounds k true) w' := fun k h4 h5 => ⟨by rw [listed_other (Ne.symm h4)]; exact hI.one, by rw [listed_other (Ne.symm h4)]; exact hI.two, by rw [listed_other (Ne.symm h5)]; exact hI.box, by rw [listed_other (Ne.symm h5)]; exact hI.end'⟩
            match q, hq with
            | 0, _ =>
              cases ho
              have h8 := hJ.notyet hn' 8 (by kernel_rfl)
              exact wpOp_load rfl rfl rfl (hJ.kept (t := 5) (by kernel_rfl)) (load_box (hI.box h8)) ⟨_, rfl, hsame _ (by decide) (by decide), fun _ => rfl, fun _ _ _ h => h⟩
            | 1, _ =>
              cases ho
              exact wpOp_move rfl rfl (.inl rfl) (hJ.kept (t := 10) (by kernel_rfl)) ⟨_, rfl, hsame _ (by decide) (by decide), fun _ => rfl, fun _ _ _ h => h⟩
            | 2, _ =>
              cases ho
              have h5 := hJ.notyet hn' 5 (by kernel_rfl)
              have h6 := hJ.notyet h5 6 (by kernel_rfl)
              have h7 := hJ.notyet h6 7 (by kernel_rfl)
              exact wpOp_load rfl rfl rfl (hJ.kept (t := 6) (by kernel_rfl)) (load_box (bA.kept (below_grown (hI.one h7)) (by nofun))) ⟨_, rfl, hsame _ (by decide) (by decide), fun _ => rfl, fun _ _ _ h => h⟩
            | 3, _ =>
              cases ho
              have h8 := hJ.notyet hn' 8 (by kernel_rfl)
              exact wpOp_load rfl rfl rfl (hJ.kept (t := 5) (by kernel_rfl)) (load_box (hI.box h8)) ⟨_, rfl, hsame _ (by decide) (by decide), fun _ => rfl, fun _ _ _ h => h⟩
            | 4, _ =>
              cases ho
              have e3 : a'.eval (.tmp 28) = .slice vm met.length vcm := hJ.slot 3 28 rfl (hpre ⟨3, .data⟩ (by simp) rfl) rfl
              exact wpOp_lenT rfl rfl rfl e3 ⟨_, rfl, hsame _ (by decide) (by decide), fun _ => rfl, fun _ _ _ h => h⟩
            | 5, _ =>
              cases ho
              have e2 : a'.eval (.tmp 27) = .slice (some ⟨ab, ao, none⟩) ALL.length vc := hJ.slot 2 27 rfl (hpre ⟨2, .data⟩ (by simp) rfl) rfl
              have e4 : a'.eval (.tmp 29) = .int .i64 met.length := hJ.slot 4 29 rfl (hpre ⟨4, .data⟩ (by simp) rfl) rfl
              exact wpOp_slice rfl rfl rfl e2 (vlo := some (.int .i64 met.length)) (by rw [Option.map_some, e4]) rfl rfl (hsl w') ⟨_, rfl, hsame _ (by decide) (by decide), fun _ => rfl, fun _ _ _ h => h⟩
            | 6, _ =>
              cases ho
              have h7 := hJ.notyet hn' 7 (by kernel_rfl)
              have h8 := hJ.notyet h7 8 (by kernel_rfl)
              have e1 : a'.eval (.tmp 26) = .func (.func 116) #[] #[] := hJ.slot 1 26 rfl (hpre ⟨1, .data⟩ (by simp) rfl) rfl
              have e5 : a'.eval (.tmp 30) = .slice (some ⟨ab, o5, none⟩) (ALL.length - met.length) (vc - met.length) := hJ.slot 5 30 rfl (hpre ⟨5, .data⟩ (by simp) rfl) rfl
              have hlx : (ALL.drop met.length).length = ALL.length - met.length := List.length_drop
              have htx6 : TxAt w' (some ⟨ab, o5, none⟩) (ALL.drop met.length) := htW5.below (hI.one h7)
              have hC := meeting2_any ab o5 (vc - met.length) (ALL.drop met.length) w' htx6 
              rw [hlx, hX] at hC
              refine wpOp_callVal rfl rfl rfl e1 (vs := #[.slice (some ⟨ab, o5, none⟩) (ALL.length - met.length) (vc - met.length)]) (by simp only [List.map_toArray, List.map_cons, List.map_nil, e5]) (enters_of Tryz.func116 (by kernel_rfl) rfl) (hC.mono ?_)
              rintro e w8 ⟨b', off', c', rfl, htx8, hfar, hb8⟩
              refine ⟨_, rfl, _, rfl, ⟨fun _ => (hI.one h7).trans (hb8.mono (hI.one h7).size), (fun h => by rw [listed_other (by decide), h7] at h; cases h), fun _ => (hI.box h8).kept (below_grown hb8) (by nofun), (fun h => by rw [listed_other (by decide), h8] at h; cases h)⟩, fun _ => ⟨b', off', c', rfl, htx8, hfar.imp_left fun h => Nat.le_trans (hI.one h7).size h⟩, fun j u hj h => ?_⟩
              match j, hj, h with
              | 0, _, h => exact h
              | 1, _, h => exact h
              | 2, _, h => exact h
              | 3, _, h => exact h
              | 4, _, h => exact h
              | 5, _, h => exact h
              | 6, hj, _ => rw [hn'] at hj; cases hj
              | 7, hj, _ => rw [h7] at hj; cases hj
              | _ + 8, _, _ => trivial
            | 7, _ =>
              cases ho
              have h8 := hJ.notyet hn' 8 (by kernel_rfl)
              have e0 : a'.eval (.tmp 25) = .slice vm met.length vcm := hJ.slot 0 25 rfl (hpre ⟨0, .data⟩ (by simp) rfl) rfl
              obtain ⟨b', off', c', e6, htx6, hfar⟩ : ∃ b' off' c', a'.eval (.tmp 31) = .slice (some ⟨b', off', none⟩) X.length c' ∧ TxAt w' (some ⟨b', off', none⟩) X ∧ (W.heap.size ≤ b' ∨ b' = ab) := hJ.slot 6 31 rfl (hpre ⟨6, .data⟩ (by simp) rfl) rfl
              have hb1 := hI.one hn'
              have hO1 : OwnT w' (A + 3) (.slice vm met.length vcm) met := World.ownsRow.kept hO (below_grown hb1) (own_or _)
              obtain ⟨v6, w6, hr6, ho6, hg6⟩ := append_texts w' (A + 3) _ met X b' off' c' htx6 hO1 (by omega) (by have := hb1.size; omega)
              rw [HST.out.2] at ho6
              have hnr := (hI.box h8).not_row (show 79 ≠ 9 by decide) hO1
              refine wpOp_append rfl rfl rfl e0 e6 hr6 ⟨_, rfl, ⟨(fun h => by rw [listed_same (by omega)] at h; cases h), fun _ => ⟨(KeepsOthers.of_grownBy (below_grown hb1) (by nofun)).trans (KeepsOthers.of_grownBy hg6 fun j o e hj => ?_), fun k hk => ?_, (hb1.mono (by omega)).grown hg6 (by have := hb1.size; omega) (fun q e => by have := (own_lt hO1 q e).1; omega)⟩, fun _ => (hI.box h8).kept hg6 hnr, (fun h => by rw [listed_other (by decide), h8] at h; cases h)⟩, fun _ => ho6, fun j u hj h => ?_⟩
              · obtain ⟨-, -, o', ho', hc'⟩ := own_lt hO1 j e
                rw [hj] at ho'; cases ho'; exact hc'
              · have h9 := hk.1
                exact (hg6.block k (by have := hb1.size; omega) fun e => by have := (own_lt hO1 k e.symm).1; omega).trans (hb1.block k (by omega))
              · match j, hj, h with
                | 0, _, h => exact h
                | 1, _, h => exact h
                | 2, _, h => exact h
                | 3, _, h => exact h
                | 4, _, h => exact h
                | 5, _, h => exact h
                | 6, _, h =>
                  obtain ⟨b9, off9, c9, h1, h2, h3⟩ := h
                  exact ⟨b9, off9, c9, h1, h2.far hg6 fun e => by have h4 := own_lt hO b9 e.symm; rcases h3 with h3 | h3 <;> omega, h3⟩
                | 7, hj, _ => rw [hn'] at hj; cases hj
                | _ + 8, _, _ => trivial
            | 8, _ =>
              cases ho
              have l7 := hpre ⟨7, .data⟩ (by simp) rfl
              have e7 : OwnT w' (A + 3) (a'.eval (.tmp 32)) MM := hJ.slot 7 32 rfl l7 rfl
              obtain ⟨u, hu⟩ : ∃ u, a'.eval (.tmp 32) = u := ⟨_, rfl⟩
              rw [hu] at e7
              obtain ⟨ua, uc, rfl⟩ := row_slice e7
              have hbx := hI.box hn'
              obtain ⟨hk2, hkn2, hb2⟩ := hI.two l7
              have hnr := hbx.not_row (show 79 ≠ 9 by decide) e7
              refine wpOp_store rfl rfl rfl (hJ.kept (t := 5) (by kernel_rfl)) hu (store_box ua _ uc hbx) ⟨_, rfl, ⟨(fun h => by rw [listed_other (by decide), l7] at h; cases h), fun _ => ⟨hk2.trans (KeepsOthers.setCell _ _ _), fun k hk => ?_, hb2.setCell (p := ⟨N0 + 1, 0, none⟩) (Nat.le_succ _) _⟩, (fun h => by rw [listed_same (by omega)] at h; cases h), fun _ => ⟨_, hbx.set _, World.ownsRow.kept e7 (grownBy_setCell' w' (N0 + 1) _) (.inr hnr.symm)⟩⟩, (fun e => by cases e), fun j u' hj h => ?_⟩
              · have h9 : k < w'.heap.size := by
                  have h10 := (Array.getElem?_eq_some_iff.1 (show w'.heap[N0 + 1]? = _ from hbx)).1
                  have h11 := hb2.size
                  have h12 := hkn2 A ⟨by omega, by omega⟩
                  rcases Nat.lt_or_ge k w'.heap.size with h | h
                  · exact h
                  · exfalso
                    have h13 : W.heap[k]? = none := by rw [← hkn2 k hk]; exact Array.getElem?_eq_none h
                    rw [Array.getElem?_eq_none_iff] at h13
                    have := hk.1; omega
                exact ((grownBy_setCell' w' (N0 + 1) _).block k h9 fun e => hk.2 (Option.some.inj e)).trans (hkn2 k hk)
              · match j, hj, h with
                | 0, _, h => exact h
                | 1, _, h => exact h
                | 2, _, h => exact h
                | 3, _, h => exact h
                | 4, _, h => exact h
                | 5, _, h => exact h
                | 6, _, h =>
                  obtain ⟨b9, off9, c9, h1, h2, h3⟩ := h
                  exact ⟨b9, off9, c9, h1, h2.far (grownBy_setCell' w' (N0 + 1) _) fun e => by have h4 := Option.some.inj e; rcases h3 with h3 | h3 <;> omega, h3⟩
                | 7, _, h =>
                  have h' : OwnT w' (A + 3) u' MM := h
                  exact World.ownsRow.kept h' (grownBy_setCell' w' (N0 + 1) _) (.inr (hbx.not_row (show 79 ≠ 9 by decide) h').symm)
                | _ + 8, _, _ => trivial
          case fin3 =>
            intro listed a' w' hJ hall
            obtain ⟨u, hu, hO2⟩ := hJ.inv.end' (hall 8 (by decide))
            obtain ⟨hk2, hkn2, hb2⟩ := hJ.inv.two (hall 7 (by decide))
            obtain ⟨vs, hvl, -, e⟩ := hJ.frame 25 8 (Nat.le_of_ble_eq_true (by kernel_rfl)) (by kernel_rfl)
            clear hJ hall
            match vs, hvl with
            | [t0, t1, t2, t3, t4, t5, t6, t7], _ =>
            simp only [List.take_succ_cons, List.take_zero, List.drop_succ_cons, List.drop_zero, List.cons_append, List.nil_append, Nat.reduceAdd] at e
            subst e
            have bA9 : Boxed w' A 79 (.slice (some ⟨ab, ao, none⟩) ALL.length vc) := (hkn2 A ⟨by omega, by omega⟩).trans bA
            obtain ⟨ua, uc, rfl⟩ := row_slice hO2
            have hcM := hu.cell
            have hcA := bA9.cell
            have hsz9 : A + 3 ≤ w'.heap.size := by
              rcases Nat.lt_or_ge w'.heap.size (A + 3) with h | h
              · exfalso
                have h13 : W.heap[A + 2]? = none := by rw [← hkn2 (A + 2) ⟨by omega, by omega⟩]; exact Array.getElem?_eq_none (by omega)
                rw [Array.getElem?_eq_none_iff] at h13
                omega
              · exact h
            have HZ := Lib.hid (And.intro hu (And.intro hO2 (And.intro hk2 (And.intro (⟨hsz9, hK.2.trans hkn2⟩ : K5 (A + 3) (N0 + 1) w5 w') (hB.trans hb2)))))
            clear hu hO2 hk2 hkn2 hb2 bA9 hK hB hO hv bA htxW htW5 htf
            by_cases hgt : ALL.length < MM.length
            · have d1 : decide ((ALL.length : Int) < (MM.length : Int)) = true := by simp; omega
              gi_wp2
              obtain ⟨hu, hO2, hk2, hK9, hB9⟩ := HZ.out
              have h5 := HST.out.1
              rw [decide_eq_true hgt] at h5
              refine ⟨hk2, ⟨⟨rfl, by rw [h5]⟩, ⟨_, hu, by rw [h5]; exact hO2, trivial⟩⟩, hK9, hB9⟩
            · have d1 : decide ((ALL.length : Int) < (MM.length : Int)) = false := by simp; omega
              gi_wp2
              obtain ⟨hu, hO2, hk2, hK9, hB9⟩ := HZ.out
              have h5 := HST.out.1
              rw [decide_eq_false hgt] at h5
              refine ⟨hk2, trivial, ⟨by rw [h5], ⟨_, hu, by rw [h5]; exact hO2, trivial⟩⟩, hK9, hB9⟩
      · have hy2 : ((y1 : Int) == 0) = false := by simp; omega
        gi_wp2
        refine ⟨trivial, ?_⟩
        go_at_K
        gi_wp2
        obtain ⟨hsp, hstep, hO, hv, hK, hB, htxW, bA, hml⟩ := HY.out
        have hst : cvP ALL (dol t.data.toList) (prs (pre ++ [(y1, y2)])) = (decide (ALL.length < (met ++ mM (byt y2) (ALL.drop met.length)).length), met ++ mM (byt y2) (ALL.drop met.length)) := by
          rw [hstep]; unfold cvStep; rw [if_pos hsp, if_neg (fun h => hy1 h.1)]
        rw [hy] at hst
        have hXl : (mM [35] (ALL.drop met.length)).length ≤ 1001 := by
          have h5 : (ALL.drop met.length).length ≤ 1001 := by rw [List.length_drop]; omega
          unfold mM
          split
          · split
            · simp
            · split <;> simp
          · exact h5
        obtain ⟨X, hX⟩ : ∃ X, mM [35] (ALL.drop met.length) = X := ⟨_, rfl⟩
        rw [hX] at hst hXl
        obtain ⟨MM, hMM⟩ : ∃ MM, met ++ X = MM := ⟨_, rfl⟩
        have hMl : MM.length = met.length + X.length := by rw [← hMM, List.length_append]
        rw [hMM] at hst
        obtain ⟨o5, hsl, htf⟩ := tx_from ab ao ALL.length vc met.length hml HTX.out.2.1
        have htW5 := htf W ALL rfl htxW
        have hB5W := hK.1
        have HST := Lib.hid (And.intro hst hMM)
        clear hst hMM hstep
        refine region_round_m (l := lp) (CvI N0 (A + 3) (N0 + 1) (.slice vm met.length vcm) MM W) (CvV W.heap.size (A + 3) ab 116 met.length o5 (ALL.length - met.length) (vc - met.length) (.slice vm met.length vcm) (.slice (some ⟨ab, ao, none⟩) ALL.length vc) X MM) (by kernel_rfl) (fun ⟨_, _, h⟩ => h) (by kernel_rfl) (by kernel_rfl) (by kernel_rfl) (by kernel_rfl)
          ⟨fun _ => (Below.refl _ _).drew, (fun h => by simp at h), fun _ => hv, (fun h => by simp at h)⟩ ?step4 ?fin4
        case step4 =>
          intro q o ho listed a' w' hJ hn' hpre
          have hq : q < 9 := (Array.getElem?_eq_some_iff.1 ho).1
          have hI := hJ.inv
          have hln : listed.size = 9 := hJ.size
          have hsame : ∀ k, k ≠ 7 → k ≠ 8 → CvI N0 (A + 3) (N0 + 1) (.slice vm met.length vcm) MM W (listed.setIfInBounds k true) w' := fun k h4 h5 => ⟨by rw [listed_other (Ne.symm h4)]; exact hI.one, by rw [listed_other (Ne.symm h4)]; exact hI.two, by rw [listed_other (Ne.symm h5)]; exact hI.box, by rw [listed_other (Ne.symm h5)]; exact hI.end'⟩
          match q, hq with
          | 0, _ =>
            cases ho
            have h8 := hJ.notyet hn' 8 (by kernel_rfl)
            exact wpOp_load rfl rfl rfl (hJ.kept (t := 5) (by kernel_rfl)) (load_box (hI.box h8)) ⟨_, rfl, hsame _ (by decide) (by decide), fun _ => rfl, fun _ _ _ h => h⟩
          | 1, _ =>
            cases ho
            exact wpOp_move rfl rfl (.inl rfl) (hJ.kept (t := 10) (by kernel_rfl)) ⟨_, rfl, hsame _ (by decide) (by decide), fun _ => rfl, fun _ _ _ h => h⟩
          | 2, _ =>
            cases ho
            have h5 := hJ.notyet hn' 5 (by kernel_rfl)
            have h6 := hJ.notyet h5 6 (by kernel_rfl)
            have h7 := hJ.notyet h6 7 (by kernel_rfl)
            exact wpOp_load rfl rfl rfl (hJ.kept (t := 6) (by kernel_rfl)) (load_box (bA.kept (below_grown (hI.one h7)) (by nofun))) ⟨_, rfl, hsame _ (by decide) (by decide), fun _ => rfl, fun _ _ _ h => h⟩
          | 3, _ =>
            cases ho
            have h8 := hJ.notyet hn' 8 (by kernel_rfl)
            exact wpOp_load rfl rfl rfl (hJ.kept (t := 5) (by kernel_rfl)) (load_box (hI.box h8)) ⟨_, rfl, hsame _ (by decide) (by decide), fun _ => rfl, fun _ _ _ h => h⟩
          | 4, _ =>
            cases ho
            have e3 : a'.eval (.tmp 28) = .slice vm met.length vcm := hJ.slot 3 28 rfl (hpre ⟨3, .data⟩ (by simp) rfl) rfl
            exact wpOp_lenT rfl rfl rfl e3 ⟨_, rfl, hsame _ (by decide) (by decide), fun _ => rfl, fun _ _ _ h => h⟩
          | 5, _ =>
            cases ho
            have e2 : a'.eval (.tmp 27) = .slice (some ⟨ab, ao, none⟩) ALL.length vc := hJ.slot 2 27 rfl (hpre ⟨2, .data⟩ (by simp) rfl) rfl
            have e4 : a'.eval (.tmp 29) = .int .i64 met.length := hJ.slot 4 29 rfl (hpre ⟨4, .data⟩ (by simp) rfl) rfl
            exact wpOp_slice rfl rfl rfl e2 (vlo := some (.int .i64 met.length)) (by rw [Option.map_some, e4]) rfl rfl (hsl w') ⟨_, rfl, hsame _ (by decide) (by decide), fun _ => rfl, fun _ _ _ h => h⟩
          | 6, _ =>
            cases ho
            have h7 := hJ.notyet hn' 7 (by kernel_rfl)
            have h8 := hJ.notyet h7 8 (by kernel_rfl)
            have e1 : a'.eval (.tmp 26) = .func (.func 116) #[] #[] := hJ.slot 1 26 rfl (hpre ⟨1, .data⟩ (by simp) rfl) rfl
            have e5 : a'.eval (.tmp 30) = .slice (some ⟨ab, o5, none⟩) (ALL.length - met.length) (vc - met.length) := hJ.slot 5 30 rfl (hpre ⟨5, .data⟩ (by simp) rfl) rfl
            have hlx : (ALL.drop met.length).length = ALL.length - met.length := List.length_drop
            have htx6 : TxAt w' (some ⟨ab, o5, none⟩) (ALL.drop met.length) := htW5.below (hI.one h7)
            have hC := meeting2_any ab o5 (vc - met.length) (ALL.drop met.length) w' htx6 
            rw [hlx, hX] at hC
            refine wpOp_callVal rfl rfl rfl e1 (vs := #[.slice (some ⟨ab, o5, none⟩) (ALL.length - met.length) (vc - met.length)]) (by simp only [List.map_toArray, List.map_cons, List.map_nil, e5]) (enters_of Tryz.func116 (by kernel_rfl) rfl) (hC.mono ?_)
            rintro e w8 ⟨b', off', c', rfl, htx8, hfar, hb8⟩
            refine ⟨_, rfl, _, rfl, ⟨fun _ => (hI.one h7).trans (hb8.mono (hI.one h7).size), (fun h => by rw [listed_other (by decide), h7] at h; cases h), fun _ => (hI.box h8).kept (below_grown hb8) (by nofun), (fun h => by rw [listed_other (by decide), h8] at h; cases h)⟩, fun _ => ⟨b', off', c', rfl, htx8, hfar.imp_left fun h => Nat.le_trans (hI.one h7).size h⟩, fun j u hj h => ?_⟩
            match j, hj, h with
            | 0, _, h => exact h
            | 1, _, h => exact h
            | 2, _, h => exact h
            | 3, _, h => exact h
            | 4, _, h => exact h
            | 5, _, h => exact h
            | 6, hj, _ => rw [hn'] at hj; cases hj
            | 7, hj, _ => rw [h7] at hj; cases hj
            | _ + 8, _, _ => trivial
          | 7, _ =>
            cases ho
            have h8 := hJ.notyet hn' 8 (by kernel_rfl)
            have e0 : a'.eval (.tmp 25) = .slice vm met.length vcm := hJ.slot 0 25 rfl (hpre ⟨0, .data⟩ (by simp) rfl) rfl
            obtain ⟨b', off', c', e6, htx6, hfar⟩ : ∃ b' off' c', a'.eval (.tmp 31) = .slice (some ⟨b', off', none⟩) X.length c' ∧ TxAt w' (some ⟨b', off', none⟩) X ∧ (W.heap.size ≤ b' ∨ b' = ab) := hJ.slot 6 31 rfl (hpre ⟨6, .data⟩ (by simp) rfl) rfl
            have hb1 := hI.one hn'
            have hO1 : OwnT w' (A + 3) (.slice vm met.length vcm) met := World.ownsRow.kept hO (below_grown hb1) (own_or _)
            obtain ⟨v6, w6, hr6, ho6, hg6⟩ := append_texts w' (A + 3) _ met X b' off' c' htx6 hO1 (by omega) (by have := hb1.size; omega)
            rw [HST.out.2] at ho6
            have hnr := (hI.box h8).not_row (show 79 ≠ 9 by decide) hO1
            refine wpOp_append rfl rfl rfl e0 e6 hr6 ⟨_, rfl, ⟨(fun h => by rw [listed_same (by omega)] at h; cases h), fun _ => ⟨(KeepsOthers.of_grownBy (below_grown hb1) (by nofun)).trans (KeepsOthers.of_grownBy hg6 fun j o e hj => ?_), fun k hk => ?_, (hb1.mono (by omega)).grown hg6 (by have := hb1.size; omega) (fun q e => by have := (own_lt hO1 q e).1; omega)⟩, fun _ => (hI.box h8).kept hg6 hnr, (fun h => by rw [listed_other (by decide), h8] at h; cases h)⟩, fun _ => ho6, fun j u hj h => ?_⟩
            · obtain ⟨-, -, o', ho', hc'⟩ := own_lt hO1 j e
              rw [hj] at ho'; cases ho'; exact hc'
            · have h9 := hk.1
              exact (hg6.block k (by have := hb1.size; omega) fun e => by have := (own_lt hO1 k e.symm).1; omega).trans (hb1.block k (by omega))
            · match j, hj, h with
              | 0, _, h => exact h
              | 1, _, h => exact h
              | 2, _, h => exact h
              | 3, _, h => exact h
              | 4, _, h => exact h
              | 5, _, h => exact h
              | 6, _, h =>
                obtain ⟨b9, off9, c9, h1, h2, h3⟩ := h
                exact ⟨b9, off9, c9, h1, h2.far hg6 fun e => by have h4 := own_lt hO b9 e.symm; rcases h3 with h3 | h3 <;> omega, h3⟩
              | 7, hj, _ => rw [hn'] at hj; cases hj
              | _ + 8, _, _ => trivial
          | 8, _ =>
            cases ho
            have l7 := hpre ⟨7, .data⟩ (by simp) rfl
            have e7 : OwnT w' (A + 3) (a'.eval (.tmp 32)) MM := hJ.slot 7 32 rfl l7 rfl
            obtain ⟨u, hu⟩ : ∃ u, a'.eval (.tmp 32) = u := ⟨_, rfl⟩
            rw [hu] at e7
            obtain ⟨ua, uc, rfl⟩ := row_slice e7
            have hbx := hI.box hn'
            obtain ⟨hk2, hkn2, hb2⟩ := hI.two l7
            have hnr := hbx.not_row (show 79 ≠ 9 by decide) e7
            refine wpOp_store rfl rfl rfl (hJ.kept (t := 5) (by kernel_rfl)) hu (store_box ua _ uc hbx) ⟨_, rfl, ⟨(fun h => by rw [listed_other (by decide), l7] at h; cases h), fun _ => ⟨hk2.trans (KeepsOthers.setCell _ _ _), fun k hk => ?_, hb2.setCell (p := ⟨N0 + 1, 0, none⟩) (Nat.le_succ _) _⟩, (fun h => by rw [listed_same (by omega)] at h; cases h), fun _ => ⟨_, hbx.set _, World.ownsRow.kept e7 (grownBy_setCell' w' (N0 + 1) _) (.inr hnr.symm)⟩⟩, (fun e => by cases e), fun j u' hj h => ?_⟩
            · have h9 : k < w'.heap.size := by
                have h10 := (Array.getElem?_eq_some_iff.1 (show w'.heap[N0 + 1]? = _ from hbx)).1
                have h11 := hb2.size
                have h12 := hkn2 A ⟨by omega, by omega⟩
                rcases Nat.lt_or_ge k w'.heap.size with h | h
                · exact h
                · exfalso
                  have h13 : W.heap[k]? = none := by rw [← hkn2 k hk]; exact Array.getElem?_eq_none h
                  rw [Array.getElem?_eq_none_iff] at h13
                  have := hk.1; omega
              exact ((grownBy_setCell' w' (N0 + 1) _).block k h9 fun e => hk.2 (Option.some.inj e)).trans (hkn2 k hk)
            · match j, hj, h with
              | 0, _, h => exact h
              | 1, _, h => exact h
              | 2, _, h => exact h
              | 3, _, h => exact h
              | 4, _, h => exact h
              | 5, _, h => exact h
              | 6, _, h =>
                obtain ⟨b9, off9, c9, h1, h2, h3⟩ := h
                exact ⟨b9, off9, c9, h1, h2.far (grownBy_setCell' w' (N0 + 1) _) fun e => by have h4 := Option.some.inj e; rcases h3 with h3 | h3 <;> omega, h3⟩
              | 7, _, h =>
                have h' : OwnT w' (A + 3) u' MM := h
                exact World.ownsRow.kept h' (grownBy_setCell' w' (N0 + 1) _) (.inr (hbx.not_row (show 79 ≠ 9 by decide) h').symm)
              | _ + 8, _, _ => trivial
        case fin4 =>
          intro listed a' w' hJ hall
          obtain ⟨u, hu, hO2⟩ := hJ.inv.end' (hall 8 (by decide))
          obtain ⟨hk2, hkn2, hb2⟩ := hJ.inv.two (hall 7 (by decide))
          obtain ⟨vs, hvl, -, e⟩ := hJ.frame 25 8 (Nat.le_of_ble_eq_true (by kernel_rfl)) (by kernel_rfl)
          clear hJ hall
          match vs, hvl with
          | [t0, t1, t2, t3, t4, t5, t6, t7], _ =>
          simp only [List.take_succ_cons, List.take_zero, List.drop_succ_cons, List.drop_zero, List.cons_append, List.nil_append, Nat.reduceAdd] at e
          subst e
          have bA9 : Boxed w' A 79 (.slice (some ⟨ab, ao, none⟩) ALL.length vc) := (hkn2 A ⟨by omega, by omega⟩).trans bA
          obtain ⟨ua, uc, rfl⟩ := row_slice hO2
          have hcM := hu.cell
          have hcA := bA9.cell
          have hsz9 : A + 3 ≤ w'.heap.size := by
            rcases Nat.lt_or_ge w'.heap.size (A + 3) with h | h
            · exfalso
              have h13 : W.heap[A + 2]? = none := by rw [← hkn2 (A + 2) ⟨by omega, by omega⟩]; exact Array.getElem?_eq_none (by omega)
              rw [Array.getElem?_eq_none_iff] at h13
              omega
            · exact h
          have HZ := Lib.hid (And.intro hu (And.intro hO2 (And.intro hk2 (And.intro (⟨hsz9, hK.2.trans hkn2⟩ : K5 (A + 3) (N0 + 1) w5 w') (hB.trans hb2)))))
          clear hu hO2 hk2 hkn2 hb2 bA9 hK hB hO hv bA htxW htW5 htf
          by_cases hgt : ALL.length < MM.length
          · have d1 : decide ((ALL.length : Int) < (MM.length : Int)) = true := by simp; omega
            gi_wp2
            obtain ⟨hu, hO2, hk2, hK9, hB9⟩ := HZ.out
            have h5 := HST.out.1
            rw [decide_eq_true hgt] at h5
            refine ⟨hk2, ⟨⟨rfl, by rw [h5]⟩, ⟨_, hu, by rw [h5]; exact hO2, trivial⟩⟩, hK9, hB9⟩
          · have d1 : decide ((ALL.length : Int) < (MM.length : Int)) = false := by simp; omega
            gi_wp2
            obtain ⟨hu, hO2, hk2, hK9, hB9⟩ := HZ.out
            have h5 := HST.out.1
            rw [decide_eq_false hgt] at h5
            refine ⟨hk2, trivial, ⟨by rw [h5], ⟨_, hu, by rw [h5]; exact hO2, trivial⟩⟩, hK9, hB9⟩
    have hsp : isSp (byt y2) = false := by unfold isSp; simp [hy, hyh]
    have hlk0 := look_other hmm y2.1 hy hyh
    have hcQ := bQ.cell
    have hcM := hv.cell
    obtain ⟨i0, hi, hz0, hz1, hz2⟩ := info_parts infoStr
    have hst : cvP ALL (dol t.data.toList) (prs (pre ++ [(y1, y2)])) = (decide (ALL.length < (met ++ [byt y2]).length), met ++ [byt y2]) := by
      rw [hstep]; unfold cvStep; rw [hsp]; rfl
    obtain ⟨MM, hMM⟩ : ∃ MM, met ++ [byt y2] = MM := ⟨_, rfl⟩
    have hMl : MM.length = met.length + 1 := by rw [← hMM, List.length_append]; rfl
    rw [hMM] at hst
    have hsv : strVals met ++ [.string y2.1] = strVals MM := by rw [← hMM, strVals_snoc]; rfl
    have HST := Lib.hid (And.intro hst (And.intro hMM (And.intro hMl hsv)))
    have HY := Lib.hid (And.intro hO (And.intro hv (And.intro hK (And.intro hB bA))))
    have HR := Lib.hid (World.ownsRow.alloc hrow (.cells #[.string y2.1] 9))
    have hmx : met.length + 1 ≤ maxLen := by unfold maxLen; omega
    clear hst hMM hMl hsv hstep hsp hmm hO hv hK hB htxW bA bT bQ hrow hns hmet
    gi_wp2_with (gi_at_builtin; refine wpListIn_append_own _ rfl _ _ 79 rfl (A + 3) 9 i0 (.string ⟨#[]⟩) 1 16 Tryz.underlying79 hi hz0 hz1 hz2 rfl (by decide) _ _ _ rfl HR.out ⟨W.heap.size, 0, none⟩ 1 1 [.string y2.1] rfl rfl (cell_one_new _ _ _) (by simp [Value.oneCell']) hmx (by omega) (by have h := HY.out.2.2.1.1; simp; omega) ?_; intro v' w1' hown' hgrow _; refine stop_here ?_)
    refine Lib.hid ?_
    obtain ⟨hO, hv, hK, hB, bA⟩ := HY.out
    have hown2 : OwnT w1' (A + 3) v' MM := by
      unfold OwnT
      rw [HST.out.2.2.1, ← HST.out.2.2.2]; exact hown'
    obtain ⟨ua, uc, rfl⟩ := row_slice hown2
    have hnr := hv.not_row (show 79 ≠ 9 by decide) hO
    have hv1 : Boxed w1' (N0 + 1) 79 (.slice vm met.length vcm) := (hv.alloc _).kept hgrow hnr
    have hbA1 : Boxed w1' A 79 (.slice (some ⟨ab, ao, none⟩) ALL.length vc) := (bA.alloc _).kept hgrow fun e => by have := (own_lt hO A e.symm).1; omega
    have hc1 := hv1.cell
    have hf1 := hv1.frozen
    have hg9 := grownBy_setCell' w1' (N0 + 1) (.slice ua MM.length uc)
    have hu : Boxed (w1'.setCell ⟨N0 + 1, 0, none⟩ (.slice ua MM.length uc)) (N0 + 1) 79 (.slice ua MM.length uc) := hv1.set _
    have hO2 : OwnT (w1'.setCell ⟨N0 + 1, 0, none⟩ (.slice ua MM.length uc)) (A + 3) (.slice ua MM.length uc) MM := World.ownsRow.kept hown2 hg9 (.inr (hv1.not_row (show 79 ≠ 9 by decide) hown2).symm)
    have hk2 : KeepsOthers W (w1'.setCell ⟨N0 + 1, 0, none⟩ (.slice ua MM.length uc)) := ((KeepsOthers.alloc W _).trans (KeepsOthers.of_grownBy hgrow fun j o e hj => by
      obtain ⟨-, hjl, o', ho', hc'⟩ := own_lt hO j e
      rw [(Below.heap_alloc W (.cells #[.string y2.1] 9) j hjl).trans ho'] at hj
      cases hj; exact hc')).trans (KeepsOthers.setCell _ _ _)
    have hal1 : (W.alloc (.cells #[.string y2.1] 9)).heap.size = W.heap.size + 1 := by simp
    have hkn2 : KeepsOn (KpB (A + 3) (N0 + 1)) W (w1'.setCell ⟨N0 + 1, 0, none⟩ (.slice ua MM.length uc)) := fun k hk => by
      have h5 := hK.1
      have h6 := hk.1
      have h7 := hgrow.size
      exact ((hg9.block k (by omega) fun e => hk.2 (Option.some.inj e)).trans (hgrow.block k (by omega) fun e => by have := (own_lt hO k e.symm).1; omega)).trans (Below.heap_alloc W _ k (by omega))
    have hb9 : Below N0 W (w1'.setCell ⟨N0 + 1, 0, none⟩ (.slice ua MM.length uc)) := (((Below.refl N0 W).alloc (by have := hK.1; omega) _).grown hgrow (by have := hK.1; omega) (fun q e => by have := (own_lt hO q e).1; omega)).setCell (p := ⟨N0 + 1, 0, none⟩) (Nat.le_succ _) _
    have hbA9 : Boxed (w1'.setCell ⟨N0 + 1, 0, none⟩ (.slice ua MM.length uc)) A 79 (.slice (some ⟨ab, ao, none⟩) ALL.length vc) := hbA1.kept hg9 fun e => by have := Option.some.inj e; omega
    have hsz9 : A + 3 ≤ (w1'.setCell ⟨N0 + 1, 0, none⟩ (.slice ua MM.length uc)).heap.size := by have := hg9.size; have := hgrow.size; have := hK.1; omega
    obtain ⟨w9, hw9⟩ : ∃ w9, w1'.setCell ⟨N0 + 1, 0, none⟩ (.slice ua MM.length uc) = w9 := ⟨_, rfl⟩
    rw [hw9] at hu hO2 hk2 hkn2 hb9 hbA9 hsz9
    have hcM9 := hu.cell
    have hcA9 := hbA9.cell
    have HZ := Lib.hid (And.intro hu (And.intro hO2 (And.intro hk2 (And.intro (⟨hsz9, hK.2.trans hkn2⟩ : K5 (A + 3) (N0 + 1) w5 w9) (hB.trans hb9)))))
    clear hu hO2 hk2 hkn2 hb9 hbA9 hK hB hO hv bA hown2 hown' hg9 hv1 hbA1 hnr hgrow hi hz0 hz1 hz2 hcM hcQ hlk0 hsz9 hal1
    by_cases hgt : ALL.length < MM.length
    · have d1 : decide ((ALL.length : Int) < (MM.length : Int)) = true := by simp; omega
      gi_wp2
      obtain ⟨hu, hO2, hk2, hK9, hB9⟩ := HZ.out
      have h5 := HST.out.1
      rw [decide_eq_true hgt] at h5
      refine ⟨hk2, ⟨⟨rfl, by rw [h5]⟩, ⟨_, hu, by rw [h5]; exact hO2, trivial⟩⟩, hK9, hB9⟩
    · have d1 : decide ((ALL.length : Int) < (MM.length : Int)) = false := by simp; omega
      gi_wp2
      obtain ⟨hu, hO2, hk2, hK9, hB9⟩ := HZ.out
      have h5 := HST.out.1
      rw [decide_eq_false hgt] at h5
      refine ⟨hk2, trivial, ⟨by rw [h5], ⟨_, hu, by rw [h5]; exact hO2, trivial⟩⟩, hK9, hB9⟩
  case done =>
    rintro D ys W hD rfl ⟨⟨hns, v, hv, hrow, -⟩, hK, hB⟩ hKD
    have hfin : (cvP ALL (dol t.data.toList) (en 0 (lv f.data.toList))).2 = (cvP ALL (dol t.data.toList) (prs (itm 0 (lv f.data.toList)))).2 := by rw [prs_itm 0 (lv_short hf)]
    have hlen5 := cvP_len _ _ _ hns
    obtain ⟨met, hmet⟩ : ∃ met, (cvP ALL (dol t.data.toList) (prs (itm 0 (lv f.data.toList)))).2 = met := ⟨_, rfl⟩
    rw [hmet] at hrow hfin
    have hml : met.length ≤ 1000000 := by rw [hmet] at hlen5; omega
    have hO : OwnT W (A + 3) v met := hrow
    obtain ⟨va, vca, rfl, htv, -, -, -⟩ := TxAt.own hO
    have htxW : TxAt W (some ⟨ab, ao, none⟩) ALL := fun hne => by
      obtain ⟨b', o', e, h2, h3⟩ := HM5.out.2 hne
      cases e
      have hkk : W.heap[ab]? = w5.heap[ab]? := hK.2 ab ⟨by omega, by omega⟩
      exact ⟨ab, ao, rfl, by have := hK.1; omega, fun j x hj => (World.cell?_of_block hkk).trans (h3 j x hj)⟩
    have bA := box_keep bA5 hK.2 (by omega) (by omega)
    have hcA := bA.cell
    have hcM := hv.cell
    have HS := Lib.hid (same_any va (some ⟨ab, ao, none⟩) vca vc met ALL hml W htv htxW)
    have HX := Lib.hid (And.intro hB (And.intro hKD hfin))
    clear hB hKD hfin hrow hO hv bA htxW htv hK hmet
    gi_wp2
    refine ⟨trivial, (callsIn_wide.2 HS.out).mono ?_⟩
    rintro en w8 ⟨rfl, hb8⟩
    obtain ⟨hB, hKD, hfin⟩ := HX.out
    have hDW := (Array.getElem?_eq_some_iff.1 hKD).1
    have hK8 : w8.heap[D]? = some (.deferred (some [])) := (hb8.block D hDW).trans hKD
    have hb9 : Below N0 w w8 := hB.trans (hb8.mono (by have := hB.size; have := HW.out.1; omega))
    clear hb8 hKD hB
    gi_wp2
    simp only [Exit.noGoto]
    refine ⟨by simp, .inl ⟨_, _, rfl, run_takeDeferred hK8, ?_⟩⟩
    refine ⟨_, results_tmp rfl _ _ _, ?_, ?_⟩
    · have h5 := cvP_all (F := lv f.data.toList) (all := ALL) (hid := dol t.data.toList) (lv_ne _) (by rw [← HALL.out]; exact lv_ne _)
      rw [hfin] at h5
      unfold covL
      rw [HALL.out, ← h5]; rfl
    · rw [HW.out.1]
      exact hb9.trans (belowK_b (w := w5) (by omega) w8 D _ _ hD hK8 rfl rfl)
  case stop =>
    rintro D c pre W hD hpr ⟨⟨⟨rfl, hst⟩, v, hv, hrow, -⟩, hK, hB⟩ hKD
    have hfin : (cvP ALL (dol t.data.toList) (en 0 (lv f.data.toList))).2 = (cvP ALL (dol t.data.toList) (prs pre)).2 := by
      rw [← prs_itm 0 (lv_short hf)]
      rw [cvP_stop (p := prs pre) (q := prs (itm 0 (lv f.data.toList))) (hpr.map _) hst]
    have hlen5 := cvP_any ALL (dol t.data.toList) (prs pre)
    obtain ⟨met, hmet⟩ : ∃ met, (cvP ALL (dol t.data.toList) (prs pre)).2 = met := ⟨_, rfl⟩
    rw [hmet] at hrow hfin
    have hml : met.length ≤ 1000000 := by rw [hmet] at hlen5; omega
    have hO : OwnT W (A + 3) v met := hrow
    obtain ⟨va, vca, rfl, htv, -, -, -⟩ := TxAt.own hO
    have htxW : TxAt W (some ⟨ab, ao, none⟩) ALL := fun hne => by
      obtain ⟨b', o', e, h2, h3⟩ := HM5.out.2 hne
      cases e
      have hkk : W.heap[ab]? = w5.heap[ab]? := hK.2 ab ⟨by omega, by omega⟩
      exact ⟨ab, ao, rfl, by have := hK.1; omega, fun j x hj => (World.cell?_of_block hkk).trans (h3 j x hj)⟩
    have bA := box_keep bA5 hK.2 (by omega) (by omega)
    have hcA := bA.cell
    have hcM := hv.cell
    have HS := Lib.hid (same_any va (some ⟨ab, ao, none⟩) vca vc met ALL hml W htv htxW)
    have HX := Lib.hid (And.intro hB (And.intro hKD hfin))
    clear hB hKD hfin hrow hO hv bA htxW htv hK hmet
    refine wpIn_exit ?_
    gi_wp2
    refine ⟨trivial, (callsIn_wide.2 HS.out).mono ?_⟩
    rintro en w8 ⟨rfl, hb8⟩
    obtain ⟨hB, hKD, hfin⟩ := HX.out
    have hDW := (Array.getElem?_eq_some_iff.1 hKD).1
    have hK8 : w8.heap[D]? = some (.deferred (some [])) := (hb8.block D hDW).trans hKD
    have hb9 : Below N0 w w8 := hB.trans (hb8.mono (by have := hB.size; have := HW.out.1; omega))
    clear hb8 hKD hB
    gi_wp2
    simp only [Exit.noGoto]
    refine ⟨by simp, .inl ⟨_, _, rfl, run_takeDeferred hK8, ?_⟩⟩
    refine ⟨_, results_tmp rfl _ _ _, ?_, ?_⟩
    · have h5 := cvP_all (F := lv f.data.toList) (all := ALL) (hid := dol t.data.toList) (lv_ne _) (by rw [← HALL.out]; exact lv_ne _)
      rw [hfin] at h5
      unfold covL
      rw [HALL.out, ← h5]; rfl
    · rw [HW.out.1]
      exact hb9.trans (belowK_b (w := w5) (by omega) w8 D _ _ hD hK8 rfl rfl)
end Go.Proofs.YtgcfgheamaoceaaGreatDoor
