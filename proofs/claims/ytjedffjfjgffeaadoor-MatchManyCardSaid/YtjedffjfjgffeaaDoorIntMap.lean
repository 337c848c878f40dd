/- Maps whose keys are small numbers (from 0 to 4095), whatever their elements: what each reads as is a function from numbers to values; what each operation does. Of no program. -/
import Derived.WalkKit
import Derived.OwnWalk
import Derived.Maps.Own
import Derived.Maps.Range
import Derived.Maps.Ext
import Derived.Below
namespace Go.Proofs.YtjedffjfjgffeaaDoor
open Go.ChangeMaps Go.MapKept Go.RowKit
open Go.WideElems (Fit rd rg pl rd_val)

theorem nodup_bound : ∀ (N : Nat) (l : List Nat), l.Nodup → (∀ x ∈ l, x < N) → l.length ≤ N
  | 0, l, _, h => by
    cases l with
    | nil => simp
    | cons x l => exact absurd (h x (by simp)) (by omega)
  | N + 1, l, hn, h => by
    have h1 := nodup_bound N (l.filter (· ≠ N)) (hn.filter _) (fun x hx => by
      have := h x (List.mem_filter.1 hx).1
      have h2 := (List.mem_filter.1 hx).2
      simp at h2
      omega)
    have h2 := List.length_eq_countP_add_countP (fun x => decide (x ≠ N)) (l := l)
    have h3 : l.countP (fun x => decide ¬(decide (x ≠ N) = true)) ≤ 1 := by
      have e : l.countP (fun x => decide ¬(decide (x ≠ N) = true)) = l.count N := by
        unfold List.count
        apply List.countP_congr
        intro x _
        simp
      rw [e]
      exact List.nodup_iff_count.1 hn N
    rw [← List.countP_eq_length_filter] at h1
    omega

abbrev VD := DataW Value
def heldR (v : Value) : Option (VD × List MemPlace) := some (.held v, [])

structure MapReads (D : VD) (f : Nat → Option Value) : Prop where
  at_ : ∀ (k : Nat) (zd : VD), D.atKey (.int .i64 k) zd = match f k with | some v => .held v | none => zd
  keys : ∀ kl, Maps.has D kl = true → ∃ k : Nat, kl = .int .i64 k ∧ k < 4096

theorem MapReads.low {D : VD} {f : Nat → Option Value} (h : MapReads D f) {k : Nat} (hk : 4096 ≤ k) : f k = none := by
  cases hf : f k with
  | none => rfl
  | some v =>
    have h1 : Maps.has D (.int .i64 k) = true := Maps.has_true_of_atKey (y := .held v) (fun z => by rw [h.at_, hf])
    obtain ⟨j, e, hj⟩ := h.keys _ h1
    have : (k : Int) = j := by injection e
    omega
theorem MapReads.has {D : VD} {f : Nat → Option Value} (h : MapReads D f) (k : Nat) : Maps.has D (.int .i64 k) = (f k).isSome := by
  cases hf : f k with
  | some v => exact Maps.has_true_of_atKey (y := .held v) (fun z => by rw [h.at_, hf])
  | none => exact Maps.has_false_of_atKey (fun z => by rw [h.at_, hf])

section
variable {P : Program} {kT : TypeId}

theorem MapReads.size {w : World} {b n : Nat} {D : VD} {f : Nat → Option Value} (h : MapReads D f) (hk : P.underlying kT = some (.int .i64)) (hown : w.ownsMap P kT heldR b n D) : Maps.size D ≤ 4096 := by
  obtain ⟨es, rfl, hp, hkl⟩ := hown.entries (Maps.int_keyed hk)
  rw [Maps.size_eq]
  have hnat : ∀ p ∈ es, ∃ k : Nat, p.1 = .int .i64 k ∧ k < 4096 := fun p hp => h.keys p.1 (by
    rw [Maps.has_eq, List.any_eq_true]
    exact ⟨p, hp, WideAt.sameKey_self (hkl p hp)⟩)
  have := nodup_bound 4096 (es.map fun p => match p.1 with | .int _ k => k.toNat | _ => 0) (by
    rw [List.nodup_iff_pairwise_ne, List.pairwise_map]
    refine hp.imp_of_mem (fun {p q} hp hq hne e => hne ?_)
    obtain ⟨a, ha, _⟩ := hnat p hp
    obtain ⟨c, hc, _⟩ := hnat q hq
    rw [ha, hc] at e ⊢
    simp at e
    rw [e]) (fun x hx => by
    obtain ⟨p, hp, rfl⟩ := List.mem_map.1 hx
    obtain ⟨a, ha, hlt⟩ := hnat p hp
    rw [ha]; simpa using hlt)
  simpa using this

theorem ownsMap_shrink {w : World} {b n m : Nat} {D : VD} (hown : w.ownsMap P kT heldR b n D) (hm : Maps.size D ≤ m) : w.ownsMap P kT heldR b m D := by
  obtain ⟨es, clock, hb, F, hs, hD⟩ := hown
  refine ⟨es, clock, hb, F, ?_, hD⟩
  subst hD
  rw [Maps.size_eq, length_sorted] at hm
  simpa using hm

/-- Block b is a map that reads as f. -/
def IntMap (P : Program) (kT : TypeId) (w : World) (b : Nat) (f : Nat → Option Value) : Prop := ∃ D : VD, w.ownsMap P kT heldR b 4096 D ∧ MapReads D f

theorem IntMap.lt {w : World} {b : Nat} {f : Nat → Option Value} (h : IntMap P kT w b f) : b < w.heap.size := by
  obtain ⟨D, ho, _⟩ := h; exact ho.lt
theorem IntMap.kept {w w' : World} {b : Nat} {f : Nat → Option Value} {row : Option Nat} (h : IntMap P kT w b f) (hg : w.grownBy w' row) (hne : some b ≠ row) : IntMap P kT w' b f := by
  obtain ⟨D, ho, hr⟩ := h; exact ⟨D, ho.kept hg hne, hr⟩
theorem IntMap.at_block {w w' : World} {b : Nat} {f : Nat → Option Value} (h : IntMap P kT w b f) (he : w'.heap[b]? = w.heap[b]?) : IntMap P kT w' b f := by
  obtain ⟨D, ⟨es, clock, hb, F, hs, hD⟩, hr⟩ := h; exact ⟨D, ⟨es, clock, he.trans hb, F, hs, hD⟩, hr⟩
theorem IntMap.below {w w' : World} {b n : Nat} {f : Nat → Option Value} (h : IntMap P kT w b f) (hb : Below n w w') (hn : b < n) : IntMap P kT w' b f := h.at_block (hb.block b hn)
theorem IntMap.alloc {w : World} {b : Nat} {f : Nat → Option Value} (h : IntMap P kT w b f) (o : Obj) : IntMap P kT (w.alloc o) b f := h.kept (World.grownBy_alloc w o none) (by simp)
theorem IntMap.drew {w : World} {b : Nat} {f : Nat → Option Value} (h : IntMap P kT w b f) : IntMap P kT w.drew b f := h
theorem IntMap.made (w : World) : IntMap P kT (w.alloc (.map #[] 0)) w.heap.size (fun _ => none) :=
  ⟨.map [], (World.ownsMap_made w P kT heldR).mono (by omega), fun _ _ => rfl, fun kl h => by cases h⟩
theorem IntMap.low {w : World} {b : Nat} {f : Nat → Option Value} (h : IntMap P kT w b f) {k : Nat} (hk : 4096 ≤ k) : f k = none := by
  obtain ⟨D, _, hr⟩ := h; exact hr.low hk

theorem wf_nat (k : Nat) (hk : k ≤ 9223372036854775807) : (Lit.int .i64 k).wf = true := WalkArith.wf_i64 (by omega)

/-- 'm[k]', 'v, ok := m[k]'. -/
theorem IntMap.look {T E : TypeId} {w : World} {b : Nat} {f : Nat → Option Value} (h : IntMap P kT w b f) (hkT : P.underlying kT = some (.int .i64)) (hT : P.underlying T = some (.map kT E)) {z : Value} (hz : ∀ w, (zeroValue E).run P w = .ok z w) (k : Nat) (hk : k ≤ 9223372036854775807) (c : Bool) :
    (Instr.lookup T (.map (some b)) (.int .i64 k) c).run P w = .ok (if c then .tuple #[(f k).getD z, .bool (f k).isSome] else (f k).getD z) w := by
  obtain ⟨D, ⟨es, clock, hb, F, hs, rfl⟩, hr⟩ := h
  have hkey : keyOf P kT (.int .i64 k) = some (.int .i64 k) := Maps.keyOf_int_mk hkT (wf_nat k hk)
  rcases Maps.fit_look c (Maps.int_keyed hkT) hT (hz w) hb F hkey with ⟨hrun, _, hat⟩ | ⟨e0, y, _, _, hrun, hRv, hat, _⟩
  · have hf : f k = none := by
      have h1 := Maps.has_false_of_atKey hat
      rw [hr.has] at h1
      cases hf : f k with
      | none => rfl
      | some v => rw [hf] at h1; cases h1
    rw [hrun, hf]; rfl
  · have hf : f k = some e0.val := by
      have h1 := hat .nil
      rw [hr.at_] at h1
      unfold heldR at hRv
      cases hRv
      cases hf : f k with
      | none => rw [hf] at h1; cases h1
      | some v => rw [hf] at h1; injection h1 with h1; rw [h1]
    rw [hrun, hf]; rfl

/-- A key that is not there. -/
theorem IntMap.look_none {T E : TypeId} {w : World} {b : Nat} {f : Nat → Option Value} (h : IntMap P kT w b f) (hkT : P.underlying kT = some (.int .i64)) (hT : P.underlying T = some (.map kT E)) {z : Value} (hz : ∀ w, (zeroValue E).run P w = .ok z w) (k : Int) (hw : (Lit.int .i64 k).wf = true) (hk : ∀ j : Nat, k = j → f j = none) (c : Bool) :
    (Instr.lookup T (.map (some b)) (.int .i64 k) c).run P w = .ok (if c then .tuple #[z, .bool false] else z) w := by
  obtain ⟨D, ⟨es, clock, hb, F, hs, rfl⟩, hr⟩ := h
  have hkey : keyOf P kT (.int .i64 k) = some (.int .i64 k) := Maps.keyOf_int_mk hkT hw
  rcases Maps.fit_look c (Maps.int_keyed hkT) hT (hz w) hb F hkey with ⟨hrun, _, hat⟩ | ⟨e0, y, _, _, hrun, hRv, hat, _⟩
  · rw [hrun]
  · exfalso
    obtain ⟨j, e, hj⟩ := hr.keys _ (Maps.has_true_of_atKey hat)
    have e' : k = j := by injection e
    have h1 := hat .nil
    rw [e', hr.at_, hk j e'] at h1
    unfold heldR at hRv
    cases hRv
    cases h1

def putAt (f : Nat → Option Value) (k : Nat) (v : Value) : Nat → Option Value := fun j => if j = k then some v else f j
/-- 'm[k] = v'. -/
theorem IntMap.put {T E : TypeId} {w : World} {b : Nat} {f : Nat → Option Value} (h : IntMap P kT w b f) (hkT : P.underlying kT = some (.int .i64)) (hT : P.underlying T = some (.map kT E)) (k : Nat) (hk : k < 4096) (v : Value) :
    ∃ w', (Instr.mapUpdate T (.map (some b)) (.int .i64 k) v).run P w = .ok () w' ∧ IntMap P kT w' b (putAt f k v) ∧ w.grownBy w' (some b) := by
  obtain ⟨D, ho, hr⟩ := h
  have hkey : keyOf P kT (.int .i64 k) = some (.int .i64 k) := Maps.keyOf_int_mk hkT (wf_nat k (by omega))
  have hmap : Maps.IsMap D := by
    obtain ⟨es, clock, _, _, _, rfl⟩ := ho; exact ⟨_, rfl⟩
  have hkl : WideAt.IsKeyLit (.int .i64 k) := (Maps.int_keyed hkT).key hkey
  obtain ⟨w', hrun, h1, h2⟩ := ho.update (Maps.int_keyed hkT) hT (by unfold maxLen; omega) hkey (val := v) (d := .held v) (ps := []) rfl
  have hr' : MapReads (D.put (.int .i64 k) (.held v)) (putAt f k v) := by
    refine ⟨fun j zd => ?_, fun kl hh => ?_⟩
    · by_cases hj : j = k
      · subst hj
        rw [Maps.atKey_put_same hmap hkl]
        simp [putAt]
      · rw [Maps.atKey_put_other (by intro e; apply hj; have : (j : Int) = k := by injection e
                                     omega), hr.at_]
        simp [putAt, hj]
    · by_cases hkk : kl = .int .i64 k
      · exact ⟨k, hkk, hk⟩
      · rw [Maps.has_put_other hkk] at hh
        exact hr.keys kl hh
  exact ⟨w', hrun, ⟨_, ownsMap_shrink h1 (hr'.size hkT h1), hr'⟩, h2⟩

/-- 'clear(m)'. -/
theorem IntMap.clear {T E : TypeId} {w : World} {b : Nat} {f : Nat → Option Value} (h : IntMap P kT w b f) (hT : P.underlying T = some (.map kT E)) (ty : TypeId) :
    ∃ w', (Builtin.clear_ #[T] ty #[.map (some b)]).run P w = .ok (.tuple #[]) w' ∧ IntMap P kT w' b (fun _ => none) ∧ w.grownBy w' (some b) := by
  obtain ⟨D, ⟨es, clock, hb, F, hs, rfl⟩, hr⟩ := h
  refine ⟨setBlock w b (.map #[] clock), ?_, ⟨.map [], ⟨#[], clock, heap_setBlock_same hb _, ⟨by simp, ?_, by simp⟩, by simp, rfl⟩, fun _ _ => rfl, fun kl h => by cases h⟩, ⟨rfl, rfl, rfl, by simp [setBlock], fun i _ hi => heap_setBlock_other hb _ (fun e => hi (by rw [e]))⟩⟩
  · have hset : (setObj b (.map #[] clock)).run P w = .ok () (setBlock w b (.map #[] clock)) := run_setObj_map _ hb
    simp [Builtin.clear_, run_underlying hT, MapKept.run_getObj_map hb, hset, Result.andThen]
  · exact ⟨by simp, by simp⟩
/-- A new block with the same entries. -/
theorem IntMap.copied {w : World} {b : Nat} {f : Nat → Option Value} (h : IntMap P kT w b f) : ∃ es clock, w.heap[b]? = some (.map es clock) ∧ IntMap P kT (w.alloc (.map es clock)) w.heap.size f := by
  obtain ⟨D, ⟨es, clock, hb, F, hs, hD⟩, hr⟩ := h
  exact ⟨es, clock, hb, D, ⟨es, clock, (MapKept.heap_alloc w _).1, F, hs, hD⟩, hr⟩

theorem wpList_insert {T E : TypeId} {w : World} {ops : Array Oper} {rest : List Oper} {o : Oper} {a : Act} {Q : Exit → Act → World → Prop} {b : Nat} {f : Nat → Option Value} (hg : o.guard = none) (m x v : Operand) (hop : o.op = .insert T m x v)
    (hkT : P.underlying kT = some (.int .i64)) (hT : P.underlying T = some (.map kT E)) (h : IntMap P kT w b f) (hm : a.eval m = .map (some b)) (k : Nat) (hk : k < 4096) (hx : a.eval x = .int .i64 k)
    (hK : ∀ w', IntMap P kT w' b (putAt f k (a.eval v)) → w.grownBy w' (some b) → wpList P ops Q rest (a.put o.dst undef) w') : wpList P ops Q (o :: rest) a w := by
  refine wpList_plain hg fun K hK' => ?_
  obtain ⟨w', hrun, r1, r2⟩ := h.put hkT hT k hk (a.eval v)
  unfold Oper.wp
  simp only [execOp, hop, hm, hx, hrun, Sem.run_bind, Sem.run_pure, Result.andThen_ok]
  exact hK' _ _ (hK w' r1 r2)
theorem wpList_update {T E : TypeId} {w : World} {ops : Array Oper} {rest : List Oper} {o : Oper} {a : Act} {Q : Exit → Act → World → Prop} {b : Nat} {f : Nat → Option Value} (hg : o.guard = none) (m x v : Operand) (hop : o.op = .mapUpdate T m x v)
    (hkT : P.underlying kT = some (.int .i64)) (hT : P.underlying T = some (.map kT E)) (h : IntMap P kT w b f) (hm : a.eval m = .map (some b)) (k : Nat) (hk : k < 4096) (hx : a.eval x = .int .i64 k)
    (hK : ∀ w', IntMap P kT w' b (putAt f k (a.eval v)) → w.grownBy w' (some b) → wpList P ops Q rest (a.put o.dst undef) w') : wpList P ops Q (o :: rest) a w := by
  refine wpList_plain hg fun K hK' => ?_
  obtain ⟨w', hrun, r1, r2⟩ := h.put hkT hT k hk (a.eval v)
  unfold Oper.wp
  simp only [execOp, hop, hm, hx, hrun, Sem.run_bind, Sem.run_pure, Result.andThen_ok]
  exact hK' _ _ (hK w' r1 r2)
theorem wpList_look_none {T E : TypeId} {w : World} {ops : Array Oper} {rest : List Oper} {o : Oper} {a : Act} {Q : Exit → Act → World → Prop} {b : Nat} {f : Nat → Option Value} (hg : o.guard = none) (m x : Operand) (c : Bool) (hop : o.op = .lookup T m x c)
    (hkT : P.underlying kT = some (.int .i64)) (hT : P.underlying T = some (.map kT E)) {z : Value} (hz : ∀ w, (zeroValue E).run P w = .ok z w) (h : IntMap P kT w b f) (hm : a.eval m = .map (some b)) (k : Int) (hw : (Lit.int .i64 k).wf = true) (hk : ∀ j : Nat, k = j → f j = none) (hx : a.eval x = .int .i64 k)
    (hK : wpList P ops Q rest (a.put o.dst (if c then .tuple #[z, .bool false] else z)) w) : wpList P ops Q (o :: rest) a w := by
  refine wpList_plain hg fun K hK' => ?_
  unfold Oper.wp
  simp only [execOp, hop, hm, hx, h.look_none hkT hT hz k hw hk c, Sem.run_bind, Sem.run_pure, Result.andThen_ok]
  exact hK' _ _ hK
theorem wpList_look {T E : TypeId} {w : World} {ops : Array Oper} {rest : List Oper} {o : Oper} {a : Act} {Q : Exit → Act → World → Prop} {b : Nat} {f : Nat → Option Value} (hg : o.guard = none) (m x : Operand) (c : Bool) (hop : o.op = .lookup T m x c)
    (hkT : P.underlying kT = some (.int .i64)) (hT : P.underlying T = some (.map kT E)) {z : Value} (hz : ∀ w, (zeroValue E).run P w = .ok z w) (h : IntMap P kT w b f) (hm : a.eval m = .map (some b)) (k : Nat) (hk : k ≤ 9223372036854775807) (hx : a.eval x = .int .i64 k)
    (hK : wpList P ops Q rest (a.put o.dst (if c then .tuple #[(f k).getD z, .bool (f k).isSome] else (f k).getD z)) w) : wpList P ops Q (o :: rest) a w := by
  refine wpList_plain hg fun K hK' => ?_
  unfold Oper.wp
  simp only [execOp, hop, hm, hx, h.look hkT hT hz k hk c, Sem.run_bind, Sem.run_pure, Result.andThen_ok]
  exact hK' _ _ hK
end
end Go.Proofs.YtjedffjfjgffeaaDoor
