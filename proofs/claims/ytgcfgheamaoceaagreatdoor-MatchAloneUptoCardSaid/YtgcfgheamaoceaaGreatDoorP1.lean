/- Texts of the proof in one file, in build order: IntMap, StrMap, MatA, MatB, MatC, MatD, MatE, MatF, MatG, MatH. -/
import Derived.WalkKit
import Derived.OwnWalk
import Derived.Maps.Own
import Derived.Maps.Range
import Derived.Maps.Ext
import Derived.Below
import Derived.Maps.OwnSet
import Derived.StringKeys
import Derived.Test.YtgcfgheamaoceaaGreatDoorTopB
import Derived.Test.YtgcfgheamaoceaaGreatDoorKit
import Derived.Lib.Hide
import Derived.Test.YtgcfgheamaoceaaGreatDoorProg
import Derived.WideKeyEntry
import Derived.WideMake
import Derived.Laws.ResultCell
import Derived.StillTailTactics
import Derived.Deep.RegionWith
import Derived.BigQuiet
/- Maps whose keys are small numbers (from 0 to 4095), whatever their elements: what each reads as is a function from numbers to values; what each operation does. Of no program. -/
namespace Go.Proofs.YtgcfgheamaoceaaGreatDoor
open Go.ChangeMaps Go.MapKept Go.RowKit
open Go.WideElems (Fit rd rg pl rd_val)

theorem nodup_bound : ∀ (N : Nat) (l : List Nat), l.Nodup → (∀ x ∈ l, x < N) → l.length ≤ N
  | 0, l, _, h => by
    cases l with
    | nil => simp
    | cons x l => exact absurd (h x (by simp)) (by omega)
  | N + 1, l, hn, h => by
    have h1 := nodup_bound N (l.filter (· ≠ N)) (hn.filter _) (fun x hx => by
      have := h x (List.mem_filter.1 hx).1
      have h2 := (List.mem_filter.1 hx).2
      simp at h2
      omega)
    have h2 := List.length_eq_countP_add_countP (fun x => decide (x ≠ N)) (l := l)
    have h3 : l.countP (fun x => decide ¬(decide (x ≠ N) = true)) ≤ 1 := by
      have e : l.countP (fun x => decide ¬(decide (x ≠ N) = true)) = l.count N := by
        unfold List.count
        apply List.countP_congr
        intro x _
        simp
      rw [e]
      exact List.nodup_iff_count.1 hn N
    rw [← List.countP_eq_length_filter] at h1
    omega

abbrev VD := DataW Value
def heldR (v : Value) : Option (VD × List MemPlace) := some (.held v, [])

structure MapReads (D : VD) (f : Nat → Option Value) : Prop where
  at_ : ∀ (k : Nat) (zd : VD), D.atKey (.int .i64 k) zd = match f k with | some v => .held v | none => zd
  keys : ∀ kl, Maps.has D kl = true → ∃ k : Nat, kl = .int .i64 k ∧ k < 4096

theorem MapReads.low {D : VD} {f : Nat → Option Value} (h : MapReads D f) {k : Nat} (hk : 4096 ≤ k) : f k = none := by
  cases hf : f k with
  | none => rfl
  | some v =>
    have h1 : Maps.has D (.int .i64 k) = true := Maps.has_true_of_atKey (y := .held v) (fun z => by rw [h.at_, hf])
    obtain ⟨j, e, hj⟩ := h.keys _ h1
    have : (k : Int) = j := by injection e
    omega
theorem MapReads.has {D : VD} {f : Nat → Option Value} (h : MapReads D f) (k : Nat) : Maps.has D (.int .i64 k) = (f k).isSome := by
  cases hf : f k with
  | some v => exact Maps.has_true_of_atKey (y := .held v) (fun z => by rw [h.at_, hf])
  | none => exact Maps.has_false_of_atKey (fun z => by rw [h.at_, hf])

section
variable {P : Program} {kT : TypeId}

theorem MapReads.size {w : World} {b n : Nat} {D : VD} {f : Nat → Option Value} (h : MapReads D f) (hk : P.underlying kT = some (.int .i64)) (hown : w.ownsMap P kT heldR b n D) : Maps.size D ≤ 4096 := by
  obtain ⟨es, rfl, hp, hkl⟩ := hown.entries (Maps.int_keyed hk)
  rw [Maps.size_eq]
  have hnat : ∀ p ∈ es, ∃ k : Nat, p.1 = .int .i64 k ∧ k < 4096 := fun p hp => h.keys p.1 (by
    rw [Maps.has_eq, List.any_eq_true]
    exact ⟨p, hp, WideAt.sameKey_self (hkl p hp)⟩)
  have := nodup_bound 4096 (es.map fun p => match p.1 with | .int _ k => k.toNat | _ => 0) (by
    rw [List.nodup_iff_pairwise_ne, List.pairwise_map]
    refine hp.imp_of_mem (fun {p q} hp hq hne e => hne ?_)
    obtain ⟨a, ha, _⟩ := hnat p hp
    obtain ⟨c, hc, _⟩ := hnat q hq
    rw [ha, hc] at e ⊢
    simp at e
    rw [e]) (fun x hx => by
    obtain ⟨p, hp, rfl⟩ := List.mem_map.1 hx
    obtain ⟨a, ha, hlt⟩ := hnat p hp
    rw [ha]; simpa using hlt)
  simpa using this

theorem ownsMap_shrink {w : World} {b n m : Nat} {D : VD} (hown : w.ownsMap P kT heldR b n D) (hm : Maps.size D ≤ m) : w.ownsMap P kT heldR b m D := by
  obtain ⟨es, clock, hb, F, hs, hD⟩ := hown
  refine ⟨es, clock, hb, F, ?_, hD⟩
  subst hD
  rw [Maps.size_eq, length_sorted] at hm
  simpa using hm

/-- Block b is a map that reads as f. -/
def IntMap (P : Program) (kT : TypeId) (w : World) (b : Nat) (f : Nat → Option Value) : Prop := ∃ D : VD, w.ownsMap P kT heldR b 4096 D ∧ MapReads D f

theorem IntMap.lt {w : World} {b : Nat} {f : Nat → Option Value} (h : IntMap P kT w b f) : b < w.heap.size := by
  obtain ⟨D, ho, _⟩ := h; exact ho.lt
theorem IntMap.kept {w w' : World} {b : Nat} {f : Nat → Option Value} {row : Option Nat} (h : IntMap P kT w b f) (hg : w.grownBy w' row) (hne : some b ≠ row) : IntMap P kT w' b f := by
  obtain ⟨D, ho, hr⟩ := h; exact ⟨D, ho.kept hg hne, hr⟩
theorem IntMap.at_block {w w' : World} {b : Nat} {f : Nat → Option Value} (h : IntMap P kT w b f) (he : w'.heap[b]? = w.heap[b]?) : IntMap P kT w' b f := by
  obtain ⟨D, ⟨es, clock, hb, F, hs, hD⟩, hr⟩ := h; exact ⟨D, ⟨es, clock, he.trans hb, F, hs, hD⟩, hr⟩
theorem IntMap.below {w w' : World} {b n : Nat} {f : Nat → Option Value} (h : IntMap P kT w b f) (hb : Below n w w') (hn : b < n) : IntMap P kT w' b f := h.at_block (hb.block b hn)
theorem IntMap.alloc {w : World} {b : Nat} {f : Nat → Option Value} (h : IntMap P kT w b f) (o : Obj) : IntMap P kT (w.alloc o) b f := h.kept (World.grownBy_alloc w o none) (by simp)
theorem IntMap.drew {w : World} {b : Nat} {f : Nat → Option Value} (h : IntMap P kT w b f) : IntMap P kT w.drew b f := h
theorem IntMap.made (w : World) : IntMap P kT (w.alloc (.map #[] 0)) w.heap.size (fun _ => none) :=
  ⟨.map [], (World.ownsMap_made w P kT heldR).mono (by omega), fun _ _ => rfl, fun kl h => by cases h⟩
theorem IntMap.low {w : World} {b : Nat} {f : Nat → Option Value} (h : IntMap P kT w b f) {k : Nat} (hk : 4096 ≤ k) : f k = none := by
  obtain ⟨D, _, hr⟩ := h; exact hr.low hk

theorem wf_nat (k : Nat) (hk : k ≤ 9223372036854775807) : (Lit.int .i64 k).wf = true := WalkArith.wf_i64 (by omega)

/-- 'm[k]', 'v, ok := m[k]'. -/
theorem IntMap.look {T E : TypeId} {w : World} {b : Nat} {f : Nat → Option Value} (h : IntMap P kT w b f) (hkT : P.underlying kT = some (.int .i64)) (hT : P.underlying T = some (.map kT E)) {z : Value} (hz : ∀ w, (zeroValue E).run P w = .ok z w) (k : Nat) (hk : k ≤ 9223372036854775807) (c : Bool) :
    (Instr.lookup T (.map (some b)) (.int .i64 k) c).run P w = .ok (if c then .tuple #[(f k).getD z, .bool (f k).isSome] else (f k).getD z) w := by
  obtain ⟨D, ⟨es, clock, hb, F, hs, rfl⟩, hr⟩ := h
  have hkey : keyOf P kT (.int .i64 k) = some (.int .i64 k) := Maps.keyOf_int_mk hkT (wf_nat k hk)
  rcases Maps.fit_look c (Maps.int_keyed hkT) hT (hz w) hb F hkey with ⟨hrun, _, hat⟩ | ⟨e0, y, _, _, hrun, hRv, hat, _⟩
  · have hf : f k = none := by
      have h1 := Maps.has_false_of_atKey hat
      rw [hr.has] at h1
      cases hf : f k with
      | none => rfl
      | some v => rw [hf] at h1; cases h1
    rw [hrun, hf]; rfl
  · have hf : f k = some e0.val := by
      have h1 := hat .nil
      rw [hr.at_] at h1
      unfold heldR at hRv
      cases hRv
      cases hf : f k with
      | none => rw [hf] at h1; cases h1
      | some v => rw [hf] at h1; injection h1 with h1; rw [h1]
    rw [hrun, hf]; rfl

/-- A key that is not there. -/
theorem IntMap.look_none {T E : TypeId} {w : World} {b : Nat} {f : Nat → Option Value} (h : IntMap P kT w b f) (hkT : P.underlying kT = some (.int .i64)) (hT : P.underlying T = some (.map kT E)) {z : Value} (hz : ∀ w, (zeroValue E).run P w = .ok z w) (k : Int) (hw : (Lit.int .i64 k).wf = true) (hk : ∀ j : Nat, k = j → f j = none) (c : Bool) :
    (Instr.lookup T (.map (some b)) (.int .i64 k) c).run P w = .ok (if c then .tuple #[z, .bool false] else z) w := by
  obtain ⟨D, ⟨es, clock, hb, F, hs, rfl⟩, hr⟩ := h
  have hkey : keyOf P kT (.int .i64 k) = some (.int .i64 k) := Maps.keyOf_int_mk hkT hw
  rcases Maps.fit_look c (Maps.int_keyed hkT) hT (hz w) hb F hkey with ⟨hrun, _, hat⟩ | ⟨e0, y, _, _, hrun, hRv, hat, _⟩
  · rw [hrun]
  · exfalso
    obtain ⟨j, e, hj⟩ := hr.keys _ (Maps.has_true_of_atKey hat)
    have e' : k = j := by injection e
    have h1 := hat .nil
    rw [e', hr.at_, hk j e'] at h1
    unfold heldR at hRv
    cases hRv
    cases h1

def putAt (f : Nat → Option Value) (k : Nat) (v : Value) : Nat → Option Value := fun j => if j = k then some v else f j
/-- 'm[k] = v'. -/
theorem IntMap.put {T E : TypeId} {w : World} {b : Nat} {f : Nat → Option Value} (h : IntMap P kT w b f) (hkT : P.underlying kT = some (.int .i64)) (hT : P.underlying T = some (.map kT E)) (k : Nat) (hk : k < 4096) (v : Value) :
    ∃ w', (Instr.mapUpdate T (.map (some b)) (.int .i64 k) v).run P w = .ok () w' ∧ IntMap P kT w' b (putAt f k v) ∧ w.grownBy w' (some b) := by
  obtain ⟨D, ho, hr⟩ := h
  have hkey : keyOf P kT (.int .i64 k) = some (.int .i64 k) := Maps.keyOf_int_mk hkT (wf_nat k (by omega))
  have hmap : Maps.IsMap D := by
    obtain ⟨es, clock, _, _, _, rfl⟩ := ho; exact ⟨_, rfl⟩
  have hkl : WideAt.IsKeyLit (.int .i64 k) := (Maps.int_keyed hkT).key hkey
  obtain ⟨w', hrun, h1, h2⟩ := ho.update (Maps.int_keyed hkT) hT (by unfold maxLen; omega) hkey (val := v) (d := .held v) (ps := []) rfl
  have hr' : MapReads (D.put (.int .i64 k) (.held v)) (putAt f k v) := by
    refine ⟨fun j zd => ?_, fun kl hh => ?_⟩
    · by_cases hj : j = k
      · subst hj
        rw [Maps.atKey_put_same hmap hkl]
        simp [putAt]
      · rw [Maps.atKey_put_other (by intro e; apply hj; have : (j : Int) = k := by injection e
                                     omega), hr.at_]
        simp [putAt, hj]
    · by_cases hkk : kl = .int .i64 k
      · exact ⟨k, hkk, hk⟩
      · rw [Maps.has_put_other hkk] at hh
        exact hr.keys kl hh
  exact ⟨w', hrun, ⟨_, ownsMap_shrink h1 (hr'.size hkT h1), hr'⟩, h2⟩

/-- 'clear(m)'. -/
theorem IntMap.clear {T E : TypeId} {w : World} {b : Nat} {f : Nat → Option Value} (h : IntMap P kT w b f) (hT : P.underlying T = some (.map kT E)) (ty : TypeId) :
    ∃ w', (Builtin.clear_ #[T] ty #[.map (some b)]).run P w = .ok (.tuple #[]) w' ∧ IntMap P kT w' b (fun _ => none) ∧ w.grownBy w' (some b) := by
  obtain ⟨D, ⟨es, clock, hb, F, hs, rfl⟩, hr⟩ := h
  refine ⟨setBlock w b (.map #[] clock), ?_, ⟨.map [], ⟨#[], clock, heap_setBlock_same hb _, ⟨by simp, ?_, by simp⟩, by simp, rfl⟩, fun _ _ => rfl, fun kl h => by cases h⟩, ⟨rfl, rfl, rfl, by simp [setBlock], fun i _ hi => heap_setBlock_other hb _ (fun e => hi (by rw [e]))⟩⟩
  · have hset : (setObj b (.map #[] clock)).run P w = .ok () (setBlock w b (.map #[] clock)) := run_setObj_map _ hb
    simp [Builtin.clear_, run_underlying hT, MapKept.run_getObj_map hb, hset, Result.andThen]
  · exact ⟨by simp, by simp⟩
/-- A new block with the same entries. -/
theorem IntMap.copied {w : World} {b : Nat} {f : Nat → Option Value} (h : IntMap P kT w b f) : ∃ es clock, w.heap[b]? = some (.map es clock) ∧ IntMap P kT (w.alloc (.map es clock)) w.heap.size f := by
  obtain ⟨D, ⟨es, clock, hb, F, hs, hD⟩, hr⟩ := h
  exact ⟨es, clock, hb, D, ⟨es, clock, (MapKept.heap_alloc w _).1, F, hs, hD⟩, hr⟩

theorem wpList_insert {T E : TypeId} {w : World} {ops : Array Oper} {rest : List Oper} {o : Oper} {a : Act} {Q : Exit → Act → World → Prop} {b : Nat} {f : Nat → Option Value} (hg : o.guard = none) (m x v : Operand) (hop : o.op = .insert T m x v)
    (hkT : P.underlying kT = some (.int .i64)) (hT : P.underlying T = some (.map kT E)) (h : IntMap P kT w b f) (hm : a.eval m = .map (some b)) (k : Nat) (hk : k < 4096) (hx : a.eval x = .int .i64 k)
    (hK : ∀ w', IntMap P kT w' b (putAt f k (a.eval v)) → w.grownBy w' (some b) → wpList P ops Q rest (a.put o.dst undef) w') : wpList P ops Q (o :: rest) a w := by
  refine wpList_plain hg fun K hK' => ?_
  obtain ⟨w', hrun, r1, r2⟩ := h.put hkT hT k hk (a.eval v)
  unfold Oper.wp
  simp only [execOp, hop, hm, hx, hrun, Sem.run_bind, Sem.run_pure, Result.andThen_ok]
  exact hK' _ _ (hK w' r1 r2)
theorem wpList_update {T E : TypeId} {w : World} {ops : Array Oper} {rest : List Oper} {o : Oper} {a : Act} {Q : Exit → Act → World → Prop} {b : Nat} {f : Nat → Option Value} (hg : o.guard = none) (m x v : Operand) (hop : o.op = .mapUpdate T m x v)
    (hkT : P.underlying kT = some (.int .i64)) (hT : P.underlying T = some (.map kT E)) (h : IntMap P kT w b f) (hm : a.eval m = .map (some b)) (k : Nat) (hk : k < 4096) (hx : a.eval x = .int .i64 k)
    (hK : ∀ w', IntMap P kT w' b (putAt f k (a.eval v)) → w.grownBy w' (some b) → wpList P ops Q rest (a.put o.dst undef) w') : wpList P ops Q (o :: rest) a w := by
  refine wpList_plain hg fun K hK' => ?_
  obtain ⟨w', hrun, r1, r2⟩ := h.put hkT hT k hk (a.eval v)
  unfold Oper.wp
  simp only [execOp, hop, hm, hx, hrun, Sem.run_bind, Sem.run_pure, Result.andThen_ok]
  exact hK' _ _ (hK w' r1 r2)
theorem wpList_look_none {T E : TypeId} {w : World} {ops : Array Oper} {rest : List Oper} {o : Oper} {a : Act} {Q : Exit → Act → World → Prop} {b : Nat} {f : Nat → Option Value} (hg : o.guard = none) (m x : Operand) (c : Bool) (hop : o.op = .lookup T m x c)
    (hkT : P.underlying kT = some (.int .i64)) (hT : P.underlying T = some (.map kT E)) {z : Value} (hz : ∀ w, (zeroValue E).run P w = .ok z w) (h : IntMap P kT w b f) (hm : a.eval m = .map (some b)) (k : Int) (hw : (Lit.int .i64 k).wf = true) (hk : ∀ j : Nat, k = j → f j = none) (hx : a.eval x = .int .i64 k)
    (hK : wpList P ops Q rest (a.put o.dst (if c then .tuple #[z, .bool false] else z)) w) : wpList P ops Q (o :: rest) a w := by
  refine wpList_plain hg fun K hK' => ?_
  unfold Oper.wp
  simp only [execOp, hop, hm, hx, h.look_none hkT hT hz k hw hk c, Sem.run_bind, Sem.run_pure, Result.andThen_ok]
  exact hK' _ _ hK
theorem wpList_look {T E : TypeId} {w : World} {ops : Array Oper} {rest : List Oper} {o : Oper} {a : Act} {Q : Exit → Act → World → Prop} {b : Nat} {f : Nat → Option Value} (hg : o.guard = none) (m x : Operand) (c : Bool) (hop : o.op = .lookup T m x c)
    (hkT : P.underlying kT = some (.int .i64)) (hT : P.underlying T = some (.map kT E)) {z : Value} (hz : ∀ w, (zeroValue E).run P w = .ok z w) (h : IntMap P kT w b f) (hm : a.eval m = .map (some b)) (k : Nat) (hk : k ≤ 9223372036854775807) (hx : a.eval x = .int .i64 k)
    (hK : wpList P ops Q rest (a.put o.dst (if c then .tuple #[(f k).getD z, .bool (f k).isSome] else (f k).getD z)) w) : wpList P ops Q (o :: rest) a w := by
  refine wpList_plain hg fun K hK' => ?_
  unfold Oper.wp
  simp only [execOp, hop, hm, hx, h.look hkT hT hz k hk c, Sem.run_bind, Sem.run_pure, Result.andThen_ok]
  exact hK' _ _ hK
end
end Go.Proofs.YtgcfgheamaoceaaGreatDoor
/- Maps whose keys are texts, whatever their elements (at most 5000): what each reads as is a function from texts to values; what each operation does. Of no program. -/
namespace Go.Proofs.YtgcfgheamaoceaaGreatDoor
open Go.ChangeMaps Go.MapKept Go.RowKit
open Go.WideElems (Fit rd rg pl rd_val)

abbrev Txt := List UInt8
theorem nodup_le {α : Type} [DecidableEq α] : ∀ (l m : List α), l.Nodup → (∀ x ∈ l, x ∈ m) → l.length ≤ m.length
  | [], _, _, _ => by simp
  | x :: l, m, hn, h => by
    have h1 := nodup_le l (m.erase x) (List.nodup_cons.1 hn).2 (fun y hy => by
      have hne : y ≠ x := fun e => (List.nodup_cons.1 hn).1 (e ▸ hy)
      exact (List.mem_erase_of_ne hne).2 (h y (by simp [hy])))
    have h2 := List.length_erase_of_mem (h x (by simp))
    have h3 := List.length_pos_of_mem (h x (by simp))
    simp only [List.length_cons]
    omega

structure SReads (D : VD) (f : Txt → Option Value) : Prop where
  at_ : ∀ (k : Txt) (zd : VD), D.atKey (.string k) zd = match f k with | some v => .held v | none => zd
  keys : ∀ kl, Maps.has D kl = true → ∃ k : Txt, kl = .string k

theorem SReads.has {D : VD} {f : Txt → Option Value} (h : SReads D f) (k : Txt) : Maps.has D (.string k) = (f k).isSome := by
  cases hf : f k with
  | some v => exact Maps.has_true_of_atKey (y := .held v) (fun z => by rw [h.at_, hf])
  | none => exact Maps.has_false_of_atKey (fun z => by rw [h.at_, hf])

/-- All that is there lies among these few. -/
def Few (f : Txt → Option Value) : Prop := ∃ L : List Txt, L.length ≤ 5000 ∧ ∀ k, (f k).isSome = true → k ∈ L

section
variable {P : Program} {kT : TypeId}

theorem SReads.size {w : World} {b n : Nat} {D : VD} {f : Txt → Option Value} (h : SReads D f) (hF : Few f) (hk : P.underlying kT = some .string) (hown : w.ownsMap P kT heldR b n D) : Maps.size D ≤ 5000 := by
  obtain ⟨es, rfl, hp, hkl⟩ := hown.entries (Maps.string_keyed hk)
  obtain ⟨L, hL, hm⟩ := hF
  rw [Maps.size_eq]
  have hstr : ∀ p ∈ es, ∃ k : Txt, p.1 = .string k ∧ k ∈ L := fun p hp => by
    have h1 : Maps.has (.map es) p.1 = true := by
      rw [Maps.has_eq, List.any_eq_true]
      exact ⟨p, hp, WideAt.sameKey_self (hkl p hp)⟩
    obtain ⟨k, e⟩ := h.keys p.1 h1
    rw [e, h.has] at h1
    exact ⟨k, e, hm k h1⟩
  have := nodup_le (es.map fun p => match p.1 with | .string k => k | _ => []) L (by
    rw [List.nodup_iff_pairwise_ne, List.pairwise_map]
    refine hp.imp_of_mem (fun {p q} hp hq hne e => hne ?_)
    obtain ⟨a, ha, _⟩ := hstr p hp
    obtain ⟨c, hc, _⟩ := hstr q hq
    rw [ha, hc] at e ⊢
    simp at e
    rw [e]) (fun x hx => by
    obtain ⟨p, hp, rfl⟩ := List.mem_map.1 hx
    obtain ⟨a, ha, hlt⟩ := hstr p hp
    rw [ha]; simpa using hlt)
  simp at this
  omega

/-- Block b is a map that reads as f. -/
def SMap (P : Program) (kT : TypeId) (w : World) (b : Nat) (f : Txt → Option Value) : Prop := ∃ D : VD, w.ownsMap P kT heldR b 5000 D ∧ SReads D f

theorem SMap.lt {w : World} {b : Nat} {f : Txt → Option Value} (h : SMap P kT w b f) : b < w.heap.size := by
  obtain ⟨D, ho, _⟩ := h; exact ho.lt
theorem SMap.kept {w w' : World} {b : Nat} {f : Txt → Option Value} {row : Option Nat} (h : SMap P kT w b f) (hg : w.grownBy w' row) (hne : some b ≠ row) : SMap P kT w' b f := by
  obtain ⟨D, ho, hr⟩ := h; exact ⟨D, ho.kept hg hne, hr⟩
theorem SMap.at_block {w w' : World} {b : Nat} {f : Txt → Option Value} (h : SMap P kT w b f) (he : w'.heap[b]? = w.heap[b]?) : SMap P kT w' b f := by
  obtain ⟨D, ⟨es, clock, hb, F, hs, hD⟩, hr⟩ := h; exact ⟨D, ⟨es, clock, he.trans hb, F, hs, hD⟩, hr⟩
theorem SMap.below {w w' : World} {b n : Nat} {f : Txt → Option Value} (h : SMap P kT w b f) (hb : Below n w w') (hn : b < n) : SMap P kT w' b f := h.at_block (hb.block b hn)
theorem SMap.alloc {w : World} {b : Nat} {f : Txt → Option Value} (h : SMap P kT w b f) (o : Obj) : SMap P kT (w.alloc o) b f := h.kept (World.grownBy_alloc w o none) (by simp)
theorem SMap.drew {w : World} {b : Nat} {f : Txt → Option Value} (h : SMap P kT w b f) : SMap P kT w.drew b f := h
theorem SMap.made (w : World) : SMap P kT (w.alloc (.map #[] 0)) w.heap.size (fun _ => none) :=
  ⟨.map [], (World.ownsMap_made w P kT heldR).mono (by omega), fun _ _ => rfl, fun kl h => by cases h⟩
theorem SMap.eq {w : World} {b : Nat} {f g : Txt → Option Value} (h : SMap P kT w b f) (e : ∀ k, f k = g k) : SMap P kT w b g := (funext e : f = g) ▸ h

/-- 'm[k]', 'v, ok := m[k]'. -/
theorem SMap.look {T E : TypeId} {w : World} {b : Nat} {f : Txt → Option Value} (h : SMap P kT w b f) (hkT : P.underlying kT = some .string) (hT : P.underlying T = some (.map kT E)) {z : Value} (hz : ∀ w, (zeroValue E).run P w = .ok z w) (s : ByteArray) (hk : s.size ≤ maxLen) (c : Bool) :
    (Instr.lookup T (.map (some b)) (.string s) c).run P w = .ok (if c then .tuple #[(f s.data.toList).getD z, .bool (f s.data.toList).isSome] else (f s.data.toList).getD z) w := by
  obtain ⟨D, ⟨es, clock, hb, F, hs, rfl⟩, hr⟩ := h
  have hkey : keyOf P kT (.string s) = some (.string s.data.toList) := Go.WideMaps.keyOf_string_mk hkT hk
  rcases Maps.fit_look c (Maps.string_keyed hkT) hT (hz w) hb F hkey with ⟨hrun, _, hat⟩ | ⟨e0, y, _, _, hrun, hRv, hat, _⟩
  · have hf : f s.data.toList = none := by
      have h1 := Maps.has_false_of_atKey hat
      rw [hr.has] at h1
      cases hf : f s.data.toList with
      | none => rfl
      | some v => rw [hf] at h1; cases h1
    rw [hrun, hf]; rfl
  · have hf : f s.data.toList = some e0.val := by
      have h1 := hat .nil
      rw [hr.at_] at h1
      unfold heldR at hRv
      cases hRv
      cases hf : f s.data.toList with
      | none => rw [hf] at h1; cases h1
      | some v => rw [hf] at h1; injection h1 with h1; rw [h1]
    rw [hrun, hf]; rfl

def putT (f : Txt → Option Value) (k : Txt) (v : Value) : Txt → Option Value := fun j => if j = k then some v else f j
def delT (f : Txt → Option Value) (k : Txt) : Txt → Option Value := fun j => if j = k then none else f j
/-- 'm[k] = v'. -/
theorem SMap.put {T E : TypeId} {w : World} {b : Nat} {f : Txt → Option Value} (h : SMap P kT w b f) (hkT : P.underlying kT = some .string) (hT : P.underlying T = some (.map kT E)) (s : ByteArray) (hk : s.size ≤ maxLen) (v : Value) (hF : Few (putT f s.data.toList v)) :
    ∃ w', (Instr.mapUpdate T (.map (some b)) (.string s) v).run P w = .ok () w' ∧ SMap P kT w' b (putT f s.data.toList v) ∧ w.grownBy w' (some b) := by
  obtain ⟨D, ho, hr⟩ := h
  have hkey : keyOf P kT (.string s) = some (.string s.data.toList) := Go.WideMaps.keyOf_string_mk hkT hk
  have hmap : Maps.IsMap D := by
    obtain ⟨es, clock, _, _, _, rfl⟩ := ho; exact ⟨_, rfl⟩
  have hkl : WideAt.IsKeyLit (.string s.data.toList) := (Maps.string_keyed hkT).key hkey
  obtain ⟨w', hrun, h1, h2⟩ := ho.update (Maps.string_keyed hkT) hT (by unfold maxLen; omega) hkey (val := v) (d := .held v) (ps := []) rfl
  have hr' : SReads (D.put (.string s.data.toList) (.held v)) (putT f s.data.toList v) := by
    refine ⟨fun j zd => ?_, fun kl hh => ?_⟩
    · by_cases hj : j = s.data.toList
      · subst hj
        rw [Maps.atKey_put_same hmap hkl]
        simp [putT]
      · rw [Maps.atKey_put_other (by intro e; apply hj; injection e), hr.at_]
        simp [putT, hj]
    · by_cases hkk : kl = .string s.data.toList
      · exact ⟨_, hkk⟩
      · rw [Maps.has_put_other hkk] at hh
        exact hr.keys kl hh
  exact ⟨w', hrun, ⟨_, ownsMap_shrink h1 (hr'.size hF hkT h1), hr'⟩, h2⟩

/-- 'delete(m, k)'. -/
theorem SMap.drop {T E : TypeId} {w : World} {b : Nat} {f : Txt → Option Value} (h : SMap P kT w b f) (hkT : P.underlying kT = some .string) (hT : P.underlying T = some (.map kT E)) (s : ByteArray) (hk : s.size ≤ maxLen) (ty : TypeId) :
    ∃ w', (Builtin.delete_ #[T, kT] ty #[.map (some b), .string s]).run P w = .ok (.tuple #[]) w' ∧ SMap P kT w' b (delT f s.data.toList) ∧ w.grownBy w' (some b) := by
  obtain ⟨D, ho, hr⟩ := h
  have hkey : keyOf P kT (.string s) = some (.string s.data.toList) := Go.WideMaps.keyOf_string_mk hkT hk
  obtain ⟨w', hrun, h1, h2⟩ := ho.drop (Maps.string_keyed hkT) hT hkey ty
  refine ⟨w', hrun, ⟨_, h1, fun j zd => ?_, fun kl hh => ?_⟩, h2.grown⟩
  · by_cases hj : j = s.data.toList
    · subst hj; rw [Maps.atKey_del_same]; simp [delT]
    · rw [Maps.atKey_del_other (by intro e; apply hj; injection e), hr.at_]
      simp [delT, hj]
  · by_cases hkk : kl = .string s.data.toList
    · rw [hkk, Maps.has_del_same] at hh; cases hh
    · rw [Maps.has_del_other hkk] at hh
      exact hr.keys kl hh

theorem wpList_sput {T E : TypeId} {w : World} {ops : Array Oper} {rest : List Oper} {o : Oper} {a : Act} {Q : Exit → Act → World → Prop} {b : Nat} {f : Txt → Option Value} (hg : o.guard = none) (m x v : Operand) (hop : o.op = .mapUpdate T m x v)
    (hkT : P.underlying kT = some .string) (hT : P.underlying T = some (.map kT E)) (h : SMap P kT w b f) (hm : a.eval m = .map (some b)) (s : ByteArray) (hk : s.size ≤ maxLen) (hx : a.eval x = .string s) (val : Value) (hv : a.eval v = val) (hF : Few (putT f s.data.toList val))
    (hK : ∀ w', SMap P kT w' b (putT f s.data.toList val) → w.grownBy w' (some b) → wpList P ops Q rest (a.put o.dst undef) w') : wpList P ops Q (o :: rest) a w := by
  refine wpList_plain hg fun K hK' => ?_
  obtain ⟨w', hrun, r1, r2⟩ := h.put hkT hT s hk val hF
  unfold Oper.wp
  simp only [execOp, hop, hm, hx, hv, hrun, Sem.run_bind, Sem.run_pure, Result.andThen_ok]
  exact hK' _ _ (hK w' r1 r2)
theorem wpList_slook {T E : TypeId} {w : World} {ops : Array Oper} {rest : List Oper} {o : Oper} {a : Act} {Q : Exit → Act → World → Prop} {b : Nat} {f : Txt → Option Value} (hg : o.guard = none) (m x : Operand) (c : Bool) (hop : o.op = .lookup T m x c)
    (hkT : P.underlying kT = some .string) (hT : P.underlying T = some (.map kT E)) {z : Value} (hz : ∀ w, (zeroValue E).run P w = .ok z w) (h : SMap P kT w b f) (hm : a.eval m = .map (some b)) (s : ByteArray) (hk : s.size ≤ maxLen) (hx : a.eval x = .string s)
    (hK : wpList P ops Q rest (a.put o.dst (if c then .tuple #[(f s.data.toList).getD z, .bool (f s.data.toList).isSome] else (f s.data.toList).getD z)) w) : wpList P ops Q (o :: rest) a w := by
  refine wpList_plain hg fun K hK' => ?_
  unfold Oper.wp
  simp only [execOp, hop, hm, hx, h.look hkT hT hz s hk c, Sem.run_bind, Sem.run_pure, Result.andThen_ok]
  exact hK' _ _ hK
theorem wpList_sdrop {T E : TypeId} {w : World} {ops : Array Oper} {rest : List Oper} {o : Oper} {a : Act} {Q : Exit → Act → World → Prop} {b : Nat} {f : Txt → Option Value} (hg : o.guard = none) (m x : Operand) (hop : o.op = Op.call { callee := Callee.builtin Builtin.delete, args := #[m, x], argTypes := #[T, kT] })
    (hkT : P.underlying kT = some .string) (hT : P.underlying T = some (.map kT E)) (h : SMap P kT w b f) (hm : a.eval m = .map (some b)) (s : ByteArray) (hk : s.size ≤ maxLen) (hx : a.eval x = .string s)
    (hK : ∀ w', SMap P kT w' b (delT f s.data.toList) → w.grownBy w' (some b) → wpList P ops Q rest (a.put o.dst (.tuple #[])) w') : wpList P ops Q (o :: rest) a w := by
  refine wpList_plain hg fun K hK' => ?_
  obtain ⟨w', hrun, r1, r2⟩ := h.drop hkT hT s hk o.type
  unfold Oper.wp
  simp [execOp, hop, resolve, invoke, builtin, hm, hx, hrun, Result.andThen]
  exact hK' _ _ (hK w' r1 r2)
end
end Go.Proofs.YtgcfgheamaoceaaGreatDoor
/- Layer 14, of no program: entries; what of them lies behind a path of levels; which of them meet what is left of a name. -/
namespace Go.Proofs.YtgcfgheamaoceaaGreatDoor

/-- An entry: its Filter, its Client, its Qos. -/
structure Sb where
  f : List UInt8
  c : List UInt8
  q : Nat
deriving DecidableEq

theorem filter_or_perm {α : Type} (a b : α → Bool) : ∀ l : List α, (∀ x ∈ l, ¬ (a x = true ∧ b x = true)) → (l.filter fun x => a x || b x).Perm (l.filter a ++ l.filter b)
  | [], _ => .nil
  | x :: l, h => by
    have ih := filter_or_perm a b l fun y hy => h y (by simp [hy])
    have hx := h x (by simp)
    cases ha : a x with
    | true =>
      have hb : b x = false := by
        cases hb : b x with
        | false => rfl
        | true => exact absurd ⟨ha, hb⟩ hx
      simp only [List.filter_cons, ha, hb, Bool.true_or, if_true, Bool.false_eq_true, if_false, List.cons_append]
      exact ih.cons x
    | false =>
      cases hb : b x with
      | true =>
        simp only [List.filter_cons, ha, hb, Bool.or_true, if_true, Bool.false_eq_true, if_false]
        exact (ih.cons x).trans List.perm_middle.symm
      | false =>
        simp only [List.filter_cons, ha, hb, Bool.or_self, Bool.false_eq_true, if_false]
        exact ih

theorem filt_no {α : Type} (l : List α) : (l.filter fun _ => false) = [] := List.filter_eq_nil_iff.2 fun _ _ h => by cases h
abbrev Pth := List (List UInt8)
/-- Lies an entry at a path, or further on? -/
def under (p : Pth) (s : Sb) : Bool := decide (p <+: lv s.f)
theorem under_iff {p : Pth} {s : Sb} : under p s = true ↔ ∃ r, lv s.f = p ++ r := by
  unfold under
  rw [decide_eq_true_eq]
  exact ⟨fun ⟨r, h⟩ => ⟨r, h.symm⟩, fun ⟨r, h⟩ => ⟨r, h.symm⟩⟩
/-- Do the levels that are left meet what is left of a name? -/
def gmm (o : Bool) (r N : Pth) : Bool := (o || !sFst r) && mt r N
/-- Is an entry told by a walk that stands at a path? -/
def got (o : Bool) (p N : Pth) (s : Sb) : Bool := under p s && gmm o ((lv s.f).drop p.length) N

theorem got_of {o : Bool} {p N r : Pth} {s : Sb} (h : lv s.f = p ++ r) : got o p N s = gmm o r N := by
  unfold got
  rw [under_iff.2 ⟨r, h⟩, h, List.drop_left, Bool.true_and]
theorem got_not {o : Bool} {p N : Pth} {s : Sb} (h : ∀ r, lv s.f ≠ p ++ r) : got o p N s = false := by
  unfold got
  cases hu : under p s with
  | false => rfl
  | true =>
    obtain ⟨r, hr⟩ := under_iff.1 hu
    exact absurd hr (h r)
theorem got_on {o : Bool} {p N r : Pth} {x y : List UInt8} {s : Sb} (h : lv s.f = p ++ x :: r) : got o (p ++ [y]) N s = (decide (x = y) && gmm o r N) := by
  by_cases e : x = y
  · subst e
    rw [got_of (r := r) (by rw [h]; simp)]
    simp
  · rw [got_not (fun r' h' => by
      rw [h, List.append_assoc] at h'
      have := List.append_cancel_left h'
      simp at this
      exact e this.1)]
    simp [e]
theorem got_end {o : Bool} {p N : Pth} {y : List UInt8} {s : Sb} (h : lv s.f = p) : got o (p ++ [y]) N s = false := got_not fun r h' => by
  rw [h] at h'
  have := congrArg List.length h'
  simp at this
theorem okF_tail {x : List UInt8} {r : Pth} (h : okF (x :: r) = true) : okF r = true := by
  unfold okF at h; rw [Bool.and_eq_true] at h; exact h.2
theorem okF_app {p r : Pth} (h : okF (p ++ r) = true) : okF r = true := by
  induction p with
  | nil => exact h
  | cons x p ih => exact ih (okF_tail h)
theorem okF_hash {r : Pth} (h : okF ([35] :: r) = true) : r = [] := by
  unfold okF at h
  rw [Bool.and_eq_true] at h
  have h1 := h.1
  cases r with
  | nil => rfl
  | cons x r => exact absurd h1 (by simp [hasS, sgn])
/-- Nothing is left of the name: what is told is what ends here, and behind a #. -/
theorem got_nil {o : Bool} {p : Pth} {s : Sb} (hk : okF (lv s.f) = true) : got o p [] s = ((o && got true (p ++ [[35]]) [] s) || decide (lv s.f = p)) := by
  cases hu : under p s with
  | false =>
    have h0 : ∀ r, lv s.f ≠ p ++ r := fun r hr => by rw [under_iff.2 ⟨r, hr⟩] at hu; cases hu
    rw [got_not h0, got_not (fun r hr => h0 ([35] :: r) (by rw [hr]; simp))]
    simp only [Bool.and_false, Bool.false_or]
    exact (decide_eq_false fun e => h0 [] (by rw [e]; simp)).symm
  | true =>
    obtain ⟨r, hr⟩ := under_iff.1 hu
    rw [got_of hr]
    cases r with
    | nil =>
      have e : lv s.f = p := by rw [hr, List.append_nil]
      rw [got_end e, decide_eq_true e]
      cases o <;> rfl
    | cons x r =>
      have hne : ¬ lv s.f = p := fun e => by
        rw [hr] at e
        have := congrArg List.length e
        simp at this
      rw [got_on hr, decide_eq_false hne, Bool.or_false]
      have hk2 : okF (x :: r) = true := okF_app (p := p) (hr ▸ hk)
      by_cases e : x = [35]
      · subst e
        rw [okF_hash hk2]
        cases o <;> rfl
      · have : (x == [35]) = false := by simpa using e
        simp [gmm, mt, this, e]
theorem sFst_cons (x : List UInt8) (r : Pth) : sFst (x :: r) = (x == [43] || x == [35]) := rfl
/-- Some is left: what is told lies behind a #, behind a +, behind the very level. -/
theorem got_cons {o : Bool} {p N : Pth} {x : List UInt8} {s : Sb} (hx : hasS x = false) (hk : okF (lv s.f) = true) :
    got o p (x :: N) s = ((o && got true (p ++ [[35]]) [] s) || ((o && got true (p ++ [[43]]) N s) || got true (p ++ [x]) N s)) := by
  have x1 : x ≠ [43] := hasS_plus hx
  have x2 : x ≠ [35] := hasS_hash hx
  cases hu : under p s with
  | false =>
    have h0 : ∀ r, lv s.f ≠ p ++ r := fun r hr => by rw [under_iff.2 ⟨r, hr⟩] at hu; cases hu
    rw [got_not h0, got_not (fun r hr => h0 ([35] :: r) (by rw [hr]; simp)), got_not (fun r hr => h0 ([43] :: r) (by rw [hr]; simp)), got_not (fun r hr => h0 (x :: r) (by rw [hr]; simp))]
    simp
  | true =>
    obtain ⟨r, hr⟩ := under_iff.1 hu
    rw [got_of hr]
    cases r with
    | nil =>
      have e : lv s.f = p := by rw [hr, List.append_nil]
      rw [got_end e, got_end e, got_end e]
      simp [gmm, mt]
    | cons y r =>
      rw [got_on hr, got_on hr, got_on hr]
      have hk2 : okF (y :: r) = true := okF_app (p := p) (hr ▸ hk)
      by_cases e : y = [35]
      · subst e
        have e2 : ¬ ([35] : List UInt8) = x := fun e => x2 e.symm
        rw [okF_hash hk2]
        cases o <;> simp [gmm, mt, sFst, e2]
      · by_cases e3 : y = [43]
        · subst e3
          have e2 : ¬ ([43] : List UInt8) = x := fun e => x1 e.symm
          cases o <;> simp [gmm, mt, sFst, e2]
        · have b1 : (y == [35]) = false := by simpa using e
          have b2 : (y == [43]) = false := by simpa using e3
          have b3 : (y == x) = decide (y = x) := by by_cases hyx : y = x <;> simp [hyx]
          simp [gmm, mt, sFst, b1, b2, e, e3, b3]
/-- What is told of some entries where nothing is left. -/
theorem got_nil_perm {o : Bool} {p : Pth} {g : List Sb} (hk : ∀ s ∈ g, okF (lv s.f) = true) :
    (g.filter (got o p [])).Perm ((if o then g.filter (got true (p ++ [[35]]) []) else []) ++ g.filter fun s => decide (lv s.f = p)) := by
  have e : g.filter (got o p []) = g.filter fun s => (o && got true (p ++ [[35]]) [] s) || decide (lv s.f = p) := List.filter_congr fun s hs => got_nil (hk s hs)
  rw [e]
  refine (filter_or_perm _ _ g fun s hs h => ?_).trans ?_
  · rw [got_end (of_decide_eq_true h.2)] at h
    simp at h
  · cases o with
    | true => simp only [Bool.true_and, if_true]; exact .refl _
    | false => simp [filt_no]
theorem got_cons_perm {o : Bool} {p N : Pth} {x : List UInt8} {g : List Sb} (hx : hasS x = false) (hk : ∀ s ∈ g, okF (lv s.f) = true) :
    (g.filter (got o p (x :: N))).Perm ((if o then g.filter (got true (p ++ [[35]]) []) else []) ++ ((if o then g.filter (got true (p ++ [[43]]) N) else []) ++ g.filter (got true (p ++ [x]) N))) := by
  have e : g.filter (got o p (x :: N)) = g.filter fun s => (o && got true (p ++ [[35]]) [] s) || ((o && got true (p ++ [[43]]) N s) || got true (p ++ [x]) N s) := List.filter_congr fun s hs => got_cons hx (hk s hs)
  have apart : ∀ (s : Sb) (y z : List UInt8) (o1 o2 : Bool) (M1 M2 : Pth), y ≠ z → got o1 (p ++ [y]) M1 s = true → got o2 (p ++ [z]) M2 s = true → False := fun s y z o1 o2 M1 M2 hne h1 h2 => by
    unfold got at h1 h2
    rw [Bool.and_eq_true] at h1 h2
    obtain ⟨r1, e1⟩ := under_iff.1 h1.1
    obtain ⟨r2, e2⟩ := under_iff.1 h2.1
    rw [e1, List.append_assoc, List.append_assoc] at e2
    have := List.append_cancel_left e2
    simp at this
    exact hne this.1
  have x1 : x ≠ [43] := hasS_plus hx
  have x2 : x ≠ [35] := hasS_hash hx
  rw [e]
  refine (filter_or_perm _ _ g fun s hs h => ?_).trans ?_
  · obtain ⟨h1, h2⟩ := h
    rw [Bool.and_eq_true] at h1
    rw [Bool.or_eq_true, Bool.and_eq_true] at h2
    rcases h2 with h2 | h2
    · exact apart s _ _ _ _ _ _ (by decide) h1.2 h2.2
    · exact apart s _ _ _ _ _ _ (fun e => x2 e.symm) h1.2 h2
  · refine List.Perm.append ?_ ((filter_or_perm _ _ g fun s hs h => ?_).trans ?_)
    · cases o with
      | true => simp only [Bool.true_and, if_true]; exact .refl _
      | false => simp [filt_no]
    · obtain ⟨h1, h2⟩ := h
      rw [Bool.and_eq_true] at h1
      exact apart s _ _ _ _ _ _ (fun e => x1 e.symm) h1.2 h2
    · cases o with
      | true => simp only [Bool.true_and, if_true]; exact .refl _
      | false => simp [filt_no]
/-- The whole: at no level, told are the filters that meet the name. -/
theorem got_meets {n : List UInt8} {s : Sb} : got (!dol n) [] (lv n) s = meetsL s.f n := by
  rw [got_of (r := lv s.f) rfl]
  unfold gmm meetsL
  cases dol n <;> simp
end Go.Proofs.YtgcfgheamaoceaaGreatDoor
/- Layer 14: a tree of maps in memory: where its branches lie (by the levels that lead to them), what ends there, how much ends there or further on. -/
namespace Go.Proofs.YtgcfgheamaoceaaGreatDoor
open Go.RowKit

def str (l : List UInt8) : ByteArray := ⟨l.toArray⟩
theorem str_toList (l : List UInt8) : (str l).data.toList = l := by simp [str]
theorem str_of (b : ByteArray) : str b.data.toList = b := rfl
def sbV (s : Sb) : Value := .agg #[.string (str s.f), .string (str s.c), .int .i64 (s.q : Int)]
def noSub : Value := .agg #[.string ⟨#[]⟩, .string ⟨#[]⟩, .int .i64 0]
/-- What a call leaves: all blocks that lay but those that F names. -/
structure Kp (F : Nat → Prop) (w w' : World) : Prop where
  low : Below 0 w w'
  block : ∀ k, k < w.heap.size → ¬ F k → w'.heap[k]? = w.heap[k]?
theorem Kp.refl (F : Nat → Prop) (w : World) : Kp F w w := ⟨Below.refl _ w, fun _ _ _ => rfl⟩
theorem Kp.size {F : Nat → Prop} {w w' : World} (h : Kp F w w') : w.heap.size ≤ w'.heap.size := h.low.size
theorem Kp.trans {F : Nat → Prop} {a b c : World} (h : Kp F a b) (g : Kp F b c) : Kp F a c := ⟨h.low.trans g.low, fun k hk hF => (g.block k (Nat.lt_of_lt_of_le hk h.size) hF).trans (h.block k hk hF)⟩
theorem Kp.trans' {F G : Nat → Prop} {a b c : World} (h : Kp F a b) (g : Kp G b c) (hG : ∀ k, k < a.heap.size → G k → F k) : Kp F a c := ⟨h.low.trans g.low, fun k hk hF => (g.block k (Nat.lt_of_lt_of_le hk h.size) fun hg => hF (hG k hk hg)).trans (h.block k hk hF)⟩
theorem Kp.of_below {F : Nat → Prop} {a b : World} (h : Below a.heap.size a b) : Kp F a b := ⟨h.mono (Nat.zero_le _), fun k hk _ => h.block k hk⟩
theorem Kp.of_grown {F : Nat → Prop} {a b : World} {row : Nat} (h : a.grownBy b (some row)) (hF : F row) : Kp F a b := by
  obtain ⟨h1, h2, h3, h4, h5⟩ := h
  exact ⟨⟨h1, h2, h3, h4, fun i hi => absurd hi (Nat.not_lt_zero i)⟩, fun k hk hk2 => h5 k hk fun e => hk2 (by injection e with e; exact e ▸ hF)⟩
theorem Kp.drew {F : Nat → Prop} {a b : World} (h : Kp F a b) : Kp F a b.drew := ⟨⟨h.low.os, h.low.tape, h.low.output, h.low.size, h.low.block⟩, h.block⟩
theorem Kp.below {F : Nat → Prop} {a b : World} {n : Nat} (h : Kp F a b) (hn : n ≤ a.heap.size) (hF : ∀ k, F k → n ≤ k) : Below n a b :=
  ⟨h.low.os, h.low.tape, h.low.output, h.low.size, fun i hi => h.block i (Nat.lt_of_lt_of_le hi hn) fun hf => absurd (hF i hf) (Nat.not_le.2 hi)⟩
theorem Kp.cell {F : Nat → Prop} {a b : World} (h : Kp F a b) {k j : Nat} {v : Value} (hc : a.cell? ⟨k, j, none⟩ = some v) (hF : ¬ F k) : b.cell? ⟨k, j, none⟩ = some v :=
  (World.cell?_of_block (a := ⟨k, j, none⟩) (h.block k (cell_lt hc) hF)).trans hc

/-- A branch: its own block, its map of what is next, its map of what ends. -/
structure Nd where
  b : Nat
  n : Nat
  e : Nat
def Nd.has (x : Nd) (k : Nat) : Prop := k = x.b ∨ k = x.n ∨ k = x.e
abbrev Tr := Pth → Option Nd
def Foot (t : Tr) (k : Nat) : Prop := ∃ p x, t p = some x ∧ x.has k
def kidV (t : Tr) (p : Pth) : Txt → Option Value := fun l => (t (p ++ [l])).map fun y => .pointer (some ⟨y.b, 0, none⟩)
def endV (En : Pth → Txt → Option Sb) (p : Pth) : Txt → Option Value := fun c => (En p c).map sbV
structure TreeAt (w : World) (t : Tr) (En : Pth → Txt → Option Sb) (C : Pth → Nat) (gs : List (Pth × Txt)) : Prop where
  row : ∀ p x, t p = some x → w.heap[x.b]? = some (.cells #[.map (some x.n), .map (some x.e), .int .i64 (C p : Int)] 84 (0, 0))
  kids : ∀ p x, t p = some x → SMap Tryz.prog 9 w x.n (kidV t p)
  ends : ∀ p x, t p = some x → SMap Tryz.prog 9 w x.e (endV En p)
  one : ∀ p q x y k, t p = some x → t q = some y → x.has k → y.has k → p = q
  own : ∀ p x, t p = some x → x.b ≠ x.n ∧ x.b ≠ x.e ∧ x.n ≠ x.e
  clos : ∀ q l, (t (q ++ [l])).isSome = true → (t q).isSome = true
  ent : ∀ q c, (En q c).isSome = true → (t q).isSome = true
  none' : ∀ q, t q = none → C q = 0
  cover : ∀ q, q ≠ [] → (t q).isSome = true → ∃ r ∈ gs, q <+: r.1
  ents : ∀ q c, (En q c).isSome = true → (q, c) ∈ gs
  few : gs.length ≤ 5000
  le : ∀ q, C q ≤ 5000

variable {w w' : World} {t : Tr} {En : Pth → Txt → Option Sb} {C : Pth → Nat} {gs : List (Pth × Txt)}
theorem TreeAt.lt (h : TreeAt w t En C gs) {k : Nat} (hk : Foot t k) : k < w.heap.size := by
  obtain ⟨p, x, hx, rfl | rfl | rfl⟩ := hk
  · exact (Array.getElem?_eq_some_iff.1 (h.row p x hx)).1
  · exact (h.kids p x hx).lt
  · exact (h.ends p x hx).lt
theorem TreeAt.keeps (h : TreeAt w t En C gs) (hk : ∀ k, Foot t k → w'.heap[k]? = w.heap[k]?) : TreeAt w' t En C gs :=
  { h with
    row := fun p x hx => (hk x.b ⟨p, x, hx, .inl rfl⟩).trans (h.row p x hx)
    kids := fun p x hx => (h.kids p x hx).at_block (hk x.n ⟨p, x, hx, .inr (.inl rfl)⟩)
    ends := fun p x hx => (h.ends p x hx).at_block (hk x.e ⟨p, x, hx, .inr (.inr rfl)⟩) }
theorem TreeAt.below (h : TreeAt w t En C gs) (hb : Below w.heap.size w w') : TreeAt w' t En C gs := h.keeps fun k hk => hb.block k (h.lt hk)
theorem TreeAt.kp (h : TreeAt w t En C gs) {F : Nat → Prop} (hb : Kp F w w') (hF : ∀ k, Foot t k → ¬ F k) : TreeAt w' t En C gs := h.keeps fun k hk => hb.block k (h.lt hk) (hF k hk)
theorem TreeAt.few_kids (h : TreeAt w t En C gs) (p : Pth) : Few (kidV t p) :=
  ⟨gs.map fun r => r.1.getD p.length [], by simpa using h.few, fun l hl => by
    unfold kidV at hl
    rw [Option.isSome_map] at hl
    obtain ⟨r, hr, s, hs⟩ := h.cover (p ++ [l]) (by simp) hl
    refine List.mem_map.2 ⟨r, hr, ?_⟩
    rw [← hs]
    simp [List.getD]⟩
theorem TreeAt.few_ends (h : TreeAt w t En C gs) (p : Pth) : Few (endV En p) :=
  ⟨gs.map fun r => r.2, by simpa using h.few, fun c hc => by
    unfold endV at hc
    rw [Option.isSome_map] at hc
    exact List.mem_map.2 ⟨_, h.ents p c hc, rfl⟩⟩
/-- All that leads to a branch is there. -/
theorem TreeAt.up (h : TreeAt w t En C gs) : ∀ (r p : Pth), (t (p ++ r)).isSome = true → (t p).isSome = true
  | [], p, hr => by simpa using hr
  | l :: r, p, hr => h.clos p l (TreeAt.up h r (p ++ [l]) (by simpa using hr))
theorem TreeAt.gone (h : TreeAt w t En C gs) {p : Pth} (hp : t p = none) (r : Pth) (c : Txt) : En (p ++ r) c = none := by
  cases he : En (p ++ r) c with
  | none => rfl
  | some s =>
    have := h.up r p (h.ent _ c (by rw [he]; rfl))
    rw [hp] at this
    cases this
theorem kidV_of {p : Pth} {l : Txt} {y : Nd} (h : t (p ++ [l]) = some y) : kidV t p l = some (.pointer (some ⟨y.b, 0, none⟩)) := by simp [kidV, h]
theorem kidV_none {p : Pth} {l : Txt} (h : t (p ++ [l]) = none) : kidV t p l = none := by simp [kidV, h]
end Go.Proofs.YtgcfgheamaoceaaGreatDoor
/- Layer 14: what changes in a tree: an entry of a map in two steps; a new branch; what ends is told anew; how much. -/
namespace Go.Proofs.YtgcfgheamaoceaaGreatDoor
open Go.RowKit Go.MapKept Go.ChangeMaps

section
variable {P : Program} {kT : TypeId}
/-- 'm[k], .. = v, ..': the entry first, what it holds later. -/
theorem SMap.entry {T E : TypeId} {w : World} {b : Nat} {f : Txt → Option Value} (h : SMap P kT w b f) (hkT : P.underlying kT = some .string) (hT : P.underlying T = some (.map kT E)) {z : Value} (hz : ∀ w, (zeroValue E).run P w = .ok z w) (s : ByteArray) (hk : s.size ≤ maxLen) (v : Value) (hF : Few (putT f s.data.toList v)) :
    ∃ v0 st w1 w2, (Instr.mapEntry T (.map (some b)) (.string s)).run P w = .ok (.tuple #[v0, .int .i64 ((st : Nat) : Int)]) w1 ∧ w.grownBy w1 (some b) ∧
      (Instr.entryStore T (.map (some b)) (.int .i64 ((st : Nat) : Int)) v).run P w1 = .ok () w2 ∧ SMap P kT w2 b (putT f s.data.toList v) ∧ w.grownBy w2 (some b) := by
  obtain ⟨wu, hu, hS, hg⟩ := h.put hkT hT s hk v hF
  obtain ⟨D, ⟨es, clock, hb, F, hs, hD⟩, hr⟩ := h
  have hkey : keyOf P kT (.string s) = some (.string s.data.toList) := Go.WideMaps.keyOf_string_mk hkT hk
  obtain ⟨v0, st, es1, clock1, h1, -, h3⟩ := Go.WideElems.entry_then_store (Go.WideMaps.string_law hkT) hT hz hb F hkey
  obtain ⟨es', clock', h4, h5⟩ := h3 (setBlock w b (.map es1 clock1)) v (heap_setBlock_same hb _)
  rw [h5] at hu
  injection hu with _ hu
  subst hu
  refine ⟨v0, st, _, _, h1, ⟨rfl, rfl, rfl, by simp [setBlock], fun i _ hi => heap_setBlock_other hb _ (fun e => hi (by rw [e]))⟩, h4, ?_, ?_⟩
  · refine hS.at_block ?_
    rw [heap_setBlock_same (heap_setBlock_same hb _), heap_setBlock_same hb]
  · refine ⟨rfl, rfl, rfl, by simp [setBlock], fun i _ hi => ?_⟩
    rw [heap_setBlock_other (heap_setBlock_same hb _) _ (fun e => hi (by rw [e])), heap_setBlock_other hb _ (fun e => hi (by rw [e]))]
end

def putE (En : Pth → Txt → Option Sb) (r : Pth) (c : Txt) (s : Option Sb) : Pth → Txt → Option Sb := fun q d => if q = r ∧ d = c then s else En q d
def putC (C : Pth → Nat) (p r : Pth) (fresh : Bool) : Pth → Nat := fun q => if fresh = true ∧ p <+: q ∧ q <+: r then C q + 1 else C q
variable {w w' : World} {t : Tr} {En : Pth → Txt → Option Sb} {C : Pth → Nat} {gs : List (Pth × Txt)}
theorem pre_anti {p q : Pth} (h : p <+: q) (g : q <+: p) : q = p := (List.IsPrefix.eq_of_length_le h (List.IsPrefix.length_le g)).symm
/-- How much is there at a branch: written anew. -/
theorem TreeAt.sized (h : TreeAt w t En C gs) {p : Pth} {x : Nd} (hx : t p = some x) (n : Nat) (hn : n ≤ 5000) :
    TreeAt (w.setCell ⟨x.b, 2, none⟩ (.int .i64 (n : Int))) t En (fun q => if q = p then n else C q) gs ∧ Kp (Foot t) w (w.setCell ⟨x.b, 2, none⟩ (.int .i64 (n : Int))) := by
  have ho : ∀ k, k ≠ x.b → (w.setCell ⟨x.b, 2, none⟩ (.int .i64 (n : Int))).heap[k]? = w.heap[k]? := fun k hk => heap_setCell_other w ⟨x.b, 2, none⟩ k _ hk
  refine ⟨{ h with
    row := fun q y hy => ?_
    kids := fun q y hy => ?_
    ends := fun q y hy => ?_
    none' := fun q hq => ?_
    le := fun q => ?_ }, ⟨⟨rfl, rfl, rfl, by simp, fun i hi => absurd hi (Nat.not_lt_zero i)⟩, fun k _ hk => ho k fun e => hk ⟨p, x, hx, .inl e⟩⟩⟩
  · by_cases hq : q = p
    · subst hq
      obtain rfl : y = x := Option.some.inj (hy.symm.trans hx)
      have := heap_setCell_same w y.b 2 _ _ (.int .i64 (n : Int)) (h.row q y hy)
      rw [this]
      simp
    · rw [ho y.b (fun e => hq (h.one q p y x y.b hy hx (.inl rfl) (.inl e)))]
      simp only [if_neg hq]
      exact h.row q y hy
  · refine (h.kids q y hy).at_block (ho y.n fun e => ?_)
    obtain rfl : q = p := h.one q p y x y.n hy hx (.inr (.inl rfl)) (.inl e)
    obtain rfl : y = x := Option.some.inj (hy.symm.trans hx)
    exact (h.own q y hy).1 e.symm
  · refine (h.ends q y hy).at_block (ho y.e fun e => ?_)
    obtain rfl : q = p := h.one q p y x y.e hy hx (.inr (.inr rfl)) (.inl e)
    obtain rfl : y = x := Option.some.inj (hy.symm.trans hx)
    exact (h.own q y hy).2.1 e.symm
  · have hne : q ≠ p := fun e => by rw [e, hx] at hq; cases hq
    simp only [if_neg hne]
    exact h.none' q hq
  · by_cases hq : q = p
    · simp only [if_pos hq]; exact hn
    · simp only [if_neg hq]; exact h.le q
/-- What ends at a branch: told anew. -/
theorem TreeAt.ended (h : TreeAt w t En C gs) {p : Pth} {x : Nd} (hx : t p = some x) {En' : Pth → Txt → Option Sb} (hg : w.grownBy w' (some x.e)) (hm : SMap Tryz.prog 9 w' x.e (endV En' p)) (ho : ∀ q, q ≠ p → ∀ c, En' q c = En q c) (he : ∀ q c, (En' q c).isSome = true → (q, c) ∈ gs) :
    TreeAt w' t En' C gs ∧ Kp (Foot t) w w' := by
  have hb : ∀ k, Foot t k → k ≠ x.e → w'.heap[k]? = w.heap[k]? := fun k hk hne => hg.block k (h.lt hk) fun e => hne (by injection e)
  refine ⟨{ h with
    row := fun q y hy => ?_
    kids := fun q y hy => ?_
    ends := fun q y hy => ?_
    ent := fun q c hc => ?_
    ents := he }, Kp.of_grown hg ⟨p, x, hx, .inr (.inr rfl)⟩⟩
  · refine (hb y.b ⟨q, y, hy, .inl rfl⟩ fun e => ?_).trans (h.row q y hy)
    obtain rfl : q = p := h.one q p y x y.b hy hx (.inl rfl) (.inr (.inr e))
    obtain rfl : y = x := Option.some.inj (hy.symm.trans hx)
    exact (h.own q y hy).2.1 e
  · refine (h.kids q y hy).at_block (hb y.n ⟨q, y, hy, .inr (.inl rfl)⟩ fun e => ?_)
    obtain rfl : q = p := h.one q p y x y.n hy hx (.inr (.inl rfl)) (.inr (.inr e))
    obtain rfl : y = x := Option.some.inj (hy.symm.trans hx)
    exact (h.own q y hy).2.2 e
  · by_cases hq : q = p
    · subst hq
      obtain rfl : y = x := Option.some.inj (hy.symm.trans hx)
      exact hm
    · have : endV En' q = endV En q := by funext c; unfold endV; rw [ho q hq c]
      rw [this]
      exact (h.ends q y hy).at_block (hb y.e ⟨q, y, hy, .inr (.inr rfl)⟩ fun e => hq (h.one q p y x y.e hy hx (.inr (.inr rfl)) (.inr (.inr e))))
  · by_cases hq : q = p
    · rw [hq, hx]; rfl
    · rw [ho q hq c] at hc; exact h.ent q c hc

theorem bare_any (w : World) : Calls Tryz.prog 30 #[] w fun e w' => e = .returned (.pointer (some ⟨w.heap.size + 2, 0, none⟩)) ∧ Below w.heap.size w w' ∧
    w'.heap[w.heap.size]? = some (.map #[] 0) ∧ w'.heap[w.heap.size + 1]? = some (.map #[] 0) ∧ w'.heap[w.heap.size + 2]? = some (.cells #[.map (some w.heap.size), .map (some (w.heap.size + 1)), .int .i64 0] 84 (0, 0)) ∧ w'.heap.size = w.heap.size + 3 := by
  have h1 := run_makeMap_plain (P := Tryz.prog) w 81
  have h2 := run_makeMap_plain (P := Tryz.prog) (w.alloc (.map #[] 0)) 82
  go_enter Tryz.func30, Tryz.ntmps30
  go_wp2
  go_ret
  have old : ∀ (u : World) (o : Obj) (k : Nat), k < u.heap.size → (u.alloc o).heap[k]? = u.heap[k]? := fun u o k hk => (World.grownBy_alloc u o none).block k hk (by simp)
  refine ⟨rfl, (((Below.refl _ w).alloc (Nat.le_refl _) _).alloc (by simp) _).alloc (by simp; omega) _, ?_, ?_, ?_, by simp⟩
  · rw [old _ _ _ (by simp; omega), old _ _ _ (by simp)]
    exact (MapKept.heap_alloc w _).1
  · rw [old _ _ _ (by simp)]
    have := (MapKept.heap_alloc (w.alloc (.map #[] 0)) (.map #[] 0)).1
    rwa [show (w.alloc (.map #[] 0)).heap.size = w.heap.size + 1 by simp] at this
  · have := (MapKept.heap_alloc ((w.alloc (.map #[] 0)).alloc (.map #[] 0)) (.cells #[Value.map (some w.heap.size), Value.map (some (w.heap.size + 1)), Value.int IntKind.i64 0] 84)).1
    rwa [show ((w.alloc (.map #[] 0)).alloc (.map #[] 0)).heap.size = w.heap.size + 2 by simp] at this

theorem SMap.empty {P : Program} {kT : TypeId} {w : World} {b k : Nat} (h : w.heap[b]? = some (.map #[] k)) : SMap P kT w b (fun _ => none) :=
  ⟨.map [], ⟨#[], k, h, ⟨by simp, ⟨by simp, by simp⟩, by simp⟩, by simp, rfl⟩, fun _ _ => rfl, fun kl h => by cases h⟩
def putN (t : Tr) (q : Pth) (v : Option Nd) : Tr := fun r => if r = q then v else t r
/-- A new branch, at which nothing ends yet. -/
theorem TreeAt.grow (h : TreeAt w t En C gs) {p : Pth} {x : Nd} (hx : t p = some x) {l : Txt} (hn : t (p ++ [l]) = none) {y : Nd} {w1 w2 : World} (hb : Below w.heap.size w w1)
    (hy : w.heap.size ≤ y.b ∧ w.heap.size ≤ y.n ∧ w.heap.size ≤ y.e) (hyo : y.b ≠ y.n ∧ y.b ≠ y.e ∧ y.n ≠ y.e)
    (h1 : w1.heap[y.n]? = some (.map #[] 0)) (h2 : w1.heap[y.e]? = some (.map #[] 0)) (h3 : w1.heap[y.b]? = some (.cells #[.map (some y.n), .map (some y.e), .int .i64 0] 84 (0, 0)))
    (hg : w1.grownBy w2 (some x.n)) (hm : SMap Tryz.prog 9 w2 x.n (putT (kidV t p) l (.pointer (some ⟨y.b, 0, none⟩)))) (hc : ∃ r ∈ gs, p ++ [l] <+: r.1) :
    TreeAt w2 (putN t (p ++ [l]) (some y)) En C gs ∧ Kp (Foot t) w w2 := by
  have hxl : x.n < w.heap.size := h.lt ⟨p, x, hx, .inr (.inl rfl)⟩
  have hold : ∀ k, Foot t k → k ≠ x.n → w2.heap[k]? = w.heap[k]? := fun k hk hne => (hg.block k (Nat.lt_of_lt_of_le (h.lt hk) hb.size) fun e => hne (by injection e)).trans (hb.block k (h.lt hk))
  have hnew : ∀ k, w.heap.size ≤ k → k < w1.heap.size → w2.heap[k]? = w1.heap[k]? := fun k hk hk2 => hg.block k hk2 fun e => by injection e with e; omega
  have hlt : ∀ (k : Nat) (o : Obj), w1.heap[k]? = some o → k < w1.heap.size := fun k o e => (Array.getElem?_eq_some_iff.1 e).1
  have hpl : ∀ (q : Pth) (z : Nd), putN t (p ++ [l]) (some y) q = some z → (q = p ++ [l] ∧ z = y) ∨ (q ≠ p ++ [l] ∧ t q = some z) := fun q z hz => by
    unfold putN at hz
    by_cases e : q = p ++ [l]
    · rw [if_pos e] at hz; injection hz with hz; exact .inl ⟨e, hz.symm⟩
    · rw [if_neg e] at hz; exact .inr ⟨e, hz⟩
  have hsome : ∀ q, (putN t (p ++ [l]) (some y) q).isSome = true → q = p ++ [l] ∨ (t q).isSome = true := fun q hq => by
    unfold putN at hq
    by_cases e : q = p ++ [l]
    · exact .inl e
    · rw [if_neg e] at hq; exact .inr hq
  have hkeep : ∀ q, (t q).isSome = true → (putN t (p ++ [l]) (some y) q).isSome = true := fun q hq => by
    unfold putN
    by_cases e : q = p ++ [l]
    · rw [if_pos e]; rfl
    · rw [if_neg e]; exact hq
  have hbig : ∀ k, y.has k → w.heap.size ≤ k := fun k hk => by
    rcases hk with rfl | rfl | rfl
    · exact hy.1
    · exact hy.2.1
    · exact hy.2.2
  have hne : ∀ q : Pth, q ++ [l] = p ++ [l] → q = p := fun q e => List.append_cancel_right e
  refine ⟨{ h with
    row := fun q z hz => ?_
    kids := fun q z hz => ?_
    ends := fun q z hz => ?_
    one := fun q r z u k hz hu k1 k2 => ?_
    own := fun q z hz => ?_
    clos := fun q m hq => ?_
    ent := fun q c hc => hkeep q (h.ent q c hc)
    none' := fun q hq => ?_
    cover := fun q hq hs => ?_ }, ⟨⟨hg.os.trans hb.os, hg.tape.trans hb.tape, hg.output.trans hb.output, Nat.le_trans hb.size hg.size, fun i hi => absurd hi (Nat.not_lt_zero i)⟩, fun k hk hF => ?_⟩⟩
  · rcases hpl q z hz with ⟨rfl, rfl⟩ | ⟨-, hz2⟩
    · rw [hnew z.b hy.1 (hlt _ _ h3), h3, h.none' _ hn]; rfl
    · exact (hold z.b ⟨q, z, hz2, .inl rfl⟩ fun e => by
        obtain rfl : q = p := h.one q p z x z.b hz2 hx (.inl rfl) (.inr (.inl e))
        obtain rfl : z = x := Option.some.inj (hz2.symm.trans hx)
        exact (h.own q z hz2).1 e).trans (h.row q z hz2)
  · rcases hpl q z hz with ⟨rfl, rfl⟩ | ⟨-, hz2⟩
    · have e : kidV (putN t (p ++ [l]) (some z)) (p ++ [l]) = fun _ => none := by
        funext m
        have hno : t (p ++ [l] ++ [m]) = none := by
          cases hh : t (p ++ [l] ++ [m]) with
          | none => rfl
          | some u =>
            have := h.clos (p ++ [l]) m (by rw [hh]; rfl)
            rw [hn] at this; cases this
        have hne2 : p ++ [l] ++ [m] ≠ p ++ [l] := fun e => by
          have := congrArg List.length e
          simp at this
        unfold kidV putN
        rw [if_neg hne2, hno]; rfl
      rw [e]
      exact (SMap.empty h1).at_block (hnew z.n hy.2.1 (hlt _ _ h1))
    · by_cases hqp : q = p
      · subst hqp
        obtain rfl : z = x := Option.some.inj (hz2.symm.trans hx)
        have e : kidV (putN t (q ++ [l]) (some y)) q = putT (kidV t q) l (.pointer (some ⟨y.b, 0, none⟩)) := by
          funext m
          unfold kidV putN putT
          by_cases hml : m = l
          · subst hml; simp
          · have : q ++ [m] ≠ q ++ [l] := fun e => hml (by simpa using List.append_cancel_left e)
            rw [if_neg this, if_neg hml]
        rw [e]
        exact hm
      · have e : kidV (putN t (p ++ [l]) (some y)) q = kidV t q := by
          funext m
          unfold kidV putN
          have : q ++ [m] ≠ p ++ [l] := fun e => hqp (List.append_inj_left' e rfl)
          rw [if_neg this]
        rw [e]
        exact (h.kids q z hz2).at_block (hold z.n ⟨q, z, hz2, .inr (.inl rfl)⟩ fun e => hqp (h.one q p z x z.n hz2 hx (.inr (.inl rfl)) (.inr (.inl e))))
  · rcases hpl q z hz with ⟨rfl, rfl⟩ | ⟨-, hz2⟩
    · have e : endV En (p ++ [l]) = fun _ => none := by
        funext c
        unfold endV
        have := h.gone hn [] c
        rw [List.append_nil] at this
        rw [this]; rfl
      rw [e]
      exact (SMap.empty h2).at_block (hnew z.e hy.2.2 (hlt _ _ h2))
    · refine (h.ends q z hz2).at_block (hold z.e ⟨q, z, hz2, .inr (.inr rfl)⟩ fun e => ?_)
      obtain rfl : q = p := h.one q p z x z.e hz2 hx (.inr (.inr rfl)) (.inr (.inl e))
      obtain rfl : z = x := Option.some.inj (hz2.symm.trans hx)
      exact (h.own q z hz2).2.2 e.symm
  · rcases hpl q z hz with ⟨e1, e2⟩ | ⟨-, hz2⟩ <;> rcases hpl r u hu with ⟨e3, e4⟩ | ⟨-, hu2⟩
    · rw [e1, e3]
    · exact absurd (h.lt ⟨r, u, hu2, k2⟩) (Nat.not_lt.2 (hbig k (e2 ▸ k1)))
    · exact absurd (h.lt ⟨q, z, hz2, k1⟩) (Nat.not_lt.2 (hbig k (e4 ▸ k2)))
    · exact h.one q r z u k hz2 hu2 k1 k2
  · rcases hpl q z hz with ⟨rfl, rfl⟩ | ⟨-, hz2⟩
    · exact hyo
    · exact h.own q z hz2
  · rcases hsome _ hq with e | hq
    · rw [List.append_inj_left' e rfl]
      exact hkeep p (by rw [hx]; rfl)
    · exact hkeep q (h.clos q m hq)
  · unfold putN at hq
    by_cases e : q = p ++ [l]
    · rw [if_pos e] at hq; cases hq
    · rw [if_neg e] at hq; exact h.none' q hq
  · rcases hsome q hs with rfl | hs
    · exact hc
    · exact h.cover q hq hs
  · exact (hg.block k (Nat.lt_of_lt_of_le hk hb.size) fun e => hF (by injection e with e; exact ⟨p, x, hx, .inr (.inl e)⟩)).trans (hb.block k hk)
theorem putN_foot {q : Pth} {y : Nd} {k : Nat} (hk : Foot (putN t q (some y)) k) : Foot t k ∨ y.has k := by
  obtain ⟨r, z, hz, hh⟩ := hk
  unfold putN at hz
  by_cases e : r = q
  · rw [if_pos e] at hz; injection hz with hz; exact .inr (hz ▸ hh)
  · rw [if_neg e] at hz; exact .inl ⟨r, z, hz, hh⟩
end Go.Proofs.YtgcfgheamaoceaaGreatDoor
/- Layer 14: get: what ends behind some levels, by a name. -/
namespace Go.Proofs.YtgcfgheamaoceaaGreatDoor
open Go.RowKit Go.MapKept Go.ChangeMaps

def ptrV : Option Nd → Value
  | some x => .pointer (some ⟨x.b, 0, none⟩)
  | none => .pointer none
def sbO : Option Sb → Value
  | some s => sbV s
  | none => noSub
/-- Levels lie in a block, from a place on. -/
def LvAt (w : World) (B off : Nat) (ls : Pth) : Prop := ∀ j x, ls[j]? = some x → w.cell? ⟨B, off + j, none⟩ = some (.string (str x))
theorem LvAt.tl {w : World} {B off : Nat} {l : Txt} {ls : Pth} (h : LvAt w B off (l :: ls)) : LvAt w B (off + 1) ls := fun j x hj => by
  have := h (j + 1) x (by simpa using hj)
  rwa [show off + (j + 1) = off + 1 + j by omega] at this
theorem LvAt.block {w w' : World} {B off : Nat} {ls : Pth} (h : LvAt w B off ls) (hb : w'.heap[B]? = w.heap[B]?) : LvAt w' B off ls := fun j x hj => (World.cell?_of_block (a := ⟨B, off + j, none⟩) hb).trans (h j x hj)
theorem slice_tl (n B off c : Nat) (hn : 1 ≤ n) (hc : n ≤ c) (hm : c ≤ 9223372036854775807) : ∃ off', (2 ≤ n → off' = off + 1) ∧ ∀ W, (Instr.sliceAt 79 (.slice (some ⟨B, off, none⟩) n c) (some (.int .i64 1)) none none).run Tryz.prog W = .ok (.slice (some ⟨B, off', none⟩) (n - 1) (c - 1)) W := by
  by_cases hc1 : c = 1
  · exact ⟨off, fun h => absurd h (by omega), fun w => by
      obtain rfl : n = 1 := by omega
      subst hc1
      simp [go_sem]⟩
  · exact ⟨off + 1, fun _ => rfl, fun w => by
      have h1 : (1 : Int) ≤ n := by omega
      simp [go_sem, hc1, h1]⟩
theorem zero_sub (w : World) : (zeroValue 31).run Tryz.prog w = .ok noSub w := by kernel_rfl
theorem zero_ptr (w : World) : (zeroValue 54).run Tryz.prog w = .ok (.pointer none) w := by kernel_rfl
theorem results_ct {fn : Func} {p u : Tmp} {ty : TypeId} {fs : Array Field} (h : fn.results = #[.cell p ty, .tmp u]) (tmps : Array Value) (w : World) (g : Nat) (t : TypeId) (cs : Array Value) (fr : Nat × Nat)
    (hp : tmps.getD p undef = .pointer (some ⟨g, 0, none⟩)) (hg : w.heap[g]? = some (.cells cs t fr)) (hu : Tryz.prog.underlying ty = some (.struct fs)) (hi : (Tryz.prog.info? ty).map (·.size) = some cs.size) :
    (results fn tmps).run Tryz.prog w = .ok (.tuple #[.agg cs, tmps.getD u undef]) w := by
  rw [results_cell_tmp h]
  rw [hp]
  simp [asAddr, run_loadVar_row w g t ty cs fr _ hg hu rfl hi, Result.andThen]
theorem sbO_form (s : Option Sb) : ∃ a b q, sbO s = .agg #[.string a, .string b, .int .i64 q] := by
  cases s with
  | none => exact ⟨_, _, _, rfl⟩
  | some s => exact ⟨_, _, _, rfl⟩
theorem row_of {w w' : World} {g n : Nat} {o : Obj} (h : w.heap[g]? = some o) (hb : Below n w w') (hg : g < n) : w'.heap[g]? = some o := (hb.block g hg).trans h
theorem set3_row {w : World} {g : Nat} {T : TypeId} {a b c : Value} (h : w.heap[g]? = some (.cells #[a, b, c] T (0, 0))) (a' b' c' : Value) : (((w.setCell ⟨g, 0, none⟩ a').setCell ⟨g, 1, none⟩ b').setCell ⟨g, 2, none⟩ c').heap[g]? = some (.cells #[a', b', c'] T (0, 0)) := by
  have h1 := heap_setCell_same w g 0 _ _ a' h
  have h2 := heap_setCell_same _ g 1 _ _ b' h1
  have h3 := heap_setCell_same _ g 2 _ _ c' h2
  rw [h3]
  simp
theorem box3 {w : World} {g : Nat} {T : TypeId} {a b c : Value} (h : w.heap[g]? = some (.cells #[a, b, c] T (0, 0))) : g < w.heap.size ∧ w.cell? ⟨g, 0, none⟩ = some a ∧ w.cell? ⟨g, 1, none⟩ = some b ∧ w.cell? ⟨g, 2, none⟩ = some c ∧ w.frozen? ⟨g, 0, none⟩ = false ∧ w.frozen? ⟨g, 1, none⟩ = false ∧ w.frozen? ⟨g, 2, none⟩ = false := by
  refine ⟨(Array.getElem?_eq_some_iff.1 h).1, ?_, ?_, ?_, ?_, ?_, ?_⟩
  · rw [cell_of_row _ _ _ _ _ _ h]; rfl
  · rw [cell_of_row _ _ _ _ _ _ h]; rfl
  · rw [cell_of_row _ _ _ _ _ _ h]; rfl
  · simp [World.frozen?, h]
  · simp [World.frozen?, h]
  · simp [World.frozen?, h]
def GetPost (w : World) (s : Option Sb) (e : Ending) (w' : World) : Prop := e = .returned (.tuple #[sbO s, .bool s.isSome]) ∧ Below w.heap.size w w'
set_option maxRecDepth 100000 in
theorem get_none (w : World) (lvv : Value) (c : Value) : Calls Tryz.prog 38 #[.pointer none, lvv, c] w fun e w' => GetPost w none e w' := by
  go_enter Tryz.func38, Tryz.ntmps38
  go_wp2
  refine bodyPost_ret (results_ct rfl _ _ _ _ _ _ rfl (heap_alloc_new _ _) Tryz.underlying31 (by kernel_rfl)) rfl ?_
  exact ⟨rfl, (Below.refl _ w).alloc (Nat.le_refl _) _⟩
abbrev subBox : Obj := .cells #[.string ⟨#[]⟩, .string ⟨#[]⟩, .int .i64 0] 31
variable {w w' : World} {t : Tr} {En : Pth → Txt → Option Sb} {C : Pth → Nat} {gs : List (Pth × Txt)}
theorem TreeAt.alloc (h : TreeAt w t En C gs) (o : Obj) : TreeAt (w.alloc o) t En C gs := h.below ((Below.refl _ w).alloc (Nat.le_refl _) _)
theorem TreeAt.drew (h : TreeAt w t En C gs) : TreeAt w.drew t En C gs := h.below ⟨rfl, rfl, rfl, Nat.le_refl _, fun _ _ => rfl⟩
theorem TreeAt.look_end (h : TreeAt w t En C gs) {p : Pth} {x : Nd} (hx : t p = some x) (n : Txt) (hn : n.length ≤ maxLen) : (Instr.lookup 82 (.map (some x.e)) (.string (str n)) true).run Tryz.prog w = .ok (.tuple #[sbO (En p n), .bool (En p n).isSome]) w := by
  have := (h.ends p x hx).look (T := 82) (E := 31) Tryz.underlying9 Tryz.underlying82 zero_sub (str n) hn true
  rw [this, str_toList]
  unfold endV
  cases En p n <;> rfl
theorem TreeAt.look_kid (h : TreeAt w t En C gs) {p : Pth} {x : Nd} (hx : t p = some x) (l : Txt) (hn : l.length ≤ maxLen) : (Instr.lookup 81 (.map (some x.n)) (.string (str l)) false).run Tryz.prog w = .ok (ptrV (t (p ++ [l]))) w := by
  have := (h.kids p x hx).look (T := 81) (E := 54) Tryz.underlying9 Tryz.underlying81 zero_ptr (str l) hn false
  rw [this, str_toList]
  unfold kidV
  cases t (p ++ [l]) <;> rfl
theorem TreeAt.cells (h : TreeAt w t En C gs) {p : Pth} {x : Nd} (hx : t p = some x) : w.cell? ⟨x.b, 0, none⟩ = some (.map (some x.n)) ∧ w.cell? ⟨x.b, 1, none⟩ = some (.map (some x.e)) ∧ w.cell? ⟨x.b, 2, none⟩ = some (.int .i64 (C p : Int)) := by
  have hr := h.row p x hx
  refine ⟨?_, ?_, ?_⟩ <;> rw [cell_of_row _ _ _ _ _ _ hr] <;> rfl
set_option maxRecDepth 100000 in
theorem get_here (h : TreeAt w t En C gs) {p : Pth} {x : Nd} (hx : t p = some x) (a : Option Addr) (k : Nat) (n : Txt) (hn : n.length ≤ maxLen) : Calls Tryz.prog 38 #[.pointer (some ⟨x.b, 0, none⟩), .slice a 0 k, .string (str n)] w fun e w' => GetPost w (En p n) e w' := by
  obtain ⟨c0, c1, c2⟩ := h.cells hx
  have hlk := (h.alloc subBox).look_end hx n hn
  have hlt := h.lt ⟨p, x, hx, .inl rfl⟩
  have hlt2 := h.lt ⟨p, x, hx, .inr (.inr rfl)⟩
  obtain ⟨s, hs⟩ : ∃ s, En p n = s := ⟨_, rfl⟩
  rw [hs] at hlk ⊢
  clear hs c0 c2 h hx hn
  cases s with
  | none =>
    simp only [sbO, noSub, Option.isSome_none] at hlk
    go_enter Tryz.func38, Tryz.ntmps38
    go_wp2
    refine bodyPost_ret (results_ct rfl _ _ _ _ _ _ rfl (heap_alloc_new _ _) Tryz.underlying31 (by kernel_rfl)) rfl ?_
    exact ⟨rfl, (Below.refl _ w).alloc (Nat.le_refl _) _⟩
  | some s =>
    simp only [sbO, sbV, Option.isSome_some] at hlk
    go_enter Tryz.func38, Tryz.ntmps38
    go_wp2
    refine bodyPost_ret (results_ct rfl _ _ _ _ _ _ rfl (heap_alloc_new _ _) Tryz.underlying31 (by kernel_rfl)) rfl ?_
    exact ⟨rfl, (Below.refl _ w).alloc (Nat.le_refl _) _⟩
set_option maxRecDepth 100000 in
set_option maxHeartbeats 1000000 in
theorem get_on (h : TreeAt w t En C gs) {p : Pth} {x : Nd} (hx : t p = some x) (B off k m : Nat) (l n : Txt) (hl : l.length ≤ maxLen) (hB : B < w.heap.size) (hk : m + 1 ≤ k) (hk2 : k ≤ 9223372036854775807) (hc : w.cell? ⟨B, off, none⟩ = some (.string (str l))) (s : Option Sb)
    (hIH : ∀ W off', (1 ≤ m → off' = off + 1) → Below w.heap.size w W → Calls Tryz.prog 38 #[ptrV (t (p ++ [l])), .slice (some ⟨B, off', none⟩) m (k - 1), .string (str n)] W fun e w' => GetPost W s e w') :
    Calls Tryz.prog 38 #[.pointer (some ⟨x.b, 0, none⟩), .slice (some ⟨B, off, none⟩) (m + 1) k, .string (str n)] w fun e w' => GetPost w s e w' := by
  obtain ⟨c0, c1, c2⟩ := h.cells hx
  have hlk := (h.alloc subBox).drew.look_kid hx l hl
  have hlt := h.lt ⟨p, x, hx, .inl rfl⟩
  obtain ⟨off', ho, hsl⟩ := slice_tl (m + 1) B off k (by omega) hk hk2
  have hm1 : (0 : Int) < ((m : Int) + 1) := by omega
  have hI := hIH
  clear hIH c1 c2
  obtain ⟨v, hv⟩ : ∃ v, ptrV (t (p ++ [l])) = v := ⟨_, rfl⟩
  rw [hv] at hlk hI
  obtain ⟨sa, sb, sq, hsf⟩ := sbO_form s
  have HI := Lib.hid (fun W hb => hI W off' (fun h => ho (by omega)) hb)
  unfold GetPost at HI ⊢
  rw [hsf] at HI ⊢
  clear hsf
  obtain ⟨si, hsi⟩ : ∃ b, s.isSome = b := ⟨_, rfl⟩
  rw [hsi] at HI ⊢
  clear hsi
  clear hI ho hv h hx
  simp only [Nat.add_sub_cancel] at hsl
  go_enter Tryz.func38, Tryz.ntmps38
  go_wp2_with fail
  generalize hwq : w.alloc (Obj.cells #[Value.string { data := #[] }, Value.string { data := #[] }, Value.int IntKind.i64 0] 31) = wq at hlk ⊢
  have hs1 : w.heap.size < wq.heap.size := by rw [← hwq]; simp
  have hbq : Below w.heap.size w wq := by rw [← hwq]; exact (Below.refl _ w).alloc (Nat.le_refl _) _
  have hrq : wq.heap[w.heap.size]? = some (.cells #[.string ⟨#[]⟩, .string ⟨#[]⟩, .int .i64 0] 31 (0, 0)) := by rw [← hwq]; exact heap_alloc_new _ _
  have d0 := hbq.cell (p := ⟨x.b, 0, none⟩) hlt; rw [c0] at d0
  have dc := hbq.cell (p := ⟨B, off, none⟩) hB; rw [hc] at dc
  have HX := Lib.hid (And.intro hs1 (And.intro hbq hrq))
  clear hwq hs1 hbq hrq c0 hc
  have HR := Lib.hid (show wq.drew.heap[w.heap.size]? = some (.cells #[.string ⟨#[]⟩, .string ⟨#[]⟩, .int .i64 0] 31 (0, 0)) ∧ w.heap.size < wq.drew.heap.size from ⟨HX.out.2.2, HX.out.1⟩)
  have HB := Lib.hid (show Below w.heap.size w wq.drew from ⟨HX.out.2.1.os, HX.out.2.1.tape, HX.out.2.1.output, HX.out.2.1.size, HX.out.2.1.block⟩)
  go_region_with (go_at_call 38; (refine (HI.out wq.drew HB.out).mono ?_; rintro e wz ⟨rfl, hbz⟩; have hrz := row_of HR.out.1 hbz HR.out.2; obtain ⟨z3, z0, z1, z2, g0, g1, g2⟩ := box3 hrz; have HZ := Lib.hid (And.intro hbz hrz); clear hbz hrz))
  all_goals
    go_wp2
    refine bodyPost_ret (results_ct rfl _ _ _ _ _ _ rfl (set3_row HZ.out.2 (.string sa) (.string sb) (.int .i64 sq)) Tryz.underlying31 (by kernel_rfl)) rfl ?_
    exact ⟨rfl, (((HB.out.trans (HZ.out.1.mono HB.out.size)).setCell (p := ⟨w.heap.size, 0, none⟩) (Nat.le_refl _) _).setCell (p := ⟨w.heap.size, 1, none⟩) (Nat.le_refl _) _).setCell (p := ⟨w.heap.size, 2, none⟩) (Nat.le_refl _) _⟩
/-- get: at any branch, or at none. -/
theorem get_any : ∀ (ls p : Pth) (w : World) (B off k : Nat) (n : Txt), TreeAt w t En C gs → n.length ≤ maxLen → (∀ l ∈ ls, l.length ≤ maxLen) → B < w.heap.size → ls.length ≤ k → k ≤ 9223372036854775807 → LvAt w B off ls →
    Calls Tryz.prog 38 #[ptrV (t p), .slice (some ⟨B, off, none⟩) ls.length k, .string (str n)] w fun e w' => GetPost w (En (p ++ ls) n) e w'
  | [], p, w, B, off, k, n, h, hn, _, _, _, _, _ => by
    rw [List.append_nil]
    cases hx : t p with
    | none =>
      have := h.gone hx [] n
      rw [List.append_nil] at this
      rw [this]
      exact get_none w _ _
    | some x => exact get_here h hx _ _ n hn
  | l :: ls, p, w, B, off, k, n, h, hn, hls, hB, hk, hk2, hlv => by
    cases hx : t p with
    | none =>
      rw [h.gone hx (l :: ls) n]
      exact get_none w _ _
    | some x =>
      refine get_on h hx B off k ls.length l n (hls l (by simp)) hB hk hk2 (hlv 0 l rfl) _ fun W off' ho hb => ?_
      have hlv' : LvAt W B off' ls := by
        cases ls with
        | nil => intro j x hj; cases hj
        | cons m ls => rw [ho (by simp)]; exact hlv.tl.block (hb.block B hB)
      have := get_any ls (p ++ [l]) W B off' (k - 1) n (h.below hb) hn (fun m hm => hls m (by simp [hm])) (Nat.lt_of_lt_of_le hB hb.size) (by simp at hk; omega) (by omega) hlv'
      rw [List.append_assoc] at this
      exact this
end Go.Proofs.YtgcfgheamaoceaaGreatDoor
/- Layer 14: put. -/
namespace Go.Proofs.YtgcfgheamaoceaaGreatDoor
open Go.RowKit Go.MapKept Go.ChangeMaps

variable {w w' : World} {t : Tr} {En : Pth → Txt → Option Sb} {C : Pth → Nat} {gs : List (Pth × Txt)}
theorem putE_end (En : Pth → Txt → Option Sb) (p : Pth) (n : Txt) (s : Sb) : endV (putE En p n (some s)) p = putT (endV En p) n (sbV s) := by
  funext c
  unfold endV putE putT
  by_cases hc : c = n
  · simp [hc]
  · simp [hc]
theorem TreeAt.few_put (h : TreeAt w t En C gs) {p : Pth} {n : Txt} (hg : (p, n) ∈ gs) (s : Sb) : Few (putT (endV En p) n (sbV s)) :=
  ⟨gs.map fun r => r.2, by simpa using h.few, fun c hc => by
    unfold putT at hc
    by_cases hcn : c = n
    · exact List.mem_map.2 ⟨_, hg, hcn.symm⟩
    · rw [if_neg hcn] at hc
      unfold endV at hc
      rw [Option.isSome_map] at hc
      exact List.mem_map.2 ⟨_, h.ents p c hc, rfl⟩⟩
abbrev boxOf (s : Sb) : Obj := .cells #[.string (str s.f), .string (str s.c), .int .i64 (s.q : Int)] 31
/-- One more at a branch, if there was none. -/
def addC (C : Pth → Nat) (p : Pth) (was : Bool) : Pth → Nat := fun q => if q = p then C p + (if was then 0 else 1) else C q
theorem addC_true (C : Pth → Nat) (p : Pth) : addC C p true = C := by
  funext q
  unfold addC
  by_cases hq : q = p
  · simp [hq]
  · simp [hq]
theorem addC_false (C : Pth → Nat) (p : Pth) : addC C p false = fun q => if q = p then C p + 1 else C q := by
  funext q
  unfold addC
  by_cases hq : q = p
  · simp [hq]
  · simp [hq]
set_option maxRecDepth 100000 in
set_option maxHeartbeats 2000000 in
theorem put_here (h : TreeAt w t En C gs) {p : Pth} {x : Nd} (hx : t p = some x) (a : Option Addr) (k : Nat) (n : Txt) (s : Sb) (hn : n.length ≤ maxLen) (hg : (p, n) ∈ gs) (hle : C p < 5000) :
    Calls Tryz.prog 68 #[.pointer (some ⟨x.b, 0, none⟩), .slice a 0 k, .string (str n), sbV s] w fun e w' => e = .returned (.bool (!(En p n).isSome)) ∧ TreeAt w' t (putE En p n (some s)) (addC C p (En p n).isSome) gs ∧ Kp (Foot t) w w' := by
  obtain ⟨c0, c1, c2⟩ := h.cells hx
  have hlk := (h.alloc (boxOf s)).look_end hx n hn
  have hlt := h.lt ⟨p, x, hx, .inl rfl⟩
  have hlt2 := h.lt ⟨p, x, hx, .inr (.inr rfl)⟩
  obtain ⟨sa, sb, sq, hsf⟩ := sbO_form (En p n)
  rw [hsf] at hlk
  obtain ⟨i, hi⟩ : ∃ i, (En p n).isSome = i := ⟨_, rfl⟩
  rw [hi] at hlk ⊢
  have H := Lib.hid (And.intro h hi)
  have HF := Lib.hid (h.few_put hg s)
  have HG := Lib.hid hg
  clear h hsf hi c0 hg
  unfold sbV
  go_enter Tryz.func68, Tryz.ntmps68
  go_wp2_with fail
  generalize hwq : (w.alloc (boxOf s)).alloc (.cells #[.string sa, .string sb, .int .i64 sq] 31) = wq
  have hbq : Below w.heap.size w wq := by rw [← hwq]; exact ((Below.refl _ w).alloc (Nat.le_refl _) _).alloc (by simp) _
  have hrq : wq.heap[w.heap.size]? = some (boxOf s) := by
    rw [← hwq, (World.grownBy_alloc _ _ none).block _ (by simp) (by simp)]; exact (MapKept.heap_alloc w _).1
  have hT : TreeAt wq.drew t En C gs := (H.out.1.below hbq).drew
  obtain ⟨v0, st, w1, w2, r1, g1, r2, m2, g2⟩ := (hT.ends p x hx).entry (T := 82) (E := 31) Tryz.underlying9 Tryz.underlying82 zero_sub (str n) hn (sbV s) (by rw [str_toList]; exact HF.out)
  have hxe := (H.out.1.own p x hx).2.1
  have hsz := hbq.size
  have q1 := hbq.cell (p := ⟨x.b, 1, none⟩) hlt; rw [c1] at q1
  obtain ⟨b3, b0, b1, b2, -, -, -⟩ := box3 hrq
  have hd1 : ∀ k, k < wq.heap.size → k ≠ x.e → w1.heap[k]? = wq.heap[k]? := fun k hk hne => g1.block k hk fun e => hne (by injection e)
  have k1 : w1.cell? ⟨x.b, 1, none⟩ = some (.map (some x.e)) := (World.cell?_of_block (a := ⟨x.b, 1, none⟩) (hd1 _ (by show x.b < _; omega) hxe)).trans q1
  have k0 := box3 (show w1.heap[w.heap.size]? = some (boxOf s) from (hd1 _ b3 (by omega)).trans hrq)
  obtain ⟨-, k00, k01, k02, -, -, -⟩ := k0
  have H2 := Lib.hid (And.intro m2 (And.intro g1 (And.intro g2 (And.intro hbq hT))))
  unfold sbV at r2
  clear hwq hbq hrq hT m2 g1 g2 hd1 b3 c1 c2 hlk
  go_region_with fail
  all_goals
    obtain ⟨m2, g1, g2, hbq, hT⟩ := H2.out
    rw [str_toList, ← putE_end] at m2
    obtain ⟨hT2, hK2⟩ := hT.ended hx g2 m2 (fun q hq c => by unfold putE; rw [if_neg (fun e => hq e.1)]) (fun q c hc => by
      unfold putE at hc
      by_cases e : q = p ∧ c = n
      · rw [e.1, e.2]; exact HG.out
      · rw [if_neg e] at hc; exact hT.ents q c hc)
    have hKw : Kp (Foot t) w w2 := (Kp.of_below (F := Foot t) hbq).drew.trans hK2
    obtain ⟨-, -, c2⟩ := hT2.cells hx
    have z2 := (box3 (hT2.row p x hx)).2.2.2.2.2.2
    have hxl := hT2.lt ⟨p, x, hx, .inl rfl⟩
    have hC : (IntKind.i64.wrap ((C p : Int) + 1)) = ((C p + 1 : Nat) : Int) := by rw [IntKind.wrap_i64]; omega
    have HK := Lib.hid (And.intro hT2 hKw)
    clear m2 g1 g2 hbq hT hT2 hK2 hKw q1 b0 b1 b2 k1 k00 k01 k02 r1 r2
    cases i with
    | true =>
      go_wp2
      go_ret
      refine ⟨rfl, ?_, HK.out.2⟩
      rw [addC_true]
      exact HK.out.1
    | false =>
      go_wp2
      go_ret
      obtain ⟨hS, hK⟩ := HK.out.1.sized hx (C p + 1) (by omega)
      refine ⟨rfl, ?_, HK.out.2.trans hK⟩
      rw [addC_false]
      exact hS
end Go.Proofs.YtgcfgheamaoceaaGreatDoor
/- Layer 14: put, further on. -/
namespace Go.Proofs.YtgcfgheamaoceaaGreatDoor
open Go.RowKit Go.MapKept Go.ChangeMaps

variable {w w' : World} {t : Tr} {En : Pth → Txt → Option Sb} {C : Pth → Nat} {gs : List (Pth × Txt)}
/-- One more at each branch from p on to r, if there was none. -/
def addP (C : Pth → Nat) (p r : Pth) (was : Bool) : Pth → Nat := fun q => if was = false ∧ p <+: q ∧ q <+: r then C q + 1 else C q
theorem addP_same (C : Pth → Nat) (p : Pth) (was : Bool) : addP C p p was = addC C p was := by
  funext q
  unfold addP addC
  by_cases hq : q = p
  · subst hq
    cases was <;> simp
  · rw [if_neg hq, if_neg (fun h => hq (pre_anti h.2.1 h.2.2))]
theorem pre_next {p q : Pth} {l : Txt} {ls : Pth} : (p <+: q ∧ q <+: p ++ l :: ls) ↔ q = p ∨ (p ++ [l] <+: q ∧ q <+: p ++ l :: ls) := by
  constructor
  · rintro ⟨⟨a, rfl⟩, ⟨b, h⟩⟩
    cases a with
    | nil => exact .inl (by simp)
    | cons m a =>
      rw [List.append_assoc] at h
      have h2 := List.append_cancel_left h
      simp at h2
      obtain ⟨rfl, h2⟩ := h2
      exact .inr ⟨⟨a, by simp⟩, ⟨b, by simp [h2]⟩⟩
  · rintro (rfl | ⟨⟨a, rfl⟩, h⟩)
    · exact ⟨List.prefix_rfl, List.prefix_append _ _⟩
    · exact ⟨⟨l :: a, by simp⟩, h⟩
theorem not_on (p : Pth) (l : Txt) : ¬ p ++ [l] <+: p := fun ⟨a, h⟩ => by
  have := congrArg List.length h
  simp at this
theorem addP_true (C : Pth → Nat) (p r : Pth) : addP C p r true = C := by
  funext q
  unfold addP
  rw [if_neg (fun h => by cases h.1)]
theorem addP_off (C : Pth → Nat) (p : Pth) (l : Txt) (r : Pth) (was : Bool) : addP C (p ++ [l]) r was p = C p := by
  unfold addP
  rw [if_neg (fun h => not_on p l h.2.1)]
theorem addP_next (C : Pth → Nat) (p : Pth) (l : Txt) (ls : Pth) : (fun q => if q = p then C p + 1 else addP C (p ++ [l]) (p ++ l :: ls) false q) = addP C p (p ++ l :: ls) false := by
  funext q
  by_cases hq : q = p
  · subst hq
    unfold addP
    rw [if_pos rfl, if_pos ⟨rfl, pre_next.2 (.inl rfl)⟩]
  · have : (p <+: q ∧ q <+: p ++ l :: ls) ↔ (p ++ [l] <+: q ∧ q <+: p ++ l :: ls) := pre_next.trans ⟨fun h => h.resolve_left hq, .inr⟩
    unfold addP
    simp only [if_neg hq, this]
structure PutTree (w : World) (t : Tr) (En : Pth → Txt → Option Sb) (C : Pth → Nat) (gs : List (Pth × Txt)) (p r : Pth) (n : Txt) (s : Sb) (t' : Tr) (w' : World) : Prop where
  tree : TreeAt w' t' (putE En r n (some s)) (addP C p r (En r n).isSome) gs
  dom : ∀ q, (t' q).isSome = true ↔ (t q).isSome = true ∨ (p <+: q ∧ q <+: r)
  old : ∀ q y, t q = some y → t' q = some y
  foot : ∀ k, Foot t' k → Foot t k ∨ w.heap.size ≤ k
  kp : Kp (Foot t) w w'
def PutPost (w : World) (t : Tr) (En : Pth → Txt → Option Sb) (C : Pth → Nat) (gs : List (Pth × Txt)) (p r : Pth) (n : Txt) (s : Sb) (e : Ending) (w' : World) : Prop :=
  e = .returned (.bool (!(En r n).isSome)) ∧ ∃ t', PutTree w t En C gs p r n s t' w'
theorem Foot.mono {t t' : Tr} (h : ∀ q y, t q = some y → t' q = some y) {k : Nat} (hk : Foot t k) : Foot t' k := by
  obtain ⟨q, y, hy, hh⟩ := hk
  exact ⟨q, y, h q y hy, hh⟩
set_option maxRecDepth 100000 in
set_option maxHeartbeats 2000000 in
/-- The branch further on is there. -/
theorem put_next (h : TreeAt w t En C gs) {p : Pth} {x y : Nd} (hx : t p = some x) (B off k m : Nat) (l n : Txt) (ls : Pth) (hy : t (p ++ [l]) = some y) (hl : l.length ≤ maxLen) (hB : B < w.heap.size) (hk : m + 1 ≤ k) (hk2 : k ≤ 9223372036854775807) (hc : w.cell? ⟨B, off, none⟩ = some (.string (str l))) (s : Sb) (hle : C p < 5000)
    (hIH : ∀ W off', (1 ≤ m → off' = off + 1) → Below w.heap.size w W → Calls Tryz.prog 68 #[.pointer (some ⟨y.b, 0, none⟩), .slice (some ⟨B, off', none⟩) m (k - 1), .string (str n), sbV s] W fun e w' => PutPost W t En C gs (p ++ [l]) (p ++ l :: ls) n s e w') :
    Calls Tryz.prog 68 #[.pointer (some ⟨x.b, 0, none⟩), .slice (some ⟨B, off, none⟩) (m + 1) k, .string (str n), sbV s] w fun e w' => PutPost w t En C gs p (p ++ l :: ls) n s e w' := by
  obtain ⟨c0, c1, c2⟩ := h.cells hx
  have hlk := (h.alloc (boxOf s)).look_kid hx l hl
  have hlk2 := (h.alloc (boxOf s)).drew.look_kid hx l hl
  rw [hy] at hlk hlk2
  simp only [ptrV] at hlk hlk2
  have hlt := h.lt ⟨p, x, hx, .inl rfl⟩
  obtain ⟨off', ho, hsl⟩ := slice_tl (m + 1) B off k (by omega) hk hk2
  have hm1 : (0 : Int) < ((m : Int) + 1) := by omega
  have HI := Lib.hid (fun W hb => hIH W off' (fun h => ho (by omega)) hb)
  have H := Lib.hid (And.intro h (And.intro hx hle))
  clear hIH c1 c2 ho h hy hx hle
  obtain ⟨i, hi⟩ : ∃ i, (En (p ++ l :: ls) n).isSome = i := ⟨_, rfl⟩
  unfold PutPost at HI ⊢
  rw [hi] at HI ⊢
  have Hi := Lib.hid hi
  clear hi
  simp only [Nat.add_sub_cancel] at hsl
  unfold sbV at HI ⊢
  go_enter Tryz.func68, Tryz.ntmps68
  go_wp2_with fail
  generalize hwq : w.alloc (boxOf s) = wq at hlk hlk2 ⊢
  have hs1 : w.heap.size < wq.heap.size := by rw [← hwq]; simp
  have hbq : Below w.heap.size w wq := by rw [← hwq]; exact (Below.refl _ w).alloc (Nat.le_refl _) _
  have hrq : wq.heap[w.heap.size]? = some (boxOf s) := by rw [← hwq]; exact (MapKept.heap_alloc w _).1
  have d0 := hbq.cell (p := ⟨x.b, 0, none⟩) hlt; rw [c0] at d0
  have dc := hbq.cell (p := ⟨B, off, none⟩) hB; rw [hc] at dc
  obtain ⟨b3, b0, b1, b2, -, -, -⟩ := box3 hrq
  have HX := Lib.hid (And.intro hs1 (And.intro hbq hrq))
  have HB := Lib.hid (show Below w.heap.size w wq.drew from ⟨hbq.os, hbq.tape, hbq.output, hbq.size, hbq.block⟩)
  clear hwq hs1 hbq hrq c0 hc
  go_region_with (go_at_call 68; (refine (HI.out wq.drew HB.out).mono ?_; rintro e wz ⟨rfl, t', ht'⟩; have HP := Lib.hid ht'; clear ht'))
  all_goals
    obtain ⟨hT, hdom, hold, hfoot, hkp⟩ := HP.out
    rw [Hi.out] at hT
    have hx' := hold p x H.out.2.1
    obtain ⟨-, -, c2⟩ := hT.cells hx'
    rw [addP_off] at c2
    have z2 := (box3 (hT.row p x hx')).2.2.2.2.2.2
    have hxl := hT.lt ⟨p, x, hx', .inl rfl⟩
    have hle := H.out.2.2
    have hC : (IntKind.i64.wrap ((C p : Int) + 1)) = ((C p + 1 : Nat) : Int) := by rw [IntKind.wrap_i64]; omega
    have hK : Kp (Foot t) w wz := (Kp.of_below (F := Foot t) HB.out).trans hkp
    have hdom' : ∀ q, (t' q).isSome = true ↔ (t q).isSome = true ∨ (p <+: q ∧ q <+: p ++ l :: ls) := fun q => (hdom q).trans ⟨fun h => h.elim .inl fun h => .inr (pre_next.2 (.inr h)), fun h => h.elim .inl fun h => (pre_next.1 h).elim (fun e => .inl (by rw [e, H.out.2.1]; rfl)) .inr⟩
    have hfoot' : ∀ k, Foot t' k → Foot t k ∨ w.heap.size ≤ k := fun k hk => (hfoot k hk).imp_right fun h => Nat.le_trans HB.out.size h
    have HK := Lib.hid (And.intro hT (And.intro hx' (And.intro hK (And.intro hdom' (And.intro hfoot' hold)))))
    clear hT hdom hold hfoot hkp hx' hle hK hdom' hfoot' d0 dc b0 b1 b2 b3 hlk hlk2
    obtain ⟨cp, hcp⟩ : ∃ cp, C p = cp := ⟨_, rfl⟩
    rw [hcp] at c2 hC
    cases i with
    | true =>
      go_wp2
      go_ret
      obtain ⟨hT, hx', hK, hdom', hfoot', hold⟩ := HK.out
      rw [addP_true] at hT
      exact ⟨rfl, t', { tree := by rw [Hi.out, addP_true]; exact hT, dom := hdom', old := hold, foot := hfoot', kp := hK }⟩
    | false =>
      go_wp2
      go_ret
      obtain ⟨hT, hx', hK, hdom', hfoot', hold⟩ := HK.out
      obtain ⟨hS, hK2⟩ := hT.sized hx' (cp + 1) (by have := H.out.2.2; omega)
      rw [← hcp, addP_next] at hS
      exact ⟨rfl, t', { tree := by rw [Hi.out]; rw [← hcp]; exact hS, dom := hdom', old := hold, foot := hfoot', kp := by rw [← hcp] at hK2 ⊢; exact hK.trans' hK2 fun k hk hf => (hfoot' k hf).resolve_right (Nat.not_le.2 hk) }⟩
end Go.Proofs.YtgcfgheamaoceaaGreatDoor
/- Layer 14: put, where a branch is new; put, whole. -/
namespace Go.Proofs.YtgcfgheamaoceaaGreatDoor
open Go.RowKit Go.MapKept Go.ChangeMaps

variable {w w' : World} {t : Tr} {En : Pth → Txt → Option Sb} {C : Pth → Nat} {gs : List (Pth × Txt)}
structure NewNd (w : World) (y : Nd) (w' : World) : Prop where
  below : Below w.heap.size w w'
  high : w.heap.size ≤ y.b ∧ w.heap.size ≤ y.n ∧ w.heap.size ≤ y.e
  own : y.b ≠ y.n ∧ y.b ≠ y.e ∧ y.n ≠ y.e
  n : w'.heap[y.n]? = some (.map #[] 0)
  e : w'.heap[y.e]? = some (.map #[] 0)
  b : w'.heap[y.b]? = some (.cells #[.map (some y.n), .map (some y.e), .int .i64 0] 84 (0, 0))
theorem bare_new (w : World) : Calls Tryz.prog 30 #[] w fun e w' => ∃ y : Nd, e = .returned (.pointer (some ⟨y.b, 0, none⟩)) ∧ NewNd w y w' := by
  refine (bare_any w).mono ?_
  rintro e w' ⟨rfl, hb, h1, h2, h3, -⟩
  exact ⟨⟨w.heap.size + 2, w.heap.size, w.heap.size + 1⟩, rfl, hb, ⟨Nat.le_add_right _ _, Nat.le_refl _, Nat.le_add_right _ _⟩, ⟨by simp, by simp, by simp⟩, h1, h2, h3⟩
theorem TreeAt.few_kid (h : TreeAt w t En C gs) {p : Pth} {l : Txt} (hg : ∃ r ∈ gs, p ++ [l] <+: r.1) (v : Value) : Few (putT (kidV t p) l v) := by
  have hL : ∀ m : Txt, (∃ r ∈ gs, p ++ [m] <+: r.1) → m ∈ gs.map fun r => r.1.getD p.length [] := fun m ⟨r, hr, s, hs⟩ => by
    refine List.mem_map.2 ⟨r, hr, ?_⟩
    rw [← hs]
    simp [List.getD]
  refine ⟨gs.map fun r => r.1.getD p.length [], by simpa using h.few, fun m hm => ?_⟩
  unfold putT at hm
  by_cases e : m = l
  · rw [e]; exact hL l hg
  · rw [if_neg e] at hm
    unfold kidV at hm
    rw [Option.isSome_map] at hm
    exact hL m (h.cover (p ++ [m]) (by simp) hm)
set_option maxRecDepth 100000 in
set_option maxHeartbeats 2000000 in
/-- The branch further on is not there yet. -/
theorem put_new (h : TreeAt w t En C gs) {p : Pth} {x : Nd} (hx : t p = some x) (B off k m : Nat) (l n : Txt) (ls : Pth) (hy : t (p ++ [l]) = none) (hl : l.length ≤ maxLen) (hB : B < w.heap.size) (hBF : ¬ Foot t B) (hk : m + 1 ≤ k) (hk2 : k ≤ 9223372036854775807) (hc : w.cell? ⟨B, off, none⟩ = some (.string (str l))) (s : Sb) (hle : C p < 5000) (hg : ∃ r ∈ gs, p ++ [l] <+: r.1)
    (hIH : ∀ W y off', (1 ≤ m → off' = off + 1) → W.heap[B]? = w.heap[B]? → B < W.heap.size → ¬ Foot (putN t (p ++ [l]) (some y)) B → TreeAt W (putN t (p ++ [l]) (some y)) En C gs → Calls Tryz.prog 68 #[.pointer (some ⟨y.b, 0, none⟩), .slice (some ⟨B, off', none⟩) m (k - 1), .string (str n), sbV s] W fun e w' => PutPost W (putN t (p ++ [l]) (some y)) En C gs (p ++ [l]) (p ++ l :: ls) n s e w') :
    Calls Tryz.prog 68 #[.pointer (some ⟨x.b, 0, none⟩), .slice (some ⟨B, off, none⟩) (m + 1) k, .string (str n), sbV s] w fun e w' => PutPost w t En C gs p (p ++ l :: ls) n s e w' := by
  obtain ⟨c0, c1, c2⟩ := h.cells hx
  have hlk := (h.alloc (boxOf s)).look_kid hx l hl
  rw [hy] at hlk
  simp only [ptrV] at hlk
  have hlt := h.lt ⟨p, x, hx, .inl rfl⟩
  obtain ⟨off', ho, hsl⟩ := slice_tl (m + 1) B off k (by omega) hk hk2
  have hm1 : (0 : Int) < ((m : Int) + 1) := by omega
  have HI := Lib.hid (fun W y h1 h2 h3 h4 => hIH W y off' (fun h => ho (by omega)) h1 h2 h3 h4)
  have hT0 := (h.alloc (boxOf s)).drew
  have hxn := (h.own p x hx).1
  have hBx : B ≠ x.n := fun e => hBF ⟨p, x, hx, .inr (.inl e)⟩
  have H := Lib.hid (And.intro h (And.intro hx (And.intro hle (And.intro hg (And.intro hBF hy)))))
  clear hIH c1 c2 ho h hx hle hBF hy hg
  simp only [Nat.add_sub_cancel] at hsl
  obtain ⟨i, hi⟩ : ∃ i, (En (p ++ l :: ls) n).isSome = i := ⟨_, rfl⟩
  unfold PutPost at HI ⊢
  rw [hi] at HI ⊢
  have Hi := Lib.hid hi
  clear hi
  unfold sbV at HI ⊢
  go_enter Tryz.func68, Tryz.ntmps68
  go_wp2_with fail
  generalize hwq : w.alloc (boxOf s) = wq at hlk hT0 ⊢
  have hs1 : w.heap.size < wq.heap.size := by rw [← hwq]; simp
  have hbq : Below w.heap.size w wq := by rw [← hwq]; exact (Below.refl _ w).alloc (Nat.le_refl _) _
  have hrq : wq.drew.heap[w.heap.size]? = some (boxOf s) := by rw [← hwq]; exact (MapKept.heap_alloc w _).1
  have d0 := hbq.cell (p := ⟨x.b, 0, none⟩) hlt; rw [c0] at d0
  have HB := Lib.hid (show Below w.heap.size w wq.drew from ⟨hbq.os, hbq.tape, hbq.output, hbq.size, hbq.block⟩)
  have HX := Lib.hid (And.intro (show w.heap.size < wq.drew.heap.size from hs1) (And.intro hrq hT0))
  have HC := Lib.hid (And.intro c0 hc)
  clear hwq hs1 hbq hrq c0 hc hT0
  go_region_with (go_at_call 30; (refine (bare_new _).mono ?_; rintro e wb ⟨y, rfl, hn⟩; obtain ⟨w2, r2, m2, g2⟩ := ((HX.out.2.2.below hn.below).kids p x H.out.2.1).put (T := 81) (E := 54) Tryz.underlying9 Tryz.underlying81 (str l) hl (.pointer (some ⟨y.b, 0, none⟩)) (by rw [str_toList]; exact H.out.1.few_kid H.out.2.2.2.1 _); have e0 := ((HX.out.2.2.below hn.below).cells H.out.2.1).1; have HN := Lib.hid (And.intro hn (And.intro m2 g2)); clear hn m2 g2))
  all_goals
    obtain ⟨hn, m2, g2⟩ := HN.out
    rw [str_toList] at m2
    obtain ⟨hT2, hK2⟩ := HX.out.2.2.grow H.out.2.1 H.out.2.2.2.2.2 hn.below hn.high hn.own hn.n hn.e hn.b g2 m2 H.out.2.2.2.1
    have hold0 : ∀ q z, t q = some z → putN t (p ++ [l]) (some y) q = some z := fun q z hz => by
      unfold putN
      rw [if_neg (fun e => by rw [e, H.out.2.2.2.2.2] at hz; cases hz)]
      exact hz
    have hx' := hold0 p x H.out.2.1
    have hy' : putN t (p ++ [l]) (some y) (p ++ [l]) = some y := by unfold putN; rw [if_pos rfl]
    have hK : Kp (Foot t) w w2 := (Kp.of_below (F := Foot t) HB.out).trans hK2
    have hrow : w2.heap[w.heap.size]? = some (boxOf s) := by
      have e1 := hn.below.block w.heap.size HX.out.1
      have e2 := g2.block w.heap.size (Nat.lt_of_lt_of_le HX.out.1 hn.below.size) (fun e => by
        injection e with e
        have := H.out.1.lt ⟨p, x, H.out.2.1, .inr (.inl rfl)⟩
        omega)
      rw [e2, e1]; exact HX.out.2.1
    have hBk : w2.heap[B]? = w.heap[B]? := hK.block B hB H.out.2.2.2.2.1
    obtain ⟨f0, -, -⟩ := hT2.cells hx'
    have fc := (World.cell?_of_block (a := ⟨B, off, none⟩) hBk).trans HC.out.2
    obtain ⟨b3, b0, b1, b2, -, -, -⟩ := box3 hrow
    have hB2 : B < w2.heap.size := Nat.lt_of_lt_of_le hB hK.size
    have hxl2 := hT2.lt ⟨p, x, hx', .inl rfl⟩
    have L1 := hT2.look_kid hx' l hl
    have L2 := hT2.drew.look_kid hx' l hl
    rw [hy'] at L1 L2
    simp only [ptrV] at L1 L2
    have hfoot0 : ∀ k, Foot (putN t (p ++ [l]) (some y)) k → Foot t k ∨ w.heap.size ≤ k := fun k hk => (putN_foot hk).imp_right fun h => by
      have := HB.out.size
      rcases h with rfl | rfl | rfl
      · exact Nat.le_trans this hn.high.1
      · exact Nat.le_trans this hn.high.2.1
      · exact Nat.le_trans this hn.high.2.2
    have hBF : ¬ Foot (putN t (p ++ [l]) (some y)) B := fun h => (hfoot0 B h).elim H.out.2.2.2.2.1 fun h => by omega
    have HT := Lib.hid (And.intro hT2 (And.intro hx' (And.intro hK (And.intro hBk (And.intro hB2 (And.intro hBF (And.intro hold0 hfoot0)))))))
    clear hn m2 g2 hT2 hK2 hold0 hx' hy' hK hrow hBk hBF hfoot0 d0 e0 r2 hlk HC
    go_wp2_with fail
    go_region_with (go_at_call 68; go_loud (refine (HI.out w2.drew y HT.out.2.2.2.1 HT.out.2.2.2.2.1 HT.out.2.2.2.2.2.1 HT.out.1.drew).mono ?_; rintro e wz ⟨rfl, t', ht'⟩; have HP := Lib.hid ht'; clear ht'))
    all_goals
      obtain ⟨hT, hdom, hold, hfoot, hkp⟩ := HP.out
      obtain ⟨hT2, hx2, hK2, -, -, -, hold0, hfoot0⟩ := HT.out
      rw [Hi.out] at hT
      have hx' := hold p x hx2
      obtain ⟨-, -, c2⟩ := hT.cells hx'
      rw [addP_off] at c2
      have z2 := (box3 (hT.row p x hx')).2.2.2.2.2.2
      have hxl := hT.lt ⟨p, x, hx', .inl rfl⟩
      have hle := H.out.2.2.1
      have hC : (IntKind.i64.wrap ((C p : Int) + 1)) = ((C p + 1 : Nat) : Int) := by rw [IntKind.wrap_i64]; omega
      have hK : Kp (Foot t) w wz := hK2.drew.trans' hkp fun k hk hf => (hfoot0 k hf).resolve_right (Nat.not_le.2 hk)
      have hfoot' : ∀ k, Foot t' k → Foot t k ∨ w.heap.size ≤ k := fun k hk => (hfoot k hk).elim (hfoot0 k) fun h => .inr (Nat.le_trans hK2.size h)
      have hdom' : ∀ q, (t' q).isSome = true ↔ (t q).isSome = true ∨ (p <+: q ∧ q <+: p ++ l :: ls) := fun q => by
        rw [hdom q, pre_next]
        unfold putN
        by_cases e : q = p ++ [l]
        · subst e
          simp only [if_true, Option.isSome_some, true_or, true_iff]
          exact .inr (.inr ⟨List.prefix_rfl, ⟨ls, by simp⟩⟩)
        · rw [if_neg e]
          exact ⟨fun h => h.elim .inl fun h => .inr (.inr h), fun h => h.elim .inl fun h => h.elim (fun e => .inl (by rw [e, H.out.2.1]; rfl)) .inr⟩
      have hold' : ∀ q z, t q = some z → t' q = some z := fun q z hz => hold q z (hold0 q z hz)
      have HK := Lib.hid (And.intro hT (And.intro hx' (And.intro hK (And.intro hdom' (And.intro hfoot' hold')))))
      clear hT hdom hold hfoot hkp hx' hle hK hdom' hfoot' hold' hT2 hx2 hK2 hold0 hfoot0 f0 fc b0 b1 b2 b3 L1 L2
      obtain ⟨cp, hcp⟩ : ∃ cp, C p = cp := ⟨_, rfl⟩
      rw [hcp] at c2 hC
      cases i with
      | true =>
        go_wp2
        go_ret
        obtain ⟨hT, hx', hK, hdom', hfoot', hold⟩ := HK.out
        rw [addP_true] at hT
        exact ⟨rfl, t', { tree := by rw [Hi.out, addP_true]; exact hT, dom := hdom', old := hold, foot := hfoot', kp := hK }⟩
      | false =>
        go_wp2
        go_ret
        obtain ⟨hT, hx', hK, hdom', hfoot', hold⟩ := HK.out
        obtain ⟨hS, hK2⟩ := hT.sized hx' (cp + 1) (by have := H.out.2.2.1; omega)
        rw [← hcp, addP_next] at hS
        exact ⟨rfl, t', { tree := by rw [Hi.out]; rw [← hcp]; exact hS, dom := hdom', old := hold, foot := hfoot', kp := by rw [← hcp] at hK2 ⊢; exact hK.trans' hK2 fun k hk hf => (hfoot' k hf).resolve_right (Nat.not_le.2 hk) }⟩
/-- put: at any branch. -/
theorem put_any (n : Txt) (s : Sb) (hn : n.length ≤ maxLen) (hle : ∀ q, C q < 5000) : ∀ (ls p : Pth) (t : Tr) (x : Nd) (w : World) (B off k : Nat), TreeAt w t En C gs → t p = some x → (p ++ ls, n) ∈ gs → (∀ l ∈ ls, l.length ≤ maxLen) → B < w.heap.size → ¬ Foot t B → ls.length ≤ k → k ≤ 9223372036854775807 → LvAt w B off ls →
    Calls Tryz.prog 68 #[.pointer (some ⟨x.b, 0, none⟩), .slice (some ⟨B, off, none⟩) ls.length k, .string (str n), sbV s] w fun e w' => PutPost w t En C gs p (p ++ ls) n s e w'
  | [], p, t, x, w, B, off, k, h, hx, hg, _, _, _, _, _, _ => by
    rw [List.append_nil] at hg ⊢
    refine (put_here h hx _ _ n s hn hg (hle p)).mono ?_
    rintro e w' ⟨rfl, hT, hK⟩
    exact ⟨rfl, t, { tree := by rw [addP_same]; exact hT, dom := fun q => ⟨.inl, fun h => h.elim id fun h => by rw [pre_anti h.1 h.2, hx]; rfl⟩, old := fun q y hy => hy, foot := fun k hk => .inl hk, kp := hK }⟩
  | l :: ls, p, t, x, w, B, off, k, h, hx, hg, hls, hB, hBF, hk, hk2, hlv => by
    have hlvW : ∀ (W : World) (off' : Nat), (1 ≤ ls.length → off' = off + 1) → W.heap[B]? = w.heap[B]? → LvAt W B off' ls := fun W off' ho hb => by
      cases ls with
      | nil => intro j x hj; cases hj
      | cons m ls => rw [ho (by simp)]; exact hlv.tl.block hb
    have hg' : (p ++ [l] ++ ls, n) ∈ gs := by rw [List.append_assoc]; exact hg
    cases hy : t (p ++ [l]) with
    | some y =>
      refine put_next h hx B off k ls.length l n ls hy (hls l (by simp)) hB hk hk2 (hlv 0 l rfl) s (hle p) fun W off' ho hb => ?_
      have := put_any n s hn hle ls (p ++ [l]) t y W B off' (k - 1) (h.below hb) hy hg' (fun m hm => hls m (by simp [hm])) (Nat.lt_of_lt_of_le hB hb.size) hBF (by simp at hk; omega) (by omega) (hlvW W off' ho (hb.block B hB))
      rw [List.append_assoc] at this
      exact this
    | none =>
      refine put_new h hx B off k ls.length l n ls hy (hls l (by simp)) hB hBF hk hk2 (hlv 0 l rfl) s (hle p) ⟨_, hg, ⟨ls, by simp⟩⟩ fun W y off' ho hb hB2 hBF2 hT => ?_
      have := put_any n s hn hle ls (p ++ [l]) _ y W B off' (k - 1) hT (by unfold putN; rw [if_pos rfl]) hg' (fun m hm => hls m (by simp [hm])) hB2 hBF2 (by simp at hk; omega) (by omega) (hlvW W off' ho hb)
      rw [List.append_assoc] at this
      exact this
end Go.Proofs.YtgcfgheamaoceaaGreatDoor
/- Layer 14: drop. -/
namespace Go.Proofs.YtgcfgheamaoceaaGreatDoor
open Go.RowKit Go.MapKept Go.ChangeMaps

variable {w w' : World} {t : Tr} {En : Pth → Txt → Option Sb} {C : Pth → Nat} {gs : List (Pth × Txt)}
theorem putE_del (En : Pth → Txt → Option Sb) (p : Pth) (n : Txt) : endV (putE En p n none) p = delT (endV En p) n := by
  funext c
  unfold endV putE delT
  by_cases hc : c = n
  · simp [hc]
  · simp [hc]
theorem putE_same {En : Pth → Txt → Option Sb} {r : Pth} {n : Txt} (h : En r n = none) : putE En r n none = En := by
  funext q c
  unfold putE
  by_cases e : q = r ∧ c = n
  · rw [if_pos e, e.1, e.2, h]
  · rw [if_neg e]
/-- One less at each branch from p on to r. -/
def subP (C : Pth → Nat) (p r : Pth) : Pth → Nat := fun q => if p <+: q ∧ q <+: r then C q - 1 else C q
/-- Without those behind p at which but one was. -/
def cutP (t : Tr) (C : Pth → Nat) (p r : Pth) : Tr := fun q => if p <+: q ∧ q ≠ p ∧ q <+: r ∧ C q = 1 then none else t q
theorem subP_same (C : Pth → Nat) (p : Pth) : subP C p p = fun q => if q = p then C p - 1 else C q := by
  funext q
  unfold subP
  by_cases hq : q = p
  · subst hq; simp
  · rw [if_neg hq, if_neg (fun h => hq (pre_anti h.1 h.2))]
theorem cutP_same (t : Tr) (C : Pth → Nat) (p : Pth) : cutP t C p p = t := by
  funext q
  unfold cutP
  rw [if_neg (fun h => h.2.1 (pre_anti h.1 h.2.2.1))]
theorem subP_next (C : Pth → Nat) (p : Pth) (l : Txt) (ls : Pth) : (fun q => if q = p then C p - 1 else subP C (p ++ [l]) (p ++ l :: ls) q) = subP C p (p ++ l :: ls) := by
  funext q
  by_cases hq : q = p
  · subst hq
    unfold subP
    rw [if_pos rfl, if_pos (pre_next.2 (.inl rfl))]
  · have : (p <+: q ∧ q <+: p ++ l :: ls) ↔ (p ++ [l] <+: q ∧ q <+: p ++ l :: ls) := pre_next.trans ⟨fun h => h.resolve_left hq, .inr⟩
    unfold subP
    simp only [if_neg hq, this]
theorem subP_off (C : Pth → Nat) (p : Pth) (l : Txt) (r : Pth) : subP C (p ++ [l]) r p = C p := by
  unfold subP
  rw [if_neg (fun h => not_on p l h.1)]
theorem kid_ne (p : Pth) (l : Txt) : p ++ [l] ≠ p := fun h => by
  have := congrArg List.length h
  simp at this
theorem on_kid (p : Pth) (l : Txt) (ls : Pth) : p ++ [l] <+: p ++ l :: ls := ⟨ls, by simp⟩
theorem cutP_keep {t : Tr} {C : Pth → Nat} {p : Pth} {l : Txt} {ls : Pth} (h : C (p ++ [l]) ≠ 1) : cutP t C (p ++ [l]) (p ++ l :: ls) = cutP t C p (p ++ l :: ls) := by
  funext q
  unfold cutP
  by_cases hq : q = p ++ [l]
  · subst hq
    rw [if_neg (fun e => e.2.1 rfl), if_neg (fun e => h e.2.2.2)]
  · have e : (p ++ [l] <+: q ∧ q ≠ p ++ [l] ∧ q <+: p ++ l :: ls ∧ C q = 1) ↔ (p <+: q ∧ q ≠ p ∧ q <+: p ++ l :: ls ∧ C q = 1) := by
      constructor
      · rintro ⟨h1, -, h3, h4⟩
        refine ⟨(pre_next.2 (.inr ⟨h1, h3⟩)).1, fun e => ?_, h3, h4⟩
        rw [e] at h1
        exact not_on p l h1
      · rintro ⟨h1, h2, h3, h4⟩
        exact ⟨((pre_next.1 ⟨h1, h3⟩).resolve_left h2).1, hq, h3, h4⟩
    simp only [e]
theorem cutP_cut {t : Tr} {C : Pth → Nat} {p : Pth} {l : Txt} {ls : Pth} (h : C (p ++ [l]) = 1) : putN (cutP t C (p ++ [l]) (p ++ l :: ls)) (p ++ [l]) none = cutP t C p (p ++ l :: ls) := by
  funext q
  unfold putN
  by_cases hq : q = p ++ [l]
  · subst hq
    unfold cutP
    rw [if_pos rfl, if_pos ⟨List.prefix_append _ _, kid_ne p l, on_kid p l ls, h⟩]
  · rw [if_neg hq]
    unfold cutP
    have e : (p ++ [l] <+: q ∧ q ≠ p ++ [l] ∧ q <+: p ++ l :: ls ∧ C q = 1) ↔ (p <+: q ∧ q ≠ p ∧ q <+: p ++ l :: ls ∧ C q = 1) := by
      constructor
      · rintro ⟨h1, -, h3, h4⟩
        refine ⟨(pre_next.2 (.inr ⟨h1, h3⟩)).1, fun e => ?_, h3, h4⟩
        rw [e] at h1
        exact not_on p l h1
      · rintro ⟨h1, h2, h3, h4⟩
        exact ⟨((pre_next.1 ⟨h1, h3⟩).resolve_left h2).1, hq, h3, h4⟩
    simp only [e]
/-- Where but one is at a branch that leads to r, it is what stands at r by that name. -/
structure Solo (t : Tr) (En : Pth → Txt → Option Sb) (C : Pth → Nat) (r : Pth) (n : Txt) : Prop where
  kid : ∀ q m, q ≠ [] → C q = 1 → q <+: r → (t (q ++ [m])).isSome = true → q ++ [m] <+: r ∧ C (q ++ [m]) = 1
  ent : ∀ q c, q ≠ [] → C q = 1 → q <+: r → (En q c).isSome = true → q = r ∧ c = n
  pos : ∀ q, q <+: r → (t q).isSome = true → 0 < C q
/-- A branch at which nothing ends, behind which none is: it goes. -/
theorem TreeAt.prune (h : TreeAt w t En C gs) {p : Pth} {x : Nd} (hx : t p = some x) {l : Txt} (hg : w.grownBy w' (some x.n)) (hm : SMap Tryz.prog 9 w' x.n (delT (kidV t p) l))
    (hk : ∀ m, t (p ++ [l] ++ [m]) = none) (he : ∀ c, En (p ++ [l]) c = none) (hC : C (p ++ [l]) = 0) : TreeAt w' (putN t (p ++ [l]) none) En C gs ∧ Kp (Foot t) w w' := by
  have hold : ∀ k, Foot t k → k ≠ x.n → w'.heap[k]? = w.heap[k]? := fun k hk hne => hg.block k (h.lt hk) fun e => hne (by injection e)
  have hput : ∀ (q : Pth) (z : Nd), putN t (p ++ [l]) none q = some z → q ≠ p ++ [l] ∧ t q = some z := fun q z hz => by
    unfold putN at hz
    by_cases e : q = p ++ [l]
    · rw [if_pos e] at hz; cases hz
    · rw [if_neg e] at hz; exact ⟨e, hz⟩
  have hsome : ∀ q, (putN t (p ++ [l]) none q).isSome = true → q ≠ p ++ [l] ∧ (t q).isSome = true := fun q hq => by
    unfold putN at hq
    by_cases e : q = p ++ [l]
    · rw [if_pos e] at hq; cases hq
    · rw [if_neg e] at hq; exact ⟨e, hq⟩
  have hkeep : ∀ q, q ≠ p ++ [l] → putN t (p ++ [l]) none q = t q := fun q hq => by unfold putN; rw [if_neg hq]
  refine ⟨{ h with
    row := fun q z hz => ?_
    kids := fun q z hz => ?_
    ends := fun q z hz => ?_
    one := fun q r z u k hz hu k1 k2 => h.one q r z u k (hput q z hz).2 (hput r u hu).2 k1 k2
    own := fun q z hz => h.own q z (hput q z hz).2
    clos := fun q m hq => ?_
    ent := fun q c hc => ?_
    none' := fun q hq => ?_
    cover := fun q hq hs => h.cover q hq (hsome q hs).2 }, Kp.of_grown hg ⟨p, x, hx, .inr (.inl rfl)⟩⟩
  · have hz2 := (hput q z hz).2
    exact (hold z.b ⟨q, z, hz2, .inl rfl⟩ fun e => by
        obtain rfl : q = p := h.one q p z x z.b hz2 hx (.inl rfl) (.inr (.inl e))
        obtain rfl : z = x := Option.some.inj (hz2.symm.trans hx)
        exact (h.own q z hz2).1 e).trans (h.row q z hz2)
  · have hz2 := (hput q z hz).2
    by_cases hqp : q = p
    · subst hqp
      obtain rfl : z = x := Option.some.inj (hz2.symm.trans hx)
      have e : kidV (putN t (q ++ [l]) none) q = delT (kidV t q) l := by
        funext m
        unfold kidV putN delT
        by_cases hml : m = l
        · subst hml; simp
        · have : q ++ [m] ≠ q ++ [l] := fun e => hml (by simpa using List.append_cancel_left e)
          rw [if_neg this, if_neg hml]
      rw [e]
      exact hm
    · have e : kidV (putN t (p ++ [l]) none) q = kidV t q := by
        funext m
        unfold kidV putN
        have : q ++ [m] ≠ p ++ [l] := fun e => hqp (List.append_inj_left' e rfl)
        rw [if_neg this]
      rw [e]
      exact (h.kids q z hz2).at_block (hold z.n ⟨q, z, hz2, .inr (.inl rfl)⟩ fun e => hqp (h.one q p z x z.n hz2 hx (.inr (.inl rfl)) (.inr (.inl e))))
  · have hz2 := (hput q z hz).2
    refine (h.ends q z hz2).at_block (hold z.e ⟨q, z, hz2, .inr (.inr rfl)⟩ fun e => ?_)
    obtain rfl : q = p := h.one q p z x z.e hz2 hx (.inr (.inr rfl)) (.inr (.inl e))
    obtain rfl : z = x := Option.some.inj (hz2.symm.trans hx)
    exact (h.own q z hz2).2.2 e.symm
  · obtain ⟨-, hq⟩ := hsome _ hq
    have hne : q ≠ p ++ [l] := fun e => by rw [e, hk m] at hq; cases hq
    rw [hkeep q hne]
    exact h.clos q m hq
  · have hne : q ≠ p ++ [l] := fun e => by rw [e, he c] at hc; cases hc
    rw [hkeep q hne]
    exact h.ent q c hc
  · by_cases e : q = p ++ [l]
    · rw [e]; exact hC
    · rw [hkeep q e] at hq; exact h.none' q hq
structure DropTree (w : World) (t : Tr) (En : Pth → Txt → Option Sb) (C : Pth → Nat) (gs : List (Pth × Txt)) (p r : Pth) (n : Txt) (w' : World) : Prop where
  no : En r n = none → TreeAt w' t En C gs
  yes : (En r n).isSome = true → TreeAt w' (cutP t C p r) (putE En r n none) (subP C p r) gs
  kp : Kp (Foot t) w w'
def DropPost (w : World) (t : Tr) (En : Pth → Txt → Option Sb) (C : Pth → Nat) (gs : List (Pth × Txt)) (p r : Pth) (n : Txt) (e : Ending) (w' : World) : Prop := e = .returned (.bool (En r n).isSome) ∧ DropTree w t En C gs p r n w'
set_option maxRecDepth 100000 in
theorem drop_none (w : World) (a b : Value) : Calls Tryz.prog 50 #[.pointer none, a, b] w fun e w' => e = .returned (.bool false) ∧ w = w' := by
  go_enter Tryz.func50, Tryz.ntmps50
  go_wp2
  go_ret
  exact ⟨rfl, rfl⟩
set_option maxRecDepth 100000 in
set_option maxHeartbeats 2000000 in
theorem drop_here (h : TreeAt w t En C gs) {p : Pth} {x : Nd} (hx : t p = some x) (a : Option Addr) (k : Nat) (n : Txt) (hn : n.length ≤ maxLen) (hpos : 0 < C p) :
    Calls Tryz.prog 50 #[.pointer (some ⟨x.b, 0, none⟩), .slice a 0 k, .string (str n)] w fun e w' => DropPost w t En C gs p p n e w' := by
  obtain ⟨c0, c1, c2⟩ := h.cells hx
  have hlk := h.look_end hx n hn
  have hlt := h.lt ⟨p, x, hx, .inl rfl⟩
  obtain ⟨sa, sb, sq, hsf⟩ := sbO_form (En p n)
  rw [hsf] at hlk
  obtain ⟨i, hi⟩ : ∃ i, (En p n).isSome = i := ⟨_, rfl⟩
  rw [hi] at hlk
  obtain ⟨w1, r1, m1, g1⟩ := (h.ends p x hx).drop (T := 82) (E := 31) Tryz.underlying9 Tryz.underlying82 (str n) hn 0
  rw [str_toList, ← putE_del] at m1
  obtain ⟨hT1, hK1⟩ := h.ended hx g1 m1 (fun q hq c => by unfold putE; rw [if_neg (fun e => hq e.1)]) (fun q c hc => by
    unfold putE at hc
    by_cases e : q = p ∧ c = n
    · rw [if_pos e] at hc; cases hc
    · rw [if_neg e] at hc; exact h.ents q c hc)
  obtain ⟨-, -, k2⟩ := hT1.cells hx
  have z2 := (box3 (hT1.row p x hx)).2.2.2.2.2.2
  have hl1 := hT1.lt ⟨p, x, hx, .inl rfl⟩
  have hCle := h.le p
  have HT := Lib.hid (And.intro hT1 (And.intro hK1 (And.intro hx hi)))
  unfold DropPost
  rw [hi]
  clear h hsf hi c0 hT1 hK1 m1 g1 hx
  obtain ⟨cp, hcp⟩ : ∃ cp, C p = cp := ⟨_, rfl⟩
  rw [hcp] at k2 hpos hCle c2
  have hC : (IntKind.i64.wrap ((cp : Int) - 1)) = ((cp - 1 : Nat) : Int) := by rw [IntKind.wrap_i64]; omega
  cases i with
  | false =>
    go_enter Tryz.func50, Tryz.ntmps50
    go_wp2
    go_ret
    obtain ⟨hT1, hK1, hx, hi⟩ := HT.out
    refine ⟨rfl, fun hno => ?_, (fun h => by rw [hi] at h; cases h), hK1⟩
    rw [putE_same hno] at hT1
    exact hT1
  | true =>
    go_enter Tryz.func50, Tryz.ntmps50
    go_wp2
    go_ret
    obtain ⟨hT1, hK1, hx, hi⟩ := HT.out
    obtain ⟨hS, hK2⟩ := hT1.sized hx (cp - 1) (by omega)
    refine ⟨rfl, (fun hno => by rw [hno] at hi; cases hi), fun _ => ?_, hK1.trans hK2⟩
    rw [cutP_same, subP_same, hcp]
    exact hS
set_option maxRecDepth 100000 in
set_option maxHeartbeats 2000000 in
/-- What is behind the first level: nothing of that name. -/
theorem drop_not (h : TreeAt w t En C gs) {p : Pth} {x : Nd} (hx : t p = some x) (B off k m : Nat) (l n : Txt) (ls : Pth) (hl : l.length ≤ maxLen) (hk : m + 1 ≤ k) (hk2 : k ≤ 9223372036854775807) (hc : w.cell? ⟨B, off, none⟩ = some (.string (str l))) (hno : En (p ++ l :: ls) n = none)
    (hIH : ∀ W off', (1 ≤ m → off' = off + 1) → Below w.heap.size w W → Calls Tryz.prog 50 #[ptrV (t (p ++ [l])), .slice (some ⟨B, off', none⟩) m (k - 1), .string (str n)] W fun e w' => DropPost W t En C gs (p ++ [l]) (p ++ l :: ls) n e w') :
    Calls Tryz.prog 50 #[.pointer (some ⟨x.b, 0, none⟩), .slice (some ⟨B, off, none⟩) (m + 1) k, .string (str n)] w fun e w' => DropPost w t En C gs p (p ++ l :: ls) n e w' := by
  obtain ⟨c0, c1, c2⟩ := h.cells hx
  have hlk := h.drew.look_kid hx l hl
  have hlt := h.lt ⟨p, x, hx, .inl rfl⟩
  obtain ⟨off', ho, hsl⟩ := slice_tl (m + 1) B off k (by omega) hk hk2
  have hm1 : (0 : Int) < ((m : Int) + 1) := by omega
  have HI := Lib.hid (fun W hb => hIH W off' (fun h => ho (by omega)) hb)
  unfold DropPost at HI ⊢
  rw [hno] at HI ⊢
  obtain ⟨v, hv⟩ : ∃ v, ptrV (t (p ++ [l])) = v := ⟨_, rfl⟩
  rw [hv] at hlk HI
  have Hno := Lib.hid hno
  clear hIH c1 c2 ho h hx hv hno
  simp only [Nat.add_sub_cancel] at hsl
  simp only [Option.isSome_none] at HI ⊢
  go_enter Tryz.func50, Tryz.ntmps50
  go_wp2_with fail
  go_region_with fail
  all_goals
    go_wp2_with fail
    refine (HI.out w.drew ⟨rfl, rfl, rfl, Nat.le_refl _, fun _ _ => rfl⟩).mono ?_
    rintro e wz ⟨rfl, hd⟩
    have HD := Lib.hid hd
    clear hd
    go_wp2
    go_ret
    exact ⟨rfl, HD.out.no, (fun h => by rw [Hno.out] at h; cases h), (Kp.of_below (F := Foot t) (⟨rfl, rfl, rfl, Nat.le_refl _, fun _ _ => rfl⟩ : Below w.heap.size w w.drew)).trans HD.out.kp⟩
set_option maxRecDepth 100000 in
set_option maxHeartbeats 4000000 in
/-- What is behind the first level: one of that name. -/
theorem drop_yes (h : TreeAt w t En C gs) {p : Pth} {x y : Nd} (hx : t p = some x) (B off k m : Nat) (l n : Txt) (ls : Pth) (hy : t (p ++ [l]) = some y) (hl : l.length ≤ maxLen) (hB : B < w.heap.size) (hBF : ¬ Foot t B) (hk : m + 1 ≤ k) (hk2 : k ≤ 9223372036854775807) (hc : w.cell? ⟨B, off, none⟩ = some (.string (str l))) (hyes : (En (p ++ l :: ls) n).isSome = true)
    (hS : Solo t En C (p ++ l :: ls) n)
    (hIH : ∀ W off', (1 ≤ m → off' = off + 1) → Below w.heap.size w W → Calls Tryz.prog 50 #[.pointer (some ⟨y.b, 0, none⟩), .slice (some ⟨B, off', none⟩) m (k - 1), .string (str n)] W fun e w' => DropPost W t En C gs (p ++ [l]) (p ++ l :: ls) n e w') :
    Calls Tryz.prog 50 #[.pointer (some ⟨x.b, 0, none⟩), .slice (some ⟨B, off, none⟩) (m + 1) k, .string (str n)] w fun e w' => DropPost w t En C gs p (p ++ l :: ls) n e w' := by
  obtain ⟨c0, c1, c2⟩ := h.cells hx
  have hlk := h.drew.look_kid hx l hl
  rw [hy] at hlk
  simp only [ptrV] at hlk
  have hlt := h.lt ⟨p, x, hx, .inl rfl⟩
  have hxn := (h.own p x hx).1
  obtain ⟨off', ho, hsl⟩ := slice_tl (m + 1) B off k (by omega) hk hk2
  have hm1 : (0 : Int) < ((m : Int) + 1) := by omega
  have HI := Lib.hid (fun W hb => hIH W off' (fun h => ho (by omega)) hb)
  unfold DropPost at HI ⊢
  rw [hyes] at HI ⊢
  have hp1 := hS.pos (p ++ [l]) (on_kid p l ls) (by rw [hy]; rfl)
  have hp0 := hS.pos p ⟨l :: ls, rfl⟩ (by rw [hx]; rfl)
  have hC0 := h.le p
  have H := Lib.hid (And.intro h (And.intro hx (And.intro hy (And.intro hyes (And.intro hS hBF)))))
  have HC := Lib.hid (And.intro c0 hc)
  have hK0 : Kp (Foot t) w w.drew := Kp.of_below ⟨rfl, rfl, rfl, Nat.le_refl _, fun _ _ => rfl⟩
  have HK0 := Lib.hid hK0
  clear hIH c1 c2 ho h hx hy hyes hS hBF hK0
  simp only [Nat.add_sub_cancel] at hsl
  go_enter Tryz.func50, Tryz.ntmps50
  go_wp2_with fail
  go_region_with fail
  all_goals
    go_wp2_with fail
    refine (HI.out w.drew ⟨rfl, rfl, rfl, Nat.le_refl _, fun _ _ => rfl⟩).mono ?_
    rintro e wz ⟨rfl, hd⟩
    have hT1 := hd.yes H.out.2.2.2.1
    have hKz : Kp (Foot t) w wz := HK0.out.trans hd.kp
    have hcx : cutP t C (p ++ [l]) (p ++ l :: ls) p = some x := by
      unfold cutP
      rw [if_neg (fun h => not_on p l h.1)]
      exact H.out.2.1
    have hcy : cutP t C (p ++ [l]) (p ++ l :: ls) (p ++ [l]) = some y := by
      unfold cutP
      rw [if_neg (fun h => h.2.1 rfl)]
      exact H.out.2.2.1
    obtain ⟨x0, -, x2⟩ := hT1.cells hcx
    obtain ⟨-, -, y2⟩ := hT1.cells hcy
    rw [subP_off] at x2
    have e1 : subP C (p ++ [l]) (p ++ l :: ls) (p ++ [l]) = C (p ++ [l]) - 1 := by unfold subP; rw [if_pos ⟨List.prefix_rfl, on_kid p l ls⟩]
    rw [e1] at y2
    have zx := (box3 (hT1.row p x hcx)).2.2.2.2.2.2
    have lx := hT1.lt ⟨p, x, hcx, .inl rfl⟩
    have ly := hT1.lt ⟨_, y, hcy, .inl rfl⟩
    have hne : x.b ≠ y.b := fun e => kid_ne p l (hT1.one _ _ y x y.b hcy hcx (.inl rfl) (.inl e.symm))
    have hBz : wz.heap[B]? = w.heap[B]? := hKz.block B hB H.out.2.2.2.2.2
    have dc := (World.cell?_of_block (a := ⟨B, off, none⟩) hBz).trans HC.out.2
    have hBl : B < wz.heap.size := Nat.lt_of_lt_of_le hB hKz.size
    have HZ := Lib.hid (And.intro hT1 (And.intro hKz (And.intro hcx hcy)))
    clear hd hT1 hKz hcx hcy hBz e1
    obtain ⟨cp, hcp⟩ : ∃ cp, C p = cp := ⟨_, rfl⟩
    have Hcp := Lib.hid hcp
    rw [hcp] at x2 hp0 hC0
    have hCw : (IntKind.i64.wrap ((cp : Int) - 1)) = ((cp - 1 : Nat) : Int) := by rw [IntKind.wrap_i64]; omega
    clear hcp
    by_cases h1 : C (p ++ [l]) = 1
    · rw [h1] at y2
      have y2 : wz.cell? ⟨y.b, 2, none⟩ = some (.int .i64 0) := y2
      have H1 := Lib.hid h1
      clear h1 hp1
      obtain ⟨w2, r2, m2, g2⟩ := (HZ.out.1.drew.kids p x HZ.out.2.2.1).drop (T := 81) (E := 54) Tryz.underlying9 Tryz.underlying81 (str l) hl 0
      have H2 := Lib.hid (And.intro m2 g2)
      clear m2 g2
      go_wp2_with fail
      go_region_with fail
      all_goals
        obtain ⟨m2, g2⟩ := H2.out
        obtain ⟨hT1, hKz, hcx, hcy⟩ := HZ.out
        obtain ⟨hT, hx, hy, hyes, hS, hBF⟩ := H.out
        rw [str_toList] at m2
        have hnil : p ++ [l] ≠ [] := by simp
        obtain ⟨hT2, hK2⟩ := hT1.drew.prune hcx g2 m2 (fun q => by
          unfold cutP
          cases hq : t (p ++ [l] ++ [q]) with
          | none => split <;> rfl
          | some z =>
            obtain ⟨e1, e2⟩ := hS.kid (p ++ [l]) q hnil H1.out (on_kid p l ls) (by rw [hq]; rfl)
            rw [if_pos ⟨List.prefix_append _ _, kid_ne _ _, e1, e2⟩]) (fun c => by
          unfold putE
          by_cases e : p ++ [l] = p ++ l :: ls ∧ c = n
          · rw [if_pos e]
          · rw [if_neg e]
            cases hE : En (p ++ [l]) c with
            | none => rfl
            | some z => exact absurd (hS.ent (p ++ [l]) c hnil H1.out (on_kid p l ls) (by rw [hE]; rfl)) e) (by unfold subP; rw [if_pos ⟨List.prefix_rfl, on_kid p l ls⟩, H1.out])
        have hcx2 : putN (cutP t C (p ++ [l]) (p ++ l :: ls)) (p ++ [l]) none p = some x := by
          unfold putN
          rw [if_neg (fun e => kid_ne p l e.symm)]
          exact hcx
        obtain ⟨-, -, v2⟩ := hT2.cells hcx2
        rw [subP_off, Hcp.out] at v2
        have vx := (box3 (hT2.row p x hcx2)).2.2.2.2.2.2
        have vl := hT2.lt ⟨p, x, hcx2, .inl rfl⟩
        rw [cutP_cut H1.out] at hT2 hcx2
        have hsub : ∀ k, Foot (cutP t C (p ++ [l]) (p ++ l :: ls)) k → Foot t k := fun k ⟨q, z, hz, hh⟩ => by
          unfold cutP at hz
          split at hz
          · cases hz
          · exact ⟨q, z, hz, hh⟩
        have hsub2 : ∀ k, Foot (cutP t C p (p ++ l :: ls)) k → Foot t k := fun k ⟨q, z, hz, hh⟩ => by
          unfold cutP at hz
          split at hz
          · cases hz
          · exact ⟨q, z, hz, hh⟩
        have hK : Kp (Foot t) w w2 := hKz.drew.trans' hK2 fun k _ hk => hsub k hk
        have HK := Lib.hid (And.intro hT2 (And.intro hcx2 (And.intro hK (And.intro hyes hsub2))))
        clear m2 g2 hT1 hKz hcx hcy hT hx hy hyes hS hBF hT2 hcx2 hK hK2 hsub hsub2 x0 x2 y2 zx dc r2
        go_wp2
        go_ret
        obtain ⟨hT2, hcx2, hK, hyes, hsub2⟩ := HK.out
        obtain ⟨hU, hKU⟩ := hT2.sized hcx2 (cp - 1) (by omega)
        rw [← Hcp.out, subP_next, Hcp.out] at hU
        exact ⟨rfl, (fun h => by rw [h] at hyes; cases hyes), (fun _ => hU), hK.trans' hKU fun k _ hk => hsub2 k hk⟩
    · have hbig : C (p ++ [l]) ≤ 5000 := H.out.1.le _
      have H1 := Lib.hid h1
      obtain ⟨cq, hcq⟩ : ∃ cq, C (p ++ [l]) - 1 = cq := ⟨_, rfl⟩
      have hq0 : ¬ (cq : Int) = 0 := by omega
      have hq1 : ¬ cq = 0 := by omega
      rw [hcq] at y2
      clear h1 hp1 hcq hbig
      go_wp2
      go_ret
      obtain ⟨hT1, hKz, hcx, hcy⟩ := HZ.out
      rw [cutP_keep H1.out] at hT1 hcx
      have hsub2 : ∀ k, Foot (cutP t C p (p ++ l :: ls)) k → Foot t k := fun k ⟨q, z, hz, hh⟩ => by
        unfold cutP at hz
        split at hz
        · cases hz
        · exact ⟨q, z, hz, hh⟩
      have hyes := H.out.2.2.2.1
      obtain ⟨hU, hKU⟩ := hT1.sized hcx (cp - 1) (by omega)
      rw [← Hcp.out, subP_next, Hcp.out] at hU
      exact ⟨rfl, (fun h => by rw [h] at hyes; cases hyes), (fun _ => hU), hKz.trans' hKU fun k _ hk => hsub2 k hk⟩
/-- drop: at any branch, or at none. -/
theorem drop_any (n : Txt) (hn : n.length ≤ maxLen) (r : Pth) (hr0 : r ≠ []) (hS : (En r n).isSome = true → Solo t En C r n) (hpos : ∀ q, q ≠ [] → (t q).isSome = true → 0 < C q) : ∀ (ls p : Pth) (w : World) (B off k : Nat), p ++ ls = r → TreeAt w t En C gs → (∀ l ∈ ls, l.length ≤ maxLen) → B < w.heap.size → ¬ Foot t B → ls.length ≤ k → k ≤ 9223372036854775807 → LvAt w B off ls →
    Calls Tryz.prog 50 #[ptrV (t p), .slice (some ⟨B, off, none⟩) ls.length k, .string (str n)] w fun e w' => DropPost w t En C gs p r n e w'
  | ls, p, w, B, off, k, hr, h, hls, hB, hBF, hk, hk2, hlv => by
    cases hx : t p with
    | none =>
      have hno : En r n = none := by rw [← hr]; exact h.gone hx ls n
      refine (drop_none w _ _).mono ?_
      rintro e w' ⟨rfl, rfl⟩
      refine ⟨by rw [hno]; rfl, (fun _ => h), (fun h => by rw [hno] at h; cases h), Kp.refl _ _⟩
    | some x =>
      match ls, hr, hls, hk, hlv with
      | [], hr, _, _, _ =>
        rw [List.append_nil] at hr
        subst hr
        exact drop_here h hx _ _ n hn (hpos p hr0 (by rw [hx]; rfl))
      | l :: ls, hr, hls, hk, hlv =>
        have hlvW : ∀ (W : World) (off' : Nat), (1 ≤ ls.length → off' = off + 1) → Below w.heap.size w W → LvAt W B off' ls := fun W off' ho hb => by
          cases ls with
          | nil => intro j x hj; cases hj
          | cons m ls => rw [ho (by simp)]; exact hlv.tl.block (hb.block B hB)
        have IH := fun (W : World) (off' : Nat) (ho : 1 ≤ ls.length → off' = off + 1) (hb : Below w.heap.size w W) =>
          drop_any n hn r hr0 hS hpos ls (p ++ [l]) W B off' (k - 1) (by rw [List.append_assoc]; exact hr) (h.below hb) (fun m hm => hls m (by simp [hm])) (Nat.lt_of_lt_of_le hB hb.size) hBF (by simp at hk; omega) (by omega) (hlvW W off' ho hb)
        subst hr
        cases hE : En (p ++ l :: ls) n with
        | none => exact drop_not h hx B off k ls.length l n ls (hls l (by simp)) hk hk2 (hlv 0 l rfl) hE IH
        | some s =>
          have hy : (t (p ++ [l])).isSome = true := h.up ls (p ++ [l]) (by rw [List.append_assoc]; exact h.ent _ n (by rw [List.singleton_append, hE]; rfl))
          obtain ⟨y, hy⟩ := Option.isSome_iff_exists.1 hy
          refine drop_yes h hx B off k ls.length l n ls hy (hls l (by simp)) hB hBF hk hk2 (hlv 0 l rfl) (by rw [hE]; rfl) (hS (by rw [hE]; rfl)) fun W off' ho hb => ?_
          have := IH W off' ho hb
          rw [hy] at this
          exact this
  termination_by ls => ls.length
end Go.Proofs.YtgcfgheamaoceaaGreatDoor
