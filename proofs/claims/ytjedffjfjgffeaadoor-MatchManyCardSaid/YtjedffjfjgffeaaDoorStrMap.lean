/- Maps whose keys are texts, whatever their elements (at most 5000): what each reads as is a function from texts to values; what each operation does. Of no program. -/
import Derived.Test.YtjedffjfjgffeaaDoorIntMap
import Derived.Maps.OwnSet
import Derived.StringKeys
namespace Go.Proofs.YtjedffjfjgffeaaDoor
open Go.ChangeMaps Go.MapKept Go.RowKit
open Go.WideElems (Fit rd rg pl rd_val)

abbrev Txt := List UInt8
theorem nodup_le {α : Type} [DecidableEq α] : ∀ (l m : List α), l.Nodup → (∀ x ∈ l, x ∈ m) → l.length ≤ m.length
  | [], _, _, _ => by simp
  | x :: l, m, hn, h => by
    have h1 := nodup_le l (m.erase x) (List.nodup_cons.1 hn).2 (fun y hy => by
      have hne : y ≠ x := fun e => (List.nodup_cons.1 hn).1 (e ▸ hy)
      exact (List.mem_erase_of_ne hne).2 (h y (by simp [hy])))
    have h2 := List.length_erase_of_mem (h x (by simp))
    have h3 := List.length_pos_of_mem (h x (by simp))
    simp only [List.length_cons]
    omega

structure SReads (D : VD) (f : Txt → Option Value) : Prop where
  at_ : ∀ (k : Txt) (zd : VD), D.atKey (.string k) zd = match f k with | some v => .held v | none => zd
  keys : ∀ kl, Maps.has D kl = true → ∃ k : Txt, kl = .string k

theorem SReads.has {D : VD} {f : Txt → Option Value} (h : SReads D f) (k : Txt) : Maps.has D (.string k) = (f k).isSome := by
  cases hf : f k with
  | some v => exact Maps.has_true_of_atKey (y := .held v) (fun z => by rw [h.at_, hf])
  | none => exact Maps.has_false_of_atKey (fun z => by rw [h.at_, hf])

/-- All that is there lies among these few. -/
def Few (f : Txt → Option Value) : Prop := ∃ L : List Txt, L.length ≤ 5000 ∧ ∀ k, (f k).isSome = true → k ∈ L

section
variable {P : Program} {kT : TypeId}

theorem SReads.size {w : World} {b n : Nat} {D : VD} {f : Txt → Option Value} (h : SReads D f) (hF : Few f) (hk : P.underlying kT = some .string) (hown : w.ownsMap P kT heldR b n D) : Maps.size D ≤ 5000 := by
  obtain ⟨es, rfl, hp, hkl⟩ := hown.entries (Maps.string_keyed hk)
  obtain ⟨L, hL, hm⟩ := hF
  rw [Maps.size_eq]
  have hstr : ∀ p ∈ es, ∃ k : Txt, p.1 = .string k ∧ k ∈ L := fun p hp => by
    have h1 : Maps.has (.map es) p.1 = true := by
      rw [Maps.has_eq, List.any_eq_true]
      exact ⟨p, hp, WideAt.sameKey_self (hkl p hp)⟩
    obtain ⟨k, e⟩ := h.keys p.1 h1
    rw [e, h.has] at h1
    exact ⟨k, e, hm k h1⟩
  have := nodup_le (es.map fun p => match p.1 with | .string k => k | _ => []) L (by
    rw [List.nodup_iff_pairwise_ne, List.pairwise_map]
    refine hp.imp_of_mem (fun {p q} hp hq hne e => hne ?_)
    obtain ⟨a, ha, _⟩ := hstr p hp
    obtain ⟨c, hc, _⟩ := hstr q hq
    rw [ha, hc] at e ⊢
    simp at e
    rw [e]) (fun x hx => by
    obtain ⟨p, hp, rfl⟩ := List.mem_map.1 hx
    obtain ⟨a, ha, hlt⟩ := hstr p hp
    rw [ha]; simpa using hlt)
  simp at this
  omega

/-- Block b is a map that reads as f. -/
def SMap (P : Program) (kT : TypeId) (w : World) (b : Nat) (f : Txt → Option Value) : Prop := ∃ D : VD, w.ownsMap P kT heldR b 5000 D ∧ SReads D f

theorem SMap.lt {w : World} {b : Nat} {f : Txt → Option Value} (h : SMap P kT w b f) : b < w.heap.size := by
  obtain ⟨D, ho, _⟩ := h; exact ho.lt
theorem SMap.kept {w w' : World} {b : Nat} {f : Txt → Option Value} {row : Option Nat} (h : SMap P kT w b f) (hg : w.grownBy w' row) (hne : some b ≠ row) : SMap P kT w' b f := by
  obtain ⟨D, ho, hr⟩ := h; exact ⟨D, ho.kept hg hne, hr⟩
theorem SMap.at_block {w w' : World} {b : Nat} {f : Txt → Option Value} (h : SMap P kT w b f) (he : w'.heap[b]? = w.heap[b]?) : SMap P kT w' b f := by
  obtain ⟨D, ⟨es, clock, hb, F, hs, hD⟩, hr⟩ := h; exact ⟨D, ⟨es, clock, he.trans hb, F, hs, hD⟩, hr⟩
theorem SMap.below {w w' : World} {b n : Nat} {f : Txt → Option Value} (h : SMap P kT w b f) (hb : Below n w w') (hn : b < n) : SMap P kT w' b f := h.at_block (hb.block b hn)
theorem SMap.alloc {w : World} {b : Nat} {f : Txt → Option Value} (h : SMap P kT w b f) (o : Obj) : SMap P kT (w.alloc o) b f := h.kept (World.grownBy_alloc w o none) (by simp)
theorem SMap.drew {w : World} {b : Nat} {f : Txt → Option Value} (h : SMap P kT w b f) : SMap P kT w.drew b f := h
theorem SMap.made (w : World) : SMap P kT (w.alloc (.map #[] 0)) w.heap.size (fun _ => none) :=
  ⟨.map [], (World.ownsMap_made w P kT heldR).mono (by omega), fun _ _ => rfl, fun kl h => by cases h⟩
theorem SMap.eq {w : World} {b : Nat} {f g : Txt → Option Value} (h : SMap P kT w b f) (e : ∀ k, f k = g k) : SMap P kT w b g := (funext e : f = g) ▸ h

/-- 'm[k]', 'v, ok := m[k]'. -/
theorem SMap.look {T E : TypeId} {w : World} {b : Nat} {f : Txt → Option Value} (h : SMap P kT w b f) (hkT : P.underlying kT = some .string) (hT : P.underlying T = some (.map kT E)) {z : Value} (hz : ∀ w, (zeroValue E).run P w = .ok z w) (s : ByteArray) (hk : s.size ≤ maxLen) (c : Bool) :
    (Instr.lookup T (.map (some b)) (.string s) c).run P w = .ok (if c then .tuple #[(f s.data.toList).getD z, .bool (f s.data.toList).isSome] else (f s.data.toList).getD z) w := by
  obtain ⟨D, ⟨es, clock, hb, F, hs, rfl⟩, hr⟩ := h
  have hkey : keyOf P kT (.string s) = some (.string s.data.toList) := Go.WideMaps.keyOf_string_mk hkT hk
  rcases Maps.fit_look c (Maps.string_keyed hkT) hT (hz w) hb F hkey with ⟨hrun, _, hat⟩ | ⟨e0, y, _, _, hrun, hRv, hat, _⟩
  · have hf : f s.data.toList = none := by
      have h1 := Maps.has_false_of_atKey hat
      rw [hr.has] at h1
      cases hf : f s.data.toList with
      | none => rfl
      | some v => rw [hf] at h1; cases h1
    rw [hrun, hf]; rfl
  · have hf : f s.data.toList = some e0.val := by
      have h1 := hat .nil
      rw [hr.at_] at h1
      unfold heldR at hRv
      cases hRv
      cases hf : f s.data.toList with
      | none => rw [hf] at h1; cases h1
      | some v => rw [hf] at h1; injection h1 with h1; rw [h1]
    rw [hrun, hf]; rfl

def putT (f : Txt → Option Value) (k : Txt) (v : Value) : Txt → Option Value := fun j => if j = k then some v else f j
def delT (f : Txt → Option Value) (k : Txt) : Txt → Option Value := fun j => if j = k then none else f j
/-- 'm[k] = v'. -/
theorem SMap.put {T E : TypeId} {w : World} {b : Nat} {f : Txt → Option Value} (h : SMap P kT w b f) (hkT : P.underlying kT = some .string) (hT : P.underlying T = some (.map kT E)) (s : ByteArray) (hk : s.size ≤ maxLen) (v : Value) (hF : Few (putT f s.data.toList v)) :
    ∃ w', (Instr.mapUpdate T (.map (some b)) (.string s) v).run P w = .ok () w' ∧ SMap P kT w' b (putT f s.data.toList v) ∧ w.grownBy w' (some b) := by
  obtain ⟨D, ho, hr⟩ := h
  have hkey : keyOf P kT (.string s) = some (.string s.data.toList) := Go.WideMaps.keyOf_string_mk hkT hk
  have hmap : Maps.IsMap D := by
    obtain ⟨es, clock, _, _, _, rfl⟩ := ho; exact ⟨_, rfl⟩
  have hkl : WideAt.IsKeyLit (.string s.data.toList) := (Maps.string_keyed hkT).key hkey
  obtain ⟨w', hrun, h1, h2⟩ := ho.update (Maps.string_keyed hkT) hT (by unfold maxLen; omega) hkey (val := v) (d := .held v) (ps := []) rfl
  have hr' : SReads (D.put (.string s.data.toList) (.held v)) (putT f s.data.toList v) := by
    refine ⟨fun j zd => ?_, fun kl hh => ?_⟩
    · by_cases hj : j = s.data.toList
      · subst hj
        rw [Maps.atKey_put_same hmap hkl]
        simp [putT]
      · rw [Maps.atKey_put_other (by intro e; apply hj; injection e), hr.at_]
        simp [putT, hj]
    · by_cases hkk : kl = .string s.data.toList
      · exact ⟨_, hkk⟩
      · rw [Maps.has_put_other hkk] at hh
        exact hr.keys kl hh
  exact ⟨w', hrun, ⟨_, ownsMap_shrink h1 (hr'.size hF hkT h1), hr'⟩, h2⟩

/-- 'delete(m, k)'. -/
theorem SMap.drop {T E : TypeId} {w : World} {b : Nat} {f : Txt → Option Value} (h : SMap P kT w b f) (hkT : P.underlying kT = some .string) (hT : P.underlying T = some (.map kT E)) (s : ByteArray) (hk : s.size ≤ maxLen) (ty : TypeId) :
    ∃ w', (Builtin.delete_ #[T, kT] ty #[.map (some b), .string s]).run P w = .ok (.tuple #[]) w' ∧ SMap P kT w' b (delT f s.data.toList) ∧ w.grownBy w' (some b) := by
  obtain ⟨D, ho, hr⟩ := h
  have hkey : keyOf P kT (.string s) = some (.string s.data.toList) := Go.WideMaps.keyOf_string_mk hkT hk
  obtain ⟨w', hrun, h1, h2⟩ := ho.drop (Maps.string_keyed hkT) hT hkey ty
  refine ⟨w', hrun, ⟨_, h1, fun j zd => ?_, fun kl hh => ?_⟩, h2.grown⟩
  · by_cases hj : j = s.data.toList
    · subst hj; rw [Maps.atKey_del_same]; simp [delT]
    · rw [Maps.atKey_del_other (by intro e; apply hj; injection e), hr.at_]
      simp [delT, hj]
  · by_cases hkk : kl = .string s.data.toList
    · rw [hkk, Maps.has_del_same] at hh; cases hh
    · rw [Maps.has_del_other hkk] at hh
      exact hr.keys kl hh

theorem wpList_sput {T E : TypeId} {w : World} {ops : Array Oper} {rest : List Oper} {o : Oper} {a : Act} {Q : Exit → Act → World → Prop} {b : Nat} {f : Txt → Option Value} (hg : o.guard = none) (m x v : Operand) (hop : o.op = .mapUpdate T m x v)
    (hkT : P.underlying kT = some .string) (hT : P.underlying T = some (.map kT E)) (h : SMap P kT w b f) (hm : a.eval m = .map (some b)) (s : ByteArray) (hk : s.size ≤ maxLen) (hx : a.eval x = .string s) (val : Value) (hv : a.eval v = val) (hF : Few (putT f s.data.toList val))
    (hK : ∀ w', SMap P kT w' b (putT f s.data.toList val) → w.grownBy w' (some b) → wpList P ops Q rest (a.put o.dst undef) w') : wpList P ops Q (o :: rest) a w := by
  refine wpList_plain hg fun K hK' => ?_
  obtain ⟨w', hrun, r1, r2⟩ := h.put hkT hT s hk val hF
  unfold Oper.wp
  simp only [execOp, hop, hm, hx, hv, hrun, Sem.run_bind, Sem.run_pure, Result.andThen_ok]
  exact hK' _ _ (hK w' r1 r2)
theorem wpList_slook {T E : TypeId} {w : World} {ops : Array Oper} {rest : List Oper} {o : Oper} {a : Act} {Q : Exit → Act → World → Prop} {b : Nat} {f : Txt → Option Value} (hg : o.guard = none) (m x : Operand) (c : Bool) (hop : o.op = .lookup T m x c)
    (hkT : P.underlying kT = some .string) (hT : P.underlying T = some (.map kT E)) {z : Value} (hz : ∀ w, (zeroValue E).run P w = .ok z w) (h : SMap P kT w b f) (hm : a.eval m = .map (some b)) (s : ByteArray) (hk : s.size ≤ maxLen) (hx : a.eval x = .string s)
    (hK : wpList P ops Q rest (a.put o.dst (if c then .tuple #[(f s.data.toList).getD z, .bool (f s.data.toList).isSome] else (f s.data.toList).getD z)) w) : wpList P ops Q (o :: rest) a w := by
  refine wpList_plain hg fun K hK' => ?_
  unfold Oper.wp
  simp only [execOp, hop, hm, hx, h.look hkT hT hz s hk c, Sem.run_bind, Sem.run_pure, Result.andThen_ok]
  exact hK' _ _ hK
theorem wpList_sdrop {T E : TypeId} {w : World} {ops : Array Oper} {rest : List Oper} {o : Oper} {a : Act} {Q : Exit → Act → World → Prop} {b : Nat} {f : Txt → Option Value} (hg : o.guard = none) (m x : Operand) (hop : o.op = Op.call { callee := Callee.builtin Builtin.delete, args := #[m, x], argTypes := #[T, kT] })
    (hkT : P.underlying kT = some .string) (hT : P.underlying T = some (.map kT E)) (h : SMap P kT w b f) (hm : a.eval m = .map (some b)) (s : ByteArray) (hk : s.size ≤ maxLen) (hx : a.eval x = .string s)
    (hK : ∀ w', SMap P kT w' b (delT f s.data.toList) → w.grownBy w' (some b) → wpList P ops Q rest (a.put o.dst (.tuple #[])) w') : wpList P ops Q (o :: rest) a w := by
  refine wpList_plain hg fun K hK' => ?_
  obtain ⟨w', hrun, r1, r2⟩ := h.drop hkT hT s hk o.type
  unfold Oper.wp
  simp [execOp, hop, resolve, invoke, builtin, hm, hx, hrun, Result.andThen]
  exact hK' _ _ (hK w' r1 r2)
end
end Go.Proofs.YtjedffjfjgffeaaDoor
