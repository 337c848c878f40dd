/- Layer 5: cells out of bytes: what is told of the words; runs of numbers that a call made. -/
import Derived.Deep.RegionWith
import Derived.Deep.DeepCutAuto
import Derived.Test.YtaceebgcaghocaaSlG
import Derived.Test.YtaceebgcaghocaaSlKl
namespace Go.Proofs.Ytaceebgcaghocaa
open Go.RowKit

def readPart (leaf : Bool) (r : List UInt8) : Option (Cv × List UInt8) := if leaf then readLeaf r else readBranch r
def placeAt (b : List UInt8) (i : Nat) : Nat := numOf ((b.drop (2 + 2 * i)).take 2)
def readUpto (leaf : Bool) (b : List UInt8) : Nat → List UInt8 → Option (List Cv × List UInt8)
  | 0, rem => some ([], rem)
  | i + 1, rem => (readUpto leaf b i rem).bind fun x => if placeAt b i = b.length - x.2.length then (readPart leaf x.2).map fun y => (x.1 ++ [y.1], y.2) else none
def countOf (b : List UInt8) : Nat := numOf (b.take 2)
def Parsed (k : Int) (b : List UInt8) (L : List Cv) : Prop := b.length ≤ 232 ∧ 2 ≤ b.length ∧ 2 + 2 * countOf b ≤ b.length ∧ readUpto (k == 2) b (countOf b) (b.drop (2 + 2 * countOf b)) = some (L, []) ∧ RightC k L
def ReadPost5 (w : World) (k : Int) (b : List UInt8) (e : Ending) (w' : World) : Prop := Below w.heap.size w w' ∧
  ((∃ L v, Parsed k b L ∧ e = .returned v ∧ OwnC w' w.heap.size v L) ∨ ((∀ L, ¬ Parsed k b L) ∧ e = .panicked errC))
theorem readUpto_none {leaf : Bool} {b rem : List UInt8} {i : Nat} (h : readUpto leaf b i rem = none) : ∀ n, i ≤ n → readUpto leaf b n rem = none := fun n hn => by
  induction n with
  | zero => obtain rfl : i = 0 := by omega
            exact h
  | succ n ih =>
    by_cases he : i = n + 1
    · rw [← he]; exact h
    · rw [readUpto, ih (by omega)]; rfl
theorem readUpto_len {leaf : Bool} {b : List UInt8} : ∀ {i : Nat} {rem : List UInt8} {L : List Cv} {r : List UInt8}, readUpto leaf b i rem = some (L, r) → L.length = i := by
  intro i
  induction i with
  | zero => intro rem L r h; rw [readUpto] at h; cases h; rfl
  | succ i ih =>
    intro rem L r h
    rw [readUpto] at h
    cases hx : readUpto leaf b i rem with
    | none => rw [hx] at h; cases h
    | some x =>
      rw [hx] at h
      simp only [Option.bind_some] at h
      split at h
      · cases hy : readPart leaf x.2 with
        | none => rw [hy] at h; cases h
        | some y =>
          rw [hy] at h
          simp only [Option.map_some, Option.some.injEq, Prod.mk.injEq] at h
          obtain ⟨h1, -⟩ := h
          rw [← h1, List.length_append, ih (L := x.1) (r := x.2) hx]; rfl
      · cases h
/-- A run of numbers, made by the call. -/
def OwnI (w : World) (base : Nat) (v : Value) (ns : List Nat) : Prop := w.ownsRow base 3 1 v ns.length (ns.map fun n : Nat => Value.int .i64 (n : Int))
theorem OwnI.nil (w : World) (base : Nat) : OwnI w base (.slice none 0 0) [] := World.ownsRow_nil w base _ _
theorem ownI_block {w : World} {base : Nat} {v : Value} {ns : List Nat} (h : OwnI w base v ns) (g : Nat) (hg : v.ownBlock = some g) : base ≤ g ∧ ∃ cs, w.heap[g]? = some (.cells cs 3 (0, 0)) := by
  rcases h.2 with ⟨rfl, _⟩ | ⟨g', cap, cur, rfl, hb, hh, _⟩
  · cases hg
  · cases hg; exact ⟨hb, cur, hh⟩
theorem OwnI.kept {w w' : World} {base : Nat} {v : Value} {ns : List Nat} (h : OwnI w base v ns) (hg : ∀ g, v.ownBlock = some g → w'.heap[g]? = w.heap[g]?) : OwnI w' base v ns := by
  refine ⟨h.1, ?_⟩
  rcases h.2 with e | ⟨g, cp, cur, rfl, hb, hh, r⟩
  · exact .inl e
  · exact .inr ⟨g, cp, cur, rfl, hb, (hg g rfl).trans hh, r⟩
theorem OwnI.below {w w' : World} {base : Nat} {v : Value} {ns : List Nat} (h : OwnI w base v ns) (hb : Below w.heap.size w w') : OwnI w' base v ns :=
  h.kept fun g hg => by
    obtain ⟨-, cs, hh⟩ := ownI_block h g hg
    exact hb.block g (Array.getElem?_eq_some_iff.1 hh).1
theorem OwnI.besides {w w' : World} {base : Nat} {v : Value} {ns : List Nat} {V : Option Nat} (h : OwnI w base v ns) (hg : w.grownBy w' V) (hV : ∀ g, V = some g → ∀ cs, w.heap[g]? ≠ some (.cells cs 3 (0, 0))) : OwnI w' base v ns :=
  h.kept fun g hgo => by
    obtain ⟨-, cs, hh⟩ := ownI_block h g hgo
    exact hg.block g (Array.getElem?_eq_some_iff.1 hh).1 (fun e => hV g e.symm cs hh)
theorem OwnC.besides {w w' : World} {base : Nat} {v : Value} {L : List Cv} {V : Option Nat} (h : OwnC w base v L) (hg : w.grownBy w' V) (hV : ∀ g, V = some g → ∀ cs, w.heap[g]? ≠ some (.cells cs 36 (0, 0))) : OwnC w' base v L :=
  h.kept fun g hgo => by
    obtain ⟨cs, hh⟩ := ownC_block h g hgo
    exact hg.block g (Array.getElem?_eq_some_iff.1 hh).1 (fun e => hV g e.symm cs hh)
theorem OwnC.block {w : World} {base : Nat} {v : Value} {L : List Cv} (h : OwnC w base v L) (g : Nat) (hg : v.ownBlock = some g) : base ≤ g := by
  rcases h.2 with ⟨rfl, _⟩ | ⟨g', cap, cur, rfl, hb, _⟩
  · cases hg
  · cases hg; exact hb
theorem RdIn.away {n₀ : Nat} {w w' : World} {B : Nat} {v : Value} {l r : List UInt8} {V : Option Nat} (h : RdIn n₀ w B v l r) (hg : w.grownBy w' V) (hV : ∀ g, V = some g → ∃ cs T, w.heap[g]? = some (.cells cs T (0, 0)) ∧ T ≠ 5 ∧ T ≠ 93) : RdIn n₀ w' B v l r := by
  cases V with
  | none => exact h.kept hg (by simp) (by cases v.ownBlock <;> simp)
  | some g =>
    obtain ⟨cs, T, hh, h1, h2⟩ := hV g rfl
    exact h.besides hh h1 h2 hg
theorem infoI : (Try.prog.info? 3).map (fun i => (i.zero, i.size, i.bytes)) = some (some (.int .i64 0), 1, 8) := by kernel_rfl
theorem wpList_append_int {w : World} {ops : Array Oper} {rest : List Oper} {o : Oper} {a : Act} {Q : Exit → Act → World → Prop} (hgd : o.guard = none) (s x : Operand)
    (ho : o.op = .call { callee := .builtin .append, args := #[s, x], argTypes := #[74, 74] }) (base : Nat) (v : Value) (ns : List Nat) (hs : a.eval s = v) (hown : OwnI w base v ns)
    (g c : Nat) (n : Nat) (hx : a.eval x = .slice (some ⟨g, 0, none⟩) 1 c) (hp : w.cell? ⟨g, 0, none⟩ = some (.int .i64 n)) (hbound : ns.length ≤ 1000000) (hbase : base ≤ w.heap.size)
    (h : ∀ v' w', OwnI w' base v' (ns ++ [n]) → w.grownBy w' v.ownBlock → wpList Try.prog ops Q rest (a.put o.dst v') w') : wpList Try.prog ops Q (o :: rest) a w := by
  obtain ⟨i0, hi, hz0, hz1, hz2⟩ := info_parts infoI
  refine wpList_append_own_at w hgd s x 74 ho base 3 i0 _ 1 8 Try.underlying74 hi hz0 hz1 hz2 rfl (by decide) v ns.length _ hs hown ⟨g, 0, none⟩ 1 c [.int .i64 n] hx rfl ?_ ?_ (by unfold maxLen; omega) (by omega) hbase
    (fun v' w' k1 k2 _ _ => h v' w' (by unfold OwnI; rw [List.length_append, List.map_append]; exact k1) k2)
  · intro j y hy
    match j, hy with
    | 0, hy => cases hy; rw [addr_add]; exact hp
  · intro y hy
    simp only [List.mem_cons, List.not_mem_nil, or_false] at hy
    subst hy; rfl
theorem OwnI.form {w : World} {base : Nat} {v : Value} {ns : List Nat} (h : OwnI w base v ns) : ∃ a cap, v = .slice a ns.length cap ∧ ns.length ≤ cap ∧ (ns ≠ [] → ∃ g, a = some ⟨g, 0, none⟩ ∧ g < w.heap.size ∧ ∀ j, j < ns.length → w.cell? ⟨g, j, none⟩ = some (.int .i64 (ns.getD j 0 : Nat))) := by
  obtain ⟨hlen, ⟨rfl, h0⟩ | ⟨g, cap, cur, rfl, hg, hh, hn, hcap, hsz, htk⟩⟩ := h
  · have : ns = [] := List.eq_nil_of_length_eq_zero h0
    subst this
    exact ⟨none, 0, rfl, Nat.le_refl _, fun h => absurd rfl h⟩
  · refine ⟨_, cap, rfl, hn, fun _ => ⟨g, rfl, (Array.getElem?_eq_some_iff.1 hh).1, fun j hj => ?_⟩⟩
    rw [cell_of_row w g _ _ _ _ hh]
    have h1 : (cur.toList.take (ns.length * 1))[j]? = some (.int .i64 (ns.getD j 0 : Nat)) := by
      rw [htk, List.getElem?_map, List.getElem?_eq_getElem hj]; simp [List.getD, hj]
    rw [List.getElem?_take, if_pos (by omega), Array.getElem?_toList] at h1
    exact h1
def placesUpto (b : List UInt8) (i : Nat) : List Nat := (List.range i).map (placeAt b)
theorem placesUpto_succ (b : List UInt8) (i : Nat) : placesUpto b (i + 1) = placesUpto b i ++ [placeAt b i] := by simp [placesUpto, List.range_succ]
theorem placesUpto_len (b : List UInt8) (i : Nat) : (placesUpto b i).length = i := by simp [placesUpto]
theorem placesUpto_at (b : List UInt8) (n i : Nat) (h : i < n) : (placesUpto b n).getD i 0 = placeAt b i := by simp [placesUpto, List.getD, h]
theorem wrapEq (x : Int) : IntKind.i64.wrap x = wrap64 x := by rw [IntKind.wrap_i64]; unfold wrap64; omega
theorem rleft_v {n₀ : Nat} {w : World} {B : Nat} {v : Value} {l r : List UInt8} (h : RdIn n₀ w B v l r) : Calls Try.prog 30 #[wptr B] w fun e w' => e = .returned (.int .i64 r.length) ∧ Below w.heap.size w w' := by
  obtain ⟨i, h, rfl⟩ := h
  have := rleft_any h
  rwa [← List.length_drop] at this
theorem txR_le (r : List UInt8) : (txR r).length ≤ r.length := by unfold txR; rw [List.length_drop]; omega
theorem readPart_le {leaf : Bool} {r : List UInt8} {y : Cv × List UInt8} (h : readPart leaf r = some y) : y.2.length ≤ r.length := by
  have h1 := txR_le r
  unfold readPart at h
  split at h
  · unfold readLeaf at h
    split at h
    · split at h
      · cases h
      · split at h
        · unfold readLong at h
          split at h
          · split at h
            · cases h; simp only [List.length_drop]; omega
            · cases h
          · cases h
        · unfold readShort at h
          split at h
          · cases h
            have h2 := txR_le ((txR r).drop 1)
            rw [List.length_drop] at h2
            show (txR ((txR r).drop 1)).length ≤ _
            omega
          · cases h
    · cases h
  · unfold readBranch at h
    split at h
    · split at h
      · cases h; simp only [List.length_drop]; omega
      · cases h
    · cases h
end Go.Proofs.Ytaceebgcaghocaa
