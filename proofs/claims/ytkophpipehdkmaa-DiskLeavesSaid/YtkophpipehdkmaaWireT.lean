/- Layer 3: append of a text's bytes, and Text of a writer. -/
import Derived.Test.YtkophpipehdkmaaWireW2
namespace Go.Proofs.Ytkophpipehdkmaa
open Go.RowKit

theorem data_len (s : ByteArray) : s.data.toList.length = s.size := by rw [Array.length_toList]; rfl
theorem run_append_str_goes (w : World) (ty : TypeId) (base : Nat) (v : Value) (l : List UInt8) (hown : OwnB w base v l) (s : ByteArray) (hbound : l.length + s.size ≤ 1099511627776) (hbase : base ≤ w.heap.size) :
    ∃ v' w', (Builtin.append_ #[31, 9] ty #[v, .string s]).run Try.prog w = .ok v' w' ∧ OwnB w' base v' (l ++ s.data.toList) ∧ Goes w w' v v' := by
  obtain ⟨i0, hi, hz0, hz1, hz2⟩ := info_parts infoU8
  have e1 : (l ++ s.data.toList).length = l.length + s.size := by rw [List.length_append, Array.length_toList]; rfl
  have e2 : byteVals (l ++ s.data.toList) = byteVals l ++ Lib.strCells s := by unfold byteVals Lib.strCells; rw [List.map_append]
  have e2' : byteVals ([] ++ s.data.toList) = [] ++ Lib.strCells s := by unfold byteVals Lib.strCells; simp
  obtain ⟨v', w', hr, h2, h3, h4⟩ := Lib.run_append_own_string (P := Try.prog) w base 31 9 ty 5 i0 Try.underlying31 Try.underlying9 hi hz0 hz1 hz2 v l.length (byteVals l) hown s (by unfold maxLen; omega) (by omega) hbase
  refine ⟨v', w', hr, by unfold OwnB; rw [e1, e2]; exact h2, h3, ?_⟩
  rcases hown.2 with ⟨rfl, hl0⟩ | ⟨g, cap, cur, rfl, hbg, hg, hnc, hcm, hcs, htake⟩
  · have hl : l = [] := List.eq_nil_of_length_eq_zero hl0
    subst hl
    obtain ⟨v2, w2, hr2, k2, -, -⟩ := Lib.run_append_own_string (P := Try.prog) w w.heap.size 31 9 ty 5 i0 Try.underlying31 Try.underlying9 hi hz0 hz1 hz2 (.slice none 0 0) 0 [] (World.ownsRow_nil w _ _ _) s (by unfold maxLen; simp at hbound; omega) (by simp at hbound; omega) (Nat.le_refl _)
    have hh := hr.symm.trans hr2
    injection hh with h5 h6
    subst h5
    rcases k2.2 with ⟨rfl, _⟩ | ⟨g, cap, cur, rfl, hb, _⟩
    · exact .inl rfl
    · exact .inr ⟨g, rfl, hb⟩
  · have hcs' : cur.size = cap := by simpa using hcs
    by_cases hroom : l.length + s.size ≤ cap
    · have hr2 := Lib.run_append_room_string (P := Try.prog) w 31 9 ty 5 i0 Try.underlying31 Try.underlying9 hi hz1 g l.length cap cur hg s hroom (by omega)
      have hh := hr.symm.trans hr2
      injection hh with h5 h6
      subst h5
      exact .inl rfl
    · have holds : ∀ j u, (byteVals l)[j]? = some u → w.cell? ((⟨g, 0, none⟩ : Addr).add j) = some u := World.ownsRow.cells hown (g := g) rfl
      have hr2 := Lib.run_append_grow_string (P := Try.prog) w 31 9 ty 5 i0 (.int .u8 0) Try.underlying31 Try.underlying9 hi hz0 ⟨g, 0, none⟩ l.length cap (byteVals l) (by rw [hz1]; simp [byteVals]) holds s (by omega) (by omega) (by rw [hz2]; exact growslice_fits (by omega) (by omega))
      have hh := hr.symm.trans hr2
      injection hh with h5 h6
      subst h5
      exact .inr ⟨_, rfl, Nat.le_refl _⟩
theorem wpList_append_str {w : World} {ops : Array Oper} {rest : List Oper} {o : Oper} {a : Act} {Q : Exit → Act → World → Prop} (hgd : o.guard = none) (s x : Operand)
    (ho : o.op = .call { callee := .builtin .append, args := #[s, x], argTypes := #[31, 9] }) (base : Nat) (v : Value) (l : List UInt8) (hs : a.eval s = v) (hown : OwnB w base v l)
    (t : ByteArray) (hx : a.eval x = .string t) (hbound : l.length + t.size ≤ 1099511627776) (hbase : base ≤ w.heap.size)
    (h : ∀ v' w', OwnB w' base v' (l ++ t.data.toList) → Goes w w' v v' → wpList Try.prog ops Q rest (a.put o.dst v') w') : wpList Try.prog ops Q (o :: rest) a w := by
  refine wpList_plain hgd fun K hK => ?_
  obtain ⟨v', w', hr, h2, h3⟩ := run_append_str_goes w o.type base v l hown t hbound hbase
  unfold Oper.wp execOp
  simp only [ho, resolve, invoke, builtin, Sem.run_bind, Sem.run_pure, Result.andThen_ok, List.map_toArray, List.map_cons, List.map_nil, hs, hx, hr]
  exact hK _ _ (h v' w' h2 h3)

/-- What Text answers, and the bytes behind it. -/
def wTextS (l : List UInt8) (s : ByteArray) : Nat × List UInt8 := if 65536 < l.length + 2 + s.size then (3, l) else (0, l ++ (laidB s.size 2 2 ++ s.data.toList))
section
variable {n₀ : Nat} {w : World} {B : Nat} {v : Value} {l : List UInt8}
end
end Go.Proofs.Ytkophpipehdkmaa
