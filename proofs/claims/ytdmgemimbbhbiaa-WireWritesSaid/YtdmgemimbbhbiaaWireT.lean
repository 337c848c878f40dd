/- Layer 3: append of a text's bytes, and Text of a writer. -/
import Derived.Test.YtdmgemimbbhbiaaWireW2
namespace Go.Proofs.Ytdmgemimbbhbiaa
open Go.RowKit

theorem data_len (s : ByteArray) : s.data.toList.length = s.size := by rw [Array.length_toList]; rfl
theorem run_append_str_goes (w : World) (ty : TypeId) (base : Nat) (v : Value) (l : List UInt8) (hown : OwnB w base v l) (s : ByteArray) (hbound : l.length + s.size ≤ 1099511627776) (hbase : base ≤ w.heap.size) :
    ∃ v' w', (Builtin.append_ #[40, 9] ty #[v, .string s]).run Try.prog w = .ok v' w' ∧ OwnB w' base v' (l ++ s.data.toList) ∧ Goes w w' v v' := by
  obtain ⟨i0, hi, hz0, hz1, hz2⟩ := info_parts infoU8
  have e1 : (l ++ s.data.toList).length = l.length + s.size := by rw [List.length_append, Array.length_toList]; rfl
  have e2 : byteVals (l ++ s.data.toList) = byteVals l ++ Lib.strCells s := by unfold byteVals Lib.strCells; rw [List.map_append]
  have e2' : byteVals ([] ++ s.data.toList) = [] ++ Lib.strCells s := by unfold byteVals Lib.strCells; simp
  obtain ⟨v', w', hr, h2, h3, h4⟩ := Lib.run_append_own_string (P := Try.prog) w base 40 9 ty 5 i0 Try.underlying40 Try.underlying9 hi hz0 hz1 hz2 v l.length (byteVals l) hown s (by unfold maxLen; omega) (by omega) hbase
  refine ⟨v', w', hr, by unfold OwnB; rw [e1, e2]; exact h2, h3, ?_⟩
  rcases hown.2 with ⟨rfl, hl0⟩ | ⟨g, cap, cur, rfl, hbg, hg, hnc, hcm, hcs, htake⟩
  · have hl : l = [] := List.eq_nil_of_length_eq_zero hl0
    subst hl
    obtain ⟨v2, w2, hr2, k2, -, -⟩ := Lib.run_append_own_string (P := Try.prog) w w.heap.size 40 9 ty 5 i0 Try.underlying40 Try.underlying9 hi hz0 hz1 hz2 (.slice none 0 0) 0 [] (World.ownsRow_nil w _ _ _) s (by unfold maxLen; simp at hbound; omega) (by simp at hbound; omega) (Nat.le_refl _)
    have hh := hr.symm.trans hr2
    injection hh with h5 h6
    subst h5
    rcases k2.2 with ⟨rfl, _⟩ | ⟨g, cap, cur, rfl, hb, _⟩
    · exact .inl rfl
    · exact .inr ⟨g, rfl, hb⟩
  · have hcs' : cur.size = cap := by simpa using hcs
    by_cases hroom : l.length + s.size ≤ cap
    · have hr2 := Lib.run_append_room_string (P := Try.prog) w 40 9 ty 5 i0 Try.underlying40 Try.underlying9 hi hz1 g l.length cap cur hg s hroom (by omega)
      have hh := hr.symm.trans hr2
      injection hh with h5 h6
      subst h5
      exact .inl rfl
    · have holds : ∀ j u, (byteVals l)[j]? = some u → w.cell? ((⟨g, 0, none⟩ : Addr).add j) = some u := World.ownsRow.cells hown (g := g) rfl
      have hr2 := Lib.run_append_grow_string (P := Try.prog) w 40 9 ty 5 i0 (.int .u8 0) Try.underlying40 Try.underlying9 hi hz0 ⟨g, 0, none⟩ l.length cap (byteVals l) (by rw [hz1]; simp [byteVals]) holds s (by omega) (by omega) (by rw [hz2]; exact growslice_fits (by omega) (by omega))
      have hh := hr.symm.trans hr2
      injection hh with h5 h6
      subst h5
      exact .inr ⟨_, rfl, Nat.le_refl _⟩
theorem wpList_append_str {w : World} {ops : Array Oper} {rest : List Oper} {o : Oper} {a : Act} {Q : Exit → Act → World → Prop} (hgd : o.guard = none) (s x : Operand)
    (ho : o.op = .call { callee := .builtin .append, args := #[s, x], argTypes := #[40, 9] }) (base : Nat) (v : Value) (l : List UInt8) (hs : a.eval s = v) (hown : OwnB w base v l)
    (t : ByteArray) (hx : a.eval x = .string t) (hbound : l.length + t.size ≤ 1099511627776) (hbase : base ≤ w.heap.size)
    (h : ∀ v' w', OwnB w' base v' (l ++ t.data.toList) → Goes w w' v v' → wpList Try.prog ops Q rest (a.put o.dst v') w') : wpList Try.prog ops Q (o :: rest) a w := by
  refine wpList_plain hgd fun K hK => ?_
  obtain ⟨v', w', hr, h2, h3⟩ := run_append_str_goes w o.type base v l hown t hbound hbase
  unfold Oper.wp execOp
  simp only [ho, resolve, invoke, builtin, Sem.run_bind, Sem.run_pure, Result.andThen_ok, List.map_toArray, List.map_cons, List.map_nil, hs, hx, hr]
  exact hK _ _ (h v' w' h2 h3)

/-- What Text answers, and the bytes behind it. -/
def wTextS (l : List UInt8) (s : ByteArray) : Nat × List UInt8 := if 65536 < l.length + 2 + s.size then (3, l) else (0, l ++ (laidB s.size 2 2 ++ s.data.toList))
section
variable {n₀ : Nat} {w : World} {B : Nat} {v : Value} {l : List UInt8}
set_option maxHeartbeats 1000000 in
set_option maxRecDepth 100000 in
theorem wtext_any (h : IsWr n₀ w B v l) (s : ByteArray) (hs : s.size ≤ 9223372036854775807) : Calls Try.prog 40 #[wptr B, .string s] w fun e w' => WrPost n₀ w B v (wTextS l s) e w' := by
  have T := Lib.hid (wthere_any h)
  have K := Lib.hid (wtakes_any h (2 + s.size))
  have hc := h.cell1
  by_cases hlong : 65535 < s.size
  · have e1 : wTextS l s = (3, l) := by unfold wTextS; rw [if_pos (by omega)]
    rw [e1]
    have P := Lib.hid (wr_same (r := 3) h)
    have hd : decide ((65535 : Int) < (s.size : Int)) = true := by simp; omega
    clear h e1
    go_enter Try.func40, Try.ntmps40
    go_wp2_with (first
      | (go_at_call 70; refine T.out.mono ?_; rintro e w' ⟨rfl, rfl⟩))
    go_ret
    exact P.out
  · have hd : decide ((65535 : Int) < (s.size : Int)) = false := by simp; omega
    by_cases hfit : 65536 < l.length + 2 + s.size
    · have e1 : wTextS l s = (3, l) := by unfold wTextS; rw [if_pos hfit]
      rw [e1]
      have hd2 : decide (l.length + (2 + s.size) ≤ 65536) = false := by simp; omega
      rw [hd2, show ((2 + s.size : Nat) : Int) = 2 + (s.size : Int) by omega] at K
      have P := Lib.hid (wr_same (r := 3) h)
      clear h e1 hd2 hfit
      go_enter Try.func40, Try.ntmps40
      go_wp2_with (first
        | (go_at_call 70; refine T.out.mono ?_; rintro e w' ⟨rfl, rfl⟩)
        | (go_at_call 72; refine K.out.mono ?_; rintro e w' ⟨rfl, rfl⟩))
      go_ret
      exact P.out
    · have e1 : wTextS l s = (0, l ++ (laidB s.size 2 2 ++ s.data.toList)) := by unfold wTextS; rw [if_neg hfit]
      rw [e1]
      have hd2 : decide (l.length + (2 + s.size) ≤ 65536) = true := by simp; omega
      rw [hd2, show ((2 + s.size : Nat) : Int) = 2 + (s.size : Int) by omega] at K
      have hlen := h.len
      have L := Lib.hid (lay16_any s.size 2 (by omega) w n₀ v l h.own h.n_le (by omega))
      have ST := Lib.hid (fun w1 v1 l1 => wr_store (w1 := w1) (v1 := v1) (l1 := l1) h)
      have CC := Lib.hid (fun (w1 : World) (v1 : Value) (hG : Goes w w1 v v1) => wr_cells h hG)
      have NL := Lib.hid h.n_le
      have HL2 := Lib.hid (show (l ++ (laidB s.size 2 2 ++ s.data.toList)).length ≤ 65536 by rw [List.length_append, List.length_append, laidB_len, data_len]; omega)
      have HL1 := Lib.hid (show (l ++ laidB s.size 2 2).length + s.size ≤ 1099511627776 by rw [List.length_append, laidB_len]; omega)
      clear h e1 hd2 hfit hlen
      go_enter Try.func40, Try.ntmps40
      go_wp2_with (first
        | (go_at_call 70; refine T.out.mono ?_; rintro e w' ⟨rfl, rfl⟩)
        | (go_at_call 72; refine K.out.mono ?_; rintro e w' ⟨rfl, rfl⟩)
        | (go_at_call 74; refine L.out.mono ?_; rintro e w1 ⟨v1, rfl, hO, hG⟩)
        | (at_builtin; refine wpList_append_str rfl _ _ rfl n₀ _ _ rfl hO s rfl HL1.out (Nat.le_trans NL.out hG.grown.size) ?_; intro v2 w2 hO2 hG2; rw [List.append_assoc] at hO2; have hG3 := hG.trans hG2; clear hG hG2 hO; obtain ⟨c1, c2⟩ := CC.out _ _ hG3; have HO := Lib.hid hO2; obtain ⟨ao1, cap1, e3, -, -, -, -, -⟩ := hO2.form; clear hO2; generalize (l ++ (laidB s.size 2 2 ++ s.data.toList)).length = ll at e3; subst e3))
      go_ret
      exact ST.out _ _ _ HO.out hG3 HL2.out
end
end Go.Proofs.Ytdmgemimbbhbiaa
