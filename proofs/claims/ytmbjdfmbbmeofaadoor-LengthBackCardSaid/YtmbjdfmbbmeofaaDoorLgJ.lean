/- Layer 15: rows of numbers that a call makes; runs of bytes that came in. -/
import Derived.Test.YtmbjdfmbbmeofaaDoorLgH
import Derived.Test.YtmbjdfmbbmeofaaDoorLgP
import Derived.Test.YtmbjdfmbbmeofaaDoorLgRaws
namespace Go.Proofs.YtmbjdfmbbmeofaaDoor
open Go.RowKit

/-- The slice value v, made since the heap had base blocks (or nil), holds these numbers, of type T. -/
def LgRow (T : TypeId) (w : World) (base : Nat) (v : Value) (L : List Int) : Prop := w.ownsRow base T 1 v L.length (L.map fun z => Value.int .i64 z)
theorem LgRow.nil (T : TypeId) (w : World) (base : Nat) : LgRow T w base (.slice none 0 0) [] := World.ownsRow_nil w base _ _
theorem LgRow.far {T : TypeId} {w w' : World} {base : Nat} {v : Value} {L : List Int} {row : Option Nat} (h : LgRow T w base v L) (hg : w.grownBy w' row) (hr : ∀ r, row = some r → ∀ cs fr, w.heap[r]? ≠ some (.cells cs T fr)) : LgRow T w' base v L :=
  World.ownsRow.kept h hg (by
    cases hx : v.ownBlock with
    | none => exact .inl rfl
    | some g =>
      refine .inr fun e => ?_
      obtain ⟨c, fz, hd⟩ := Lib.ownsRow_kind h g hx
      exact hr g e.symm _ _ hd)
theorem LgRow.block {T : TypeId} {w : World} {base : Nat} {v : Value} {L : List Int} (h : LgRow T w base v L) : ∀ g, v.ownBlock = some g → base ≤ g := fun g hg => (World.ownsRow.lt h g hg).1
theorem LgRow.kind {T : TypeId} {w : World} {base : Nat} {v : Value} {L : List Int} (h : LgRow T w base v L) {T' : TypeId} (hT : T ≠ T') : ∀ r, v.ownBlock = some r → ∀ cs fr, w.heap[r]? ≠ some (.cells cs T' fr) := fun r hr cs fr e => by
  obtain ⟨c, fz, hd⟩ := Lib.ownsRow_kind h r hr
  rw [hd] at e; cases e; exact hT rfl
theorem ownB_kind {w : World} {base : Nat} {v : Value} {l : List UInt8} (h : OwnB w base v l) {T' : TypeId} (hT : 5 ≠ T') : ∀ r, v.ownBlock = some r → ∀ cs fr, w.heap[r]? ≠ some (.cells cs T' fr) := fun r hr cs fr e => by
  obtain ⟨c, fz, hd⟩ := Lib.ownsRow_kind h r hr
  rw [hd] at e; cases e; exact hT rfl
theorem LgRow.form {T : TypeId} {w : World} {base : Nat} {v : Value} {L : List Int} (h : LgRow T w base v L) : ∃ a cap, v = .slice a L.length cap ∧ LgOn (fun k => k < w.heap.size) w a L := by
  have h' := h
  rcases h.2 with ⟨rfl, h0⟩ | ⟨g, cap, _, rfl, _⟩
  · obtain rfl : L = [] := List.eq_nil_of_length_eq_zero h0
    exact ⟨none, 0, rfl, fun hne => absurd rfl hne⟩
  · refine ⟨_, cap, rfl, fun hne => ⟨g, 0, rfl, (World.ownsRow.lt h' g rfl).2, fun j hj => ?_⟩⟩
    rw [Nat.zero_add, World.ownsRow.cellAt h' j (by omega), List.getElem?_map, List.getElem?_eq_getElem hj]
    simp
theorem lg_app_row {t T : TypeId} (ht : Tryd.prog.underlying t = some (.slice T)) (hinfo : (Tryd.prog.info? T).map (fun i => (i.zero, i.size, i.bytes)) = some (some (.int .i64 0), 1, 8)) (w : World) (base ty : Nat) (v : Value) (L : List Int) (hown : LgRow T w base v L) (g c : Nat) (z : Int) (hp : w.cell? ⟨g, 0, none⟩ = some (.int .i64 z)) (hbound : L.length ≤ 1000000) (hbase : base ≤ w.heap.size) :
    ∃ v' w', (Builtin.append_ #[t, t] ty #[v, .slice (some ⟨g, 0, none⟩) 1 c]).run Tryd.prog w = .ok v' w' ∧ LgRow T w' base v' (L ++ [z]) ∧ w.grownBy w' v.ownBlock := by
  obtain ⟨i0, hi, hz0, hz1, hz2⟩ := info_parts hinfo
  obtain ⟨v', w', hr, k1, k2, -, -⟩ := run_append_own_at (P := Tryd.prog) (w := w) base t ty T i0 _ 1 8 ht hi hz0 hz1 hz2 rfl (by decide) v L.length (L.map fun z => Value.int .i64 z) hown ⟨g, 0, none⟩ 1 c [.int .i64 z] rfl (fun j y hy => by
      match j, hy with
      | 0, hy => cases hy; exact hp
      | j + 1, hy => cases hy) (fun y hy => by
      obtain rfl : y = .int .i64 z := by simpa using hy
      rfl) (by unfold maxLen; omega) (by omega) hbase
  exact ⟨v', w', hr, by unfold LgRow; rw [List.map_append, List.length_append]; exact k1, k2⟩
theorem lg_infoInt : (Tryd.prog.info? 3).map (fun i => (i.zero, i.size, i.bytes)) = some (some (.int .i64 0), 1, 8) := by kernel_rfl
theorem lg_infoI64 : (Tryd.prog.info? 2).map (fun i => (i.zero, i.size, i.bytes)) = some (some (.int .i64 0), 1, 8) := by kernel_rfl
/-- Runs of bytes that came in. -/
def LgRuns (n₀ : Nat) (W : World) (a : Option Addr) (ls : List (List UInt8)) : Prop := ls ≠ [] → ∃ b off, a = some ⟨b, off, none⟩ ∧ b < n₀ ∧
  ∀ j, j < ls.length → ∃ ai ci, W.cell? ⟨b, off + j, none⟩ = some (.slice ai (ls.getD j []).length ci) ∧ BytesAt n₀ W ai (ls.getD j [])
theorem LgRuns.below {n₀ : Nat} {A B : World} {a : Option Addr} {ls : List (List UInt8)} (h : LgRuns n₀ A a ls) (hb : Below n₀ A B) : LgRuns n₀ B a ls := fun hl => by
  obtain ⟨b, off, rfl, hb', hc⟩ := h hl
  refine ⟨b, off, rfl, hb', fun j hj => ?_⟩
  obtain ⟨ai, ci, h2, h3⟩ := hc j hj
  exact ⟨ai, ci, (hb.cell (p := ⟨b, off + j, none⟩) hb').trans h2, h3.below hb⟩
def lgSizes (ls : List (List UInt8)) (k : Nat) : List Int := (ls.take k).map fun l => (l.length : Int)
def lgEnds (ls : List (List UInt8)) (k : Nat) : List Int := (List.range k).map fun j => (lgEnd ls (j + 1) : Int)
theorem lgSizes_succ {ls : List (List UInt8)} {k : Nat} (h : k < ls.length) : lgSizes ls (k + 1) = lgSizes ls k ++ [((ls.getD k []).length : Int)] := by
  unfold lgSizes
  rw [List.take_succ_eq_append_getElem h, List.map_append]
  simp [List.getD, List.getElem?_eq_getElem h]
theorem lgEnds_succ (ls : List (List UInt8)) (k : Nat) : lgEnds ls (k + 1) = lgEnds ls k ++ [(lgEnd ls (k + 1) : Int)] := by
  unfold lgEnds
  rw [List.range_succ, List.map_append]; rfl
theorem lgSizes_len (ls : List (List UInt8)) {k : Nat} (h : k ≤ ls.length) : (lgSizes ls k).length = k := by simp [lgSizes]; omega
theorem lgEnds_len (ls : List (List UInt8)) (k : Nat) : (lgEnds ls k).length = k := by simp [lgEnds]
theorem lgJoin_succ {ls : List (List UInt8)} {k : Nat} (h : k < ls.length) : lgJoin (ls.take (k + 1)) = lgJoin (ls.take k) ++ lgRaw (ls.getD k []).length ++ ls.getD k [] := by
  rw [List.take_succ_eq_append_getElem h, lgJoin_snoc]
  simp [List.getD, List.getElem?_eq_getElem h]
section
variable {ops : Array Oper} {Q : Exit → Act → World → Prop} {i : Nat} {o : Oper} {a : Act} {w w' : World} {K : Act → World → Prop}
theorem wantedOf15 {oi : Oper} {b : Bool} {d : Tmp} {j : Nat} (hg : o.guard = some (j, b)) (ho : ops[j]? = some oi) (hd : oi.dst = some d) (hsz : d < a.tmps.size) (hv : a.eval (.tmp d) = .bool b) : Region.wanted o (yielded ops a.tmps) = true := by
  have h1 : a.tmps[d]? = some (.bool b) := by
    have : a.tmps.getD d undef = .bool b := hv
    rw [Array.getD, dif_pos hsz] at this
    rw [Array.getElem?_eq_getElem hsz]; exact congrArg some this
  unfold Region.wanted
  rw [hg]
  simp [yielded, ho, hd, h1]
theorem wpOp_conv15 {s t : TypeId} {x : Operand} {vx v : Value} (ho : ops[i]? = some o) (hg : Region.wanted o (yielded ops a.tmps) = true) (hop : o.op = .convert s t x) (hx : a.eval x = vx) (hrun : (convert s t vx).run Tryd.prog w = .ok v w') (hK : K (a.put o.dst v) w') : wpOp Tryd.prog ops Q i K a w :=
  wpOp_val ho hg (by simp only [execOp, hop, hx, hrun, Sem.run_bind, Sem.run_pure, Result.andThen_ok]) hK
theorem wpOp_eqS15 {x y : Operand} {s t : ByteArray} (ho : ops[i]? = some o) (hg : Region.wanted o (yielded ops a.tmps) = true) (hop : o.op = .binOp .eql 9 x y 9) (hx : a.eval x = .string s) (hy : a.eval y = .string t) (hK : K (a.put o.dst (.bool (s.toList == t.toList))) w) : wpOp Tryd.prog ops Q i K a w :=
  wpOp_val ho hg (by simp only [execOp, hop, hx, hy]; simp [go_sem]) hK
theorem wpOp_pick15 {c x y : Operand} {b : Bool} {v u : Value} (ho : ops[i]? = some o) (hg : Region.wanted o (yielded ops a.tmps) = true) (hop : o.op = .pick c x y) (hc : a.eval c = .bool b) (hx : b = true → a.eval x = v) (hy : b = false → a.eval y = v) (hu : u = v) (hK : K (a.put o.dst u) w) : wpOp Tryd.prog ops Q i K a w := by
  subst hu
  refine wpOp_val (v := u) ho hg ?_ hK
  cases b with
  | true => simp only [execOp, hop, hc, hx rfl]; simp [go_sem]
  | false => simp only [execOp, hop, hc, hy rfl]; simp [go_sem]
end
theorem below_drewN15 {n : Nat} {a b : World} (h : Below n a b) (k : Nat) : Below n a (b.drewN k) := by
  induction k with
  | zero => exact h
  | succ k ih => exact ih.drew
theorem LgL.form2 {w : World} {base : Nat} {v : Value} {ls : List (List UInt8)} (h : LgL w base v ls) : ∃ a c, v = .slice a ls.length c := by
  obtain ⟨xs, h1, -⟩ := h
  rcases h1.2 with ⟨rfl, h0⟩ | ⟨g, cap, _, rfl, _⟩
  · exact ⟨none, 0, by rw [h0]⟩
  · exact ⟨_, _, rfl⟩
/-- The parts that are cut are the runs that came whole. -/
theorem lgParts_back (ls : List (List UInt8)) (come n : Nat) (hn : n ≤ ls.length) (h : lgEnd ls n ≤ come) : lgParts ((lgJoin ls).take come) (lgPlaces ls n) = ls.take n := by
  apply List.ext_getElem
  · simp [lgParts, lgPlaces]; omega
  · intro j h1 h2
    have hj : j < n := by simp [lgParts, lgPlaces] at h1; exact h1
    have hle : lgEnd ls (j + 1) ≤ come := Nat.le_trans (lgEnd_le (by omega) hn) h
    have := lgPart_back ls come j (by omega) hle
    simp only [lgParts, lgPlaces, List.getElem_map, List.getElem_range, List.getElem_take]
    rw [this]
    simp [List.getD, List.getElem?_eq_getElem (show j < ls.length by omega)]
end Go.Proofs.YtmbjdfmbbmeofaaDoor
