/- Layer 3: the laws' own 'few' says that there are no more than 30 parts; runs of parts that the call made. -/
import Derived.Test.YtdmgemimbbhbiaaWirePts
namespace Go.Proofs.Ytdmgemimbbhbiaa
open Go.RowKit

def Few30 (w : World) (n : Nat) (e : Ending) (w' : World) : Prop := ∃ b, e = .returned (.bool b) ∧ w = w' ∧ (b = true → n ≤ 30)
set_option maxHeartbeats 1000000 in
set_option maxRecDepth 100000 in
theorem few30_any (a : Option Addr) (L : List PtV) (cap : Nat) (hL : L.length ≤ 9223372036854775807) (w : World) (hm : PtsAt w.heap.size w a L) :
    Calls Try.prog 34 #[.slice a L.length cap] w fun e w' => Few30 w L.length e w' := by
  have HM := Lib.hid hm
  clear hm
  go_enter Try.func34, Try.ntmps34
  go_wp2
  go_loopw [3, 4, 5, 6, 7, 8, 9, 10, 11, 12, 13, 14, 15, 16, 17, 18, 19, 20, 21, 22] (fun n y _ _ _ _ _ _ _ _ _ _ _ _ _ _ _ _ _ _ wr => wr = w ∧ ∃ (k : Nat) (z : Int), y = .int .i64 k ∧ n = .int .i64 z ∧ k ≤ L.length) (fun _ y _ _ _ _ _ _ _ _ _ _ _ _ _ _ _ _ _ _ _ => L.length - (intOf y).toNat)
  case atStart => exact ⟨rfl, 0, 0, rfl, rfl, Nat.zero_le _⟩
  case round =>
    obtain ⟨rfl, k, z, rfl, rfl, hk⟩ := hrel
    by_cases hlt : k < L.length
    · have hkL : (k : Int) < (L.length : Int) := by omega
      by_cases hz : z ≤ 70000
      · have hd : decide (z ≤ 70000) = true := by simpa using hz
        obtain ⟨b, off, rfl, hb, hcs⟩ := HM.out (by rintro rfl; simp at hlt)
        have hcl := (hcs k hlt).1.text
        obtain ⟨s, hs⟩ : ∃ s, (L.getD k default).text = s := ⟨_, rfl⟩
        rw [hs] at hcl
        clear hcs
        go_wp2
        exact ⟨⟨trivial, k + 1, _, by rw [show ((k + 1 : Nat) : Int) = (k : Int) + 1 by omega], rfl, hlt⟩, by simp only [intOf]; omega⟩
      · have hd : decide (z ≤ 70000) = false := by simpa using hz
        go_wp2
        all_goals
          go_ret
          exact ⟨_, rfl, rfl, fun h => by first | omega | cases h⟩
    · have hkL : ¬ ((k : Int) < (L.length : Int)) := by omega
      go_wp2
      all_goals
        go_ret
        exact ⟨_, rfl, rfl, fun h => by first | omega | cases h⟩

def partCells (p : PtV) : List Value := [.int .i64 p.kind, .int .u64 p.n, .int .i64 p.bytes, .string p.text]
def ptsCells (ps : List PtV) : List Value := ps.flatMap partCells
theorem ptsCells_snoc (ps : List PtV) (p : PtV) : ptsCells (ps ++ [p]) = ptsCells ps ++ partCells p := by simp [ptsCells]
theorem ptsCells_len (ps : List PtV) : (ptsCells ps).length = ps.length * 4 := by
  induction ps with
  | nil => rfl
  | cons p ps ih => rw [show ptsCells (p :: ps) = partCells p ++ ptsCells ps from rfl, List.length_append, ih, List.length_cons]; simp [partCells]; omega
theorem ptsCells_at (ps : List PtV) (j t : Nat) (hj : j < ps.length) (ht : t < 4) : (ptsCells ps)[j * 4 + t]? = (partCells (ps.getD j default))[t]? := by
  induction ps generalizing j with
  | nil => simp at hj
  | cons p ps ih =>
    rw [show ptsCells (p :: ps) = partCells p ++ ptsCells ps from rfl]
    have hl : (partCells p).length = 4 := rfl
    cases j with
    | zero => rw [List.getElem?_append_left (by rw [hl]; omega), Nat.zero_mul, Nat.zero_add]; rfl
    | succ j =>
      rw [List.getElem?_append_right (by rw [hl]; omega), hl, show (j + 1) * 4 + t - 4 = j * 4 + t by omega, ih j (by simp at hj; omega)]
      rfl
/-- The slice value, made by the call, holds these parts. -/
def OwnP (w : World) (base : Nat) (v : Value) (ps : List PtV) : Prop := w.ownsRow base 75 4 v ps.length (ptsCells ps)
theorem OwnP.nil (w : World) (base : Nat) : OwnP w base (.slice none 0 0) [] := World.ownsRow_nil w base _ _
theorem ownP_block {w : World} {base : Nat} {v : Value} {ps : List PtV} (h : OwnP w base v ps) (g : Nat) (hg : v.ownBlock = some g) : ∃ cs, w.heap[g]? = some (.cells cs 75 (0, 0)) := by
  rcases h.2 with ⟨rfl, _⟩ | ⟨g', cap, cur, rfl, _, hh, _⟩
  · cases hg
  · cases hg; exact ⟨cur, hh⟩
theorem OwnP.form {w : World} {base : Nat} {v : Value} {ps : List PtV} (h : OwnP w base v ps) : ∃ a cap, v = .slice a ps.length cap ∧ (ps ≠ [] → ∃ g, a = some ⟨g, 0, none⟩ ∧ base ≤ g ∧ g < w.heap.size ∧ ∀ j, j < ps.length → PtAt w g (j * 4) (ps.getD j default)) := by
  obtain ⟨hlen, ⟨rfl, h0⟩ | ⟨g, cap, cur, rfl, hg, hh, hn, hcap, hsz, htk⟩⟩ := h
  · have : ps = [] := List.eq_nil_of_length_eq_zero h0
    subst this
    exact ⟨none, 0, rfl, fun h => absurd rfl h⟩
  · refine ⟨_, cap, rfl, fun _ => ⟨g, rfl, hg, (Array.getElem?_eq_some_iff.1 hh).1, fun j hj => ?_⟩⟩
    have key : ∀ t v, t < 4 → (partCells (ps.getD j default))[t]? = some v → w.cell? ⟨g, j * 4 + t, none⟩ = some v := fun t v ht hv => by
      rw [cell_of_row w g _ _ _ _ hh]
      have h1 : (cur.toList.take (ps.length * 4))[j * 4 + t]? = some v := by rw [htk, ptsCells_at ps j t hj ht, hv]
      rw [List.getElem?_take, if_pos (by omega), Array.getElem?_toList] at h1
      exact h1
    exact ⟨key 0 _ (by omega) rfl, key 1 _ (by omega) rfl, key 2 _ (by omega) rfl, key 3 _ (by omega) rfl⟩
theorem OwnP.kept {w w' : World} {base : Nat} {v : Value} {ps : List PtV} (h : OwnP w base v ps) (hg : ∀ g, v.ownBlock = some g → w'.heap[g]? = w.heap[g]?) : OwnP w' base v ps := by
  refine ⟨h.1, ?_⟩
  rcases h.2 with e | ⟨g, cp, cur, rfl, hb, hh, r⟩
  · exact .inl e
  · exact .inr ⟨g, cp, cur, rfl, hb, (hg g rfl).trans hh, r⟩
theorem OwnP.below {w w' : World} {base : Nat} {v : Value} {ps : List PtV} (h : OwnP w base v ps) (hb : Below w.heap.size w w') : OwnP w' base v ps :=
  h.kept fun g hg => by
    obtain ⟨cs, hh⟩ := ownP_block h g hg
    exact hb.block g (Array.getElem?_eq_some_iff.1 hh).1
/-- A writer that writes leaves the parts as they are. -/
theorem OwnP.kept2 {w w' : World} {n₀ base B : Nat} {u v v' : Value} {l : List UInt8} {ps : List PtV} (h : OwnP w base u ps) (hW : IsWr n₀ w B v l) (hg : Goes2 w w' B v v') : OwnP w' base u ps :=
  h.kept fun g hgu => by
    obtain ⟨cs, hh⟩ := ownP_block h g hgu
    refine hg.block g (Array.getElem?_eq_some_iff.1 hh).1 (fun e => ?_) (fun e => ?_)
    · rw [e, hW.cells] at hh; cases hh
    · obtain ⟨cs2, h2⟩ := own_block hW.own g e.symm
      rw [hh] at h2; cases h2
/-- A part that is appended leaves the writer as it is. -/
theorem IsWr.keptP {w w' : World} {n₀ base B : Nat} {u v : Value} {l : List UInt8} {ps : List PtV} (h : IsWr n₀ w B v l) (hP : OwnP w base u ps) (hg : w.grownBy w' u.ownBlock) : IsWr n₀ w' B v l := by
  refine h.kept hg (fun e => ?_) ?_
  · obtain ⟨cs, hh⟩ := ownP_block hP B e.symm
    rw [h.cells] at hh; cases hh
  · cases hv : v.ownBlock with
    | none => exact .inl rfl
    | some g =>
      refine .inr fun e => ?_
      obtain ⟨cs, hh⟩ := ownP_block hP g e.symm
      obtain ⟨cs2, h2⟩ := own_block h.own g hv
      rw [hh] at h2; cases h2
theorem infoPart : (Try.prog.info? 75).map (fun i => (i.zero, i.size, i.bytes)) = some (some (.agg #[.int .i64 0, .int .u64 0, .int .i64 0, .string ⟨#[]⟩]), 4, 40) := by kernel_rfl
theorem wpList_append_part {w : World} {ops : Array Oper} {rest : List Oper} {o : Oper} {a : Act} {Q : Exit → Act → World → Prop} (hgd : o.guard = none) (s x : Operand)
    (ho : o.op = .call { callee := .builtin .append, args := #[s, x], argTypes := #[69, 69] }) (base : Nat) (v : Value) (ps : List PtV) (hs : a.eval s = v) (hown : OwnP w base v ps)
    (g c : Nat) (p : PtV) (hx : a.eval x = .slice (some ⟨g, 0, none⟩) 1 c) (hp : PtAt w g 0 p) (hbound : ps.length ≤ 1000000) (hbase : base ≤ w.heap.size)
    (h : ∀ v' w', OwnP w' base v' (ps ++ [p]) → w.grownBy w' v.ownBlock → wpList Try.prog ops Q rest (a.put o.dst v') w') : wpList Try.prog ops Q (o :: rest) a w := by
  obtain ⟨i0, hi, hz0, hz1, hz2⟩ := info_parts infoPart
  refine wpList_append_own_at w hgd s x 69 ho base 75 i0 _ 4 40 Try.underlying69 hi hz0 hz1 hz2 rfl (by decide) v ps.length (ptsCells ps) hs hown ⟨g, 0, none⟩ 1 c (partCells p) hx (by simp [partCells]) ?_ ?_ (by unfold maxLen; omega) (by omega) hbase
    (fun v' w' h1 h2 _ _ => h v' w' (by unfold OwnP; rw [ptsCells_snoc]; simpa using h1) h2)
  · intro j u hu
    rw [addr_add]
    match j, hu with
    | 0, hu => cases hu; exact hp.kind
    | 1, hu => cases hu; exact hp.n
    | 2, hu => cases hu; exact hp.bytes
    | 3, hu => cases hu; exact hp.text
  · intro u hu
    simp [partCells] at hu
    rcases hu with rfl | rfl | rfl | rfl <;> rfl
end Go.Proofs.Ytdmgemimbbhbiaa
