/- Layer 2's disk as plain data: what lasts, what waits, what arms it; each step; what a crash leaves. Of the program's types only the pages. -/
import Derived.Test.YtkophpipehdkmaaIntMap
import Derived.Test.YtkophpipehdkmaaDskMem
namespace Go.Proofs.Ytkophpipehdkmaa

structure Dsk where
  kind : Nat
  left : Nat
  dead : Bool
  steps : Nat
  lasts : List Page
  waits : List (Nat × Page)

def Dsk.room (d : Dsk) : Nat := d.lasts.length
structure Dsk.Ok (d : Dsk) : Prop where
  lo : 2 ≤ d.room
  hi : d.room ≤ 4096
  len : ∀ p, p < d.room → (d.lasts.getD p noughts).length = 256
  wait : ∀ x ∈ d.waits, x.1 < d.room ∧ x.2.length = 256
  kind : d.kind ≤ 2
  none_ : d.kind = 0 → d.left = 0
  dead_ : d.dead = true → d.kind = 0
  left_ : d.left ≤ 9223372036854775807

/-- Each page as what waits left it last, if anything did. -/
def newest (ws : List (Nat × Page)) : Nat → Option Page := ws.foldl (fun f x j => if j = x.1 then some x.2 else f j) (fun _ => none)
theorem newest_nil : newest [] = fun _ => none := rfl
theorem newest_snoc (ws : List (Nat × Page)) (p : Nat) (l : Page) : newest (ws ++ [(p, l)]) = fun j => if j = p then some l else newest ws j := by
  simp [newest, List.foldl_append]
theorem newest_snoc' (ws : List (Nat × Page)) (x : Nat × Page) : newest (ws ++ [x]) = fun j => if j = x.1 then some x.2 else newest ws j := by
  simp [newest, List.foldl_append]
theorem snoc_ind {α : Type} {P : List α → Prop} (h0 : P []) (h1 : ∀ l x, P l → P (l ++ [x])) : ∀ l, P l := by
  intro l
  have : ∀ n (l : List α), l.length = n → P l := by
    intro n
    induction n with
    | zero => intro l hl; rw [List.eq_nil_of_length_eq_zero hl]; exact h0
    | succ n ih =>
      intro l hl
      have hne : l ≠ [] := by intro e; rw [e] at hl; cases hl
      rw [← List.dropLast_concat_getLast hne]
      exact h1 _ _ (ih _ (by rw [List.length_dropLast]; omega))
  exact this _ l rfl
theorem newest_len {ws : List (Nat × Page)} (h : ∀ x ∈ ws, x.2.length = 256) {p : Nat} {l : Page} (hp : newest ws p = some l) : l.length = 256 := by
  revert h hp
  refine snoc_ind (P := fun ws => (∀ x ∈ ws, x.2.length = 256) → newest ws p = some l → l.length = 256) ?_ ?_ ws
  · intro _ hp; cases hp
  · intro ws x ih h hp
    rw [newest_snoc'] at hp
    simp only at hp
    split at hp
    · cases hp; exact h x (by simp)
    · exact ih (fun y hy => h y (by simp [hy])) hp
theorem newest_isSome {ws : List (Nat × Page)} {p : Nat} : (newest ws p).isSome = true ↔ ∃ x ∈ ws, x.1 = p := by
  refine snoc_ind (P := fun ws => (newest ws p).isSome = true ↔ ∃ x ∈ ws, x.1 = p) ?_ ?_ ws
  · simp [newest]
  · intro ws x ih
    rw [newest_snoc']
    by_cases hp : p = x.1
    · simp only [hp, if_true, Option.isSome_some, true_iff]
      exact ⟨x, by simp, rfl⟩
    · simp only [if_neg hp, ih, List.mem_append, List.mem_singleton]
      constructor
      · rintro ⟨y, hy, e⟩; exact ⟨y, .inl hy, e⟩
      · rintro ⟨y, hy | rfl, e⟩
        · exact ⟨y, hy, e⟩
        · exact absurd e.symm hp

def Dsk.page (d : Dsk) (p : Nat) : Page := (newest d.waits p).getD (d.lasts.getD p noughts)

/-- A step, if it is not refused; what it is refused with. -/
def Dsk.step (d : Dsk) : Dsk × Nat :=
  if d.dead = true then (d, 120)
  else if d.kind ≠ 0 ∧ d.left = 0 then
    (if d.kind = 1 then ({ d with kind := 0, left := 0, dead := true }, 120) else ({ d with kind := 0, left := 0, dead := false }, 121))
  else ({ d with left := d.left - (if d.kind = 0 then 0 else 1), steps := d.steps + 1 }, 0)
def Dsk.write (d : Dsk) (p : Int) (b : List UInt8) : Dsk × Nat :=
  if b.length ≠ 256 then (d, 2)
  else if ¬(0 ≤ p ∧ p < d.room) then (d, 4)
  else if d.step.2 = 0 then ({ d.step.1 with waits := d.waits ++ [(p.toNat, b)] }, 0) else d.step
def applied (ls : List Page) (ws : List (Nat × Page)) : List Page := (List.range ls.length).map fun p => (newest ws p).getD (ls.getD p noughts)
def Dsk.flush (d : Dsk) : Dsk × Nat :=
  if d.step.2 = 0 then ({ d.step.1 with lasts := applied d.lasts d.waits, waits := [] }, 0) else d.step
def Dsk.arm (d : Dsk) (kind : Int) (n : Int) : Dsk × Nat :=
  if ¬(kind = 1 ∨ kind = 2) ∧ (kind ≠ 0 ∨ 0 ≤ n) then (d, 2)
  else if d.dead = true then (d, 120)
  else if 0 ≤ n then ({ d with kind := kind.toNat, left := n.toNat, dead := false }, 0)
  else ({ d with kind := 0, left := 0, dead := false }, 0)

/- What a crash leaves. -/
def wrote (ws : List (Nat × Page)) (p : Nat) : List Page := (ws.filter fun x => x.1 == p).map (·.2)
def isTorn (ws : List (Nat × Page)) (p : Nat) : Bool := ws.any fun x => x.1 == p
def tornPages (ws : List (Nat × Page)) (n : Nat) : List Nat := (List.range n).filter (isTorn ws)
def pickOf (pick : Int) (n : Nat) : Nat := (pick % (n : Int)).toNat
/-- A page of which the first k sectors are as m tells, the others as those of base. -/
def mix (m : Nat → Page) (base : Page) (k : Nat) : Page := (List.range 256).map fun i => if i / 64 < k then (m (i / 64)).getD i 0 else base.getD i 0
/-- What a page of those that may be is to have in sector j, by the picks from number u on. -/
def picked (may : List Page) (picks : List Int) (u : Nat) (j : Nat) : Page := may.getD (pickOf (picks.getD (u + j) 0) may.length) noughts
def crashPage (ls : List Page) (ws : List (Nat × Page)) (picks : List Int) (p : Nat) : Page :=
  if isTorn ws p = true then mix (picked (ls.getD p noughts :: wrote ws p) picks (4 * (tornPages ws p).length)) (ls.getD p noughts) 4 else ls.getD p noughts
def Dsk.crash (d : Dsk) (picks : List Int) : Dsk :=
  { kind := 0, left := 0, dead := false, steps := 0, lasts := (List.range d.room).map (crashPage d.lasts d.waits picks), waits := [] }
def Dsk.new (n : Nat) : Dsk := { kind := 0, left := 0, dead := false, steps := 0, lasts := List.replicate n noughts, waits := [] }

theorem mix_len (m : Nat → Page) (base : Page) (k : Nat) : (mix m base k).length = 256 := by simp [mix]
theorem mix_zero (m : Nat → Page) (base : Page) (h : base.length = 256) : mix m base 0 = base := by
  apply List.ext_getElem?
  intro i
  by_cases hi : i < 256
  · simp [mix, hi, h]
  · simp [mix, hi]; omega
/-- A sector of another page over one's own. -/
def splice (c l : Page) (k : Nat) : Page := c.take (64 * k) ++ ((l.drop (64 * k)).take 64 ++ c.drop (64 * k + 64))
theorem splice_len {c l : Page} {k : Nat} (hc : c.length = 256) (hl : l.length = 256) (hk : k < 4) : (splice c l k).length = 256 := by
  simp [splice]; omega
theorem splice_get {c l : Page} {k : Nat} (hc : c.length = 256) (hl : l.length = 256) (hk : k < 4) (i : Nat) : (splice c l k)[i]? = if i / 64 = k then l[i]? else c[i]? := by
  unfold splice
  have h64 : 64 * k ≤ 192 := by omega
  by_cases h1 : i < 64 * k
  · have : ¬ i / 64 = k := by omega
    rw [if_neg this, List.getElem?_append_left (by simp; omega)]
    simp [h1]
  · rw [List.getElem?_append_right (by simp; omega)]
    have e1 : (c.take (64 * k)).length = 64 * k := by simp; omega
    rw [e1]
    by_cases h2 : i < 64 * k + 64
    · have : i / 64 = k := by omega
      rw [if_pos this, List.getElem?_append_left (by simp; omega), List.getElem?_take, if_pos (by omega), List.getElem?_drop]
      congr 1; omega
    · have : ¬ i / 64 = k := by omega
      rw [if_neg this, List.getElem?_append_right (by simp; omega)]
      have e2 : ((l.drop (64 * k)).take 64).length = 64 := by simp; omega
      rw [e2, List.getElem?_drop]
      congr 1; omega
theorem mix_get (m : Nat → Page) (base : Page) (k i : Nat) : (mix m base k)[i]? = if i < 256 then some (if i / 64 < k then (m (i / 64)).getD i 0 else base.getD i 0) else none := by
  by_cases hi : i < 256
  · simp [mix, hi]
  · simp [mix, hi]
theorem mix_succ (m : Nat → Page) (base : Page) (k : Nat) (hk : k < 4) (hm : (m k).length = 256) : mix m base (k + 1) = splice (mix m base k) (m k) k := by
  apply List.ext_getElem?
  intro i
  rw [splice_get (mix_len _ _ _) hm hk, mix_get, mix_get]
  by_cases hi : i < 256
  · simp only [hi, if_true]
    by_cases h1 : i / 64 = k
    · rw [if_pos h1, if_pos (by omega), h1, List.getD, List.getElem?_eq_getElem (by omega)]; rfl
    · rw [if_neg h1]
      by_cases h2 : i / 64 < k
      · rw [if_pos h2, if_pos (by omega)]
      · rw [if_neg h2, if_neg (by omega)]
  · simp only [hi, if_false]
    have : ¬ i / 64 = k := by omega
    rw [if_neg this]
/-- Sectors that are picked as they last are as they were. -/
theorem mix_same (m : Nat → Page) (base : Page) (k : Nat) (h : ∀ j, k ≤ j → j < 4 → m j = base) : mix m base k = mix m base 4 := by
  apply List.ext_getElem?
  intro i
  rw [mix_get, mix_get]
  by_cases hi : i < 256
  · simp only [hi, if_true]
    have h4 : i / 64 < 4 := by omega
    by_cases h2 : i / 64 < k
    · rw [if_pos h2, if_pos h4]
    · rw [if_neg h2, if_pos h4, h _ (by omega) h4]
  · simp only [hi, if_false]
theorem pickOf_lt (pick : Int) {n : Nat} (h : 0 < n) : pickOf pick n < n := by
  unfold pickOf
  have h1 := Int.emod_nonneg pick (show (n : Int) ≠ 0 by omega)
  have h2 := Int.emod_lt_of_pos pick (show (0 : Int) < n by omega)
  omega
theorem pickOf_zero (n : Nat) : pickOf 0 n = 0 := by simp [pickOf]
theorem picked_past (may : List Page) (picks : List Int) (u j : Nat) (h : picks.length ≤ u + j) : picked may picks u j = may.getD 0 noughts := by
  unfold picked
  rw [show picks.getD (u + j) 0 = 0 by rw [List.getD, List.getElem?_eq_none h]; rfl, pickOf_zero]
theorem wrote_ne {ws : List (Nat × Page)} {p : Nat} : wrote ws p ≠ [] ↔ isTorn ws p = true := by
  unfold wrote isTorn
  constructor
  · intro h
    cases hf : ws.filter (fun x => x.1 == p) with
    | nil => rw [hf] at h; exact absurd rfl h
    | cons x r =>
      rw [List.any_eq_true]
      have : x ∈ ws.filter (fun x => x.1 == p) := by rw [hf]; simp
      exact ⟨x, (List.mem_filter.1 this).1, (List.mem_filter.1 this).2⟩
  · intro h e
    obtain ⟨x, hx, hp⟩ := List.any_eq_true.1 h
    have : x.2 ∈ (ws.filter fun x => x.1 == p).map (·.2) := List.mem_map.2 ⟨x, List.mem_filter.2 ⟨hx, hp⟩, rfl⟩
    rw [e] at this; cases this
theorem isTorn_newest {ws : List (Nat × Page)} {p : Nat} : isTorn ws p = (newest ws p).isSome := by
  rw [Bool.eq_iff_iff, newest_isSome]
  unfold isTorn
  rw [List.any_eq_true]
  constructor
  · rintro ⟨x, hx, e⟩; exact ⟨x, hx, by simpa using e⟩
  · rintro ⟨x, hx, e⟩; exact ⟨x, hx, by simpa using e⟩
theorem wrote_snoc (ws : List (Nat × Page)) (x : Nat × Page) (p : Nat) : wrote (ws ++ [x]) p = if x.1 = p then wrote ws p ++ [x.2] else wrote ws p := by
  unfold wrote
  rw [List.filter_append, List.map_append]
  by_cases h : x.1 = p
  · simp [h]
  · simp [h]
theorem wrote_mem {ws : List (Nat × Page)} {p : Nat} {l : Page} (h : l ∈ wrote ws p) : (p, l) ∈ ws := by
  unfold wrote at h
  obtain ⟨x, hx, rfl⟩ := List.mem_map.1 h
  have h1 := (List.mem_filter.1 hx).1
  have h2 : x.1 = p := by simpa using (List.mem_filter.1 hx).2
  rw [← h2]; exact h1
theorem tornPages_succ (ws : List (Nat × Page)) (n : Nat) : tornPages ws (n + 1) = if isTorn ws n = true then tornPages ws n ++ [n] else tornPages ws n := by
  unfold tornPages
  rw [List.range_succ, List.filter_append]
  by_cases h : isTorn ws n = true
  · simp [h]
  · simp [h]

/- All steps keep what a disk is. -/
theorem Dsk.Ok.step {d : Dsk} (h : d.Ok) : d.step.1.Ok ∧ d.step.1.lasts = d.lasts ∧ d.step.1.waits = d.waits ∧ (d.step.2 = 0 → d.step.1.steps = d.steps + 1) ∧ (d.step.2 ≠ 0 → d.step.1.steps = d.steps) := by
  unfold Dsk.step
  split
  · exact ⟨h, rfl, rfl, (fun e => by cases e), fun _ => rfl⟩
  · split
    · split
      · exact ⟨⟨h.lo, h.hi, h.len, h.wait, by simp, fun _ => rfl, fun _ => rfl, by simp⟩, rfl, rfl, (fun e => by cases e), fun _ => rfl⟩
      · exact ⟨⟨h.lo, h.hi, h.len, h.wait, by simp, fun _ => rfl, (fun e => by cases e), by simp⟩, rfl, rfl, (fun e => by cases e), fun _ => rfl⟩
    · rename_i hd hk
      refine ⟨⟨h.lo, h.hi, h.len, h.wait, h.kind, fun e => ?_, fun e => absurd e hd, ?_⟩, rfl, rfl, fun _ => rfl, fun e => absurd rfl e⟩
      · have := h.none_ e; simp only at e ⊢; rw [if_pos e]; omega
      · have := h.left_; simp only; omega
theorem Dsk.Ok.write {d : Dsk} (h : d.Ok) (p : Int) (b : List UInt8) : (d.write p b).1.Ok := by
  unfold Dsk.write
  obtain ⟨h1, h2, h3, -, -⟩ := h.step
  split
  · exact h
  · rename_i hb
    split
    · exact h
    · rename_i hp
      split
      · rename_i he
        have hp' : 0 ≤ p ∧ p < d.room := Classical.not_not.1 hp
        have hr : d.step.1.room = d.room := by unfold Dsk.room; rw [h2]
        refine ⟨h1.lo, h1.hi, h1.len, ?_, h1.kind, h1.none_, h1.dead_, h1.left_⟩
        · intro x hx
          show x.1 < d.step.1.room ∧ _
          rw [hr]
          rcases List.mem_append.1 hx with hx | hx
          · exact h.wait x hx
          · obtain rfl := List.mem_singleton.1 hx
            exact ⟨by show p.toNat < _; omega, by simpa using hb⟩
      · exact h1
theorem applied_get (ls : List Page) (ws : List (Nat × Page)) {p : Nat} (hp : p < ls.length) : (applied ls ws).getD p noughts = (newest ws p).getD (ls.getD p noughts) := by
  simp [applied, List.getD, hp]
theorem applied_len (ls : List Page) (ws : List (Nat × Page)) : (applied ls ws).length = ls.length := by simp [applied]
theorem Dsk.Ok.flush {d : Dsk} (h : d.Ok) : d.flush.1.Ok := by
  unfold Dsk.flush
  obtain ⟨h1, h2, h3, -, -⟩ := h.step
  split
  · rename_i he
    have hr : (applied d.lasts d.waits).length = d.room := by rw [applied_len]; rfl
    refine ⟨by show 2 ≤ _; unfold Dsk.room; rw [hr]; exact h.lo, by unfold Dsk.room; rw [hr]; exact h.hi, ?_, (by intro x hx; cases hx), h1.kind, h1.none_, h1.dead_, h1.left_⟩
    intro p hp
    unfold Dsk.room at hp
    rw [hr] at hp
    show ((applied d.lasts d.waits).getD p noughts).length = 256
    rw [applied_get _ _ hp]
    cases hn : newest d.waits p with
    | none => exact h.len p hp
    | some l => exact newest_len (fun x hx => (h.wait x hx).2) hn
  · exact h1
theorem Dsk.Ok.arm {d : Dsk} (h : d.Ok) (kind n : Int) (hn : n ≤ 9223372036854775807) : (d.arm kind n).1.Ok := by
  unfold Dsk.arm
  split
  · exact h
  · rename_i hk
    split
    · exact h
    · split
      · rename_i h0
        have hk2 : kind = 1 ∨ kind = 2 := by
          rcases Classical.em (kind = 1 ∨ kind = 2) with h | h
          · exact h
          · exact absurd ⟨h, .inr h0⟩ hk
        refine ⟨h.lo, h.hi, h.len, h.wait, by simp only; omega, fun e => ?_, (fun e => by cases e), by simp only; omega⟩
        simp only at e; omega
      · exact ⟨h.lo, h.hi, h.len, h.wait, by simp, fun _ => rfl, (fun e => by cases e), by simp⟩
theorem Dsk.Ok.new {n : Nat} (h1 : 2 ≤ n) (h2 : n ≤ 4096) : (Dsk.new n).Ok := by
  refine ⟨by simpa [Dsk.new, Dsk.room] using h1, by simpa [Dsk.new, Dsk.room] using h2, ?_, (by intro x hx; cases hx), by simp [Dsk.new], fun _ => rfl, (fun e => by cases e), by simp [Dsk.new]⟩
  intro p hp
  have hp' : p < n := by simpa [Dsk.new, Dsk.room] using hp
  simp only [Dsk.new, List.getD, List.getElem?_replicate, if_pos hp', Option.getD_some]
  exact noughts_len
theorem crash_get (d : Dsk) (picks : List Int) {p : Nat} (hp : p < d.room) : (d.crash picks).lasts.getD p noughts = crashPage d.lasts d.waits picks p := by
  simp [Dsk.crash, List.getD, hp]
theorem crash_room (d : Dsk) (picks : List Int) : (d.crash picks).room = d.room := by simp [Dsk.crash, Dsk.room]
theorem crashPage_len {d : Dsk} (h : d.Ok) (picks : List Int) {p : Nat} (hp : p < d.room) : (crashPage d.lasts d.waits picks p).length = 256 := by
  unfold crashPage
  split
  · exact mix_len _ _ _
  · exact h.len p hp
theorem Dsk.Ok.crash {d : Dsk} (h : d.Ok) (picks : List Int) : (d.crash picks).Ok := by
  refine ⟨by rw [crash_room]; exact h.lo, by rw [crash_room]; exact h.hi, fun p hp => ?_, (by intro x hx; cases hx), by simp [Dsk.crash], fun _ => rfl, (fun e => by cases e), by simp [Dsk.crash]⟩
  rw [crash_room] at hp
  rw [crash_get _ _ hp]
  exact crashPage_len h picks hp
/-- How many wait, how many steps were done: at most so many. -/
def Dsk.Few (d : Dsk) (m : Nat) : Prop := d.waits.length ≤ m ∧ d.steps ≤ m
theorem Dsk.Few.step {d : Dsk} {m : Nat} (h : d.Few m) (ok : d.Ok) : d.step.1.Few (m + 1) := by
  obtain ⟨-, -, h3, h4, h5⟩ := ok.step
  refine ⟨by rw [h3]; have := h.1; omega, ?_⟩
  by_cases he : d.step.2 = 0
  · rw [h4 he]; have := h.2; omega
  · rw [h5 he]; have := h.2; omega
theorem Dsk.Few.mono {d : Dsk} {m n : Nat} (h : d.Few m) (hn : m ≤ n) : d.Few n := ⟨Nat.le_trans h.1 hn, Nat.le_trans h.2 hn⟩
theorem Dsk.Few.write {d : Dsk} {m : Nat} (h : d.Few m) (ok : d.Ok) (p : Int) (b : List UInt8) : (d.write p b).1.Few (m + 1) := by
  have hs := h.step ok
  unfold Dsk.write
  split
  · exact h.mono (by omega)
  · split
    · exact h.mono (by omega)
    · split
      · exact ⟨by simp; have := h.1; omega, hs.2⟩
      · exact hs
theorem Dsk.Few.flush {d : Dsk} {m : Nat} (h : d.Few m) (ok : d.Ok) : d.flush.1.Few (m + 1) := by
  have hs := h.step ok
  unfold Dsk.flush
  split
  · exact ⟨by simp, hs.2⟩
  · exact hs
theorem Dsk.Few.arm {d : Dsk} {m : Nat} (h : d.Few m) (kind n : Int) : (d.arm kind n).1.Few m := by
  unfold Dsk.arm
  split
  · exact h
  · split
    · exact h
    · split <;> exact h
theorem Dsk.Few.new (n : Nat) : (Dsk.new n).Few 0 := ⟨Nat.le_refl _, Nat.le_refl _⟩
theorem Dsk.Few.crash (d : Dsk) (picks : List Int) : (d.crash picks).Few 0 := ⟨Nat.le_refl _, Nat.le_refl _⟩
end Go.Proofs.Ytkophpipehdkmaa
