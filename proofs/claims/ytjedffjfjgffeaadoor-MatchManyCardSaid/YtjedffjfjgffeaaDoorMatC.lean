/- Layer 14: what changes in a tree: an entry of a map in two steps; a new branch; what ends is told anew; how much. -/
import Derived.WideKeyEntry
import Derived.WideMake
import Derived.Test.YtjedffjfjgffeaaDoorMatB
namespace Go.Proofs.YtjedffjfjgffeaaDoor
open Go.RowKit Go.MapKept Go.ChangeMaps

section
variable {P : Program} {kT : TypeId}
/-- 'm[k], .. = v, ..': the entry first, what it holds later. -/
theorem SMap.entry {T E : TypeId} {w : World} {b : Nat} {f : Txt → Option Value} (h : SMap P kT w b f) (hkT : P.underlying kT = some .string) (hT : P.underlying T = some (.map kT E)) {z : Value} (hz : ∀ w, (zeroValue E).run P w = .ok z w) (s : ByteArray) (hk : s.size ≤ maxLen) (v : Value) (hF : Few (putT f s.data.toList v)) :
    ∃ v0 st w1 w2, (Instr.mapEntry T (.map (some b)) (.string s)).run P w = .ok (.tuple #[v0, .int .i64 ((st : Nat) : Int)]) w1 ∧ w.grownBy w1 (some b) ∧
      (Instr.entryStore T (.map (some b)) (.int .i64 ((st : Nat) : Int)) v).run P w1 = .ok () w2 ∧ SMap P kT w2 b (putT f s.data.toList v) ∧ w.grownBy w2 (some b) := by
  obtain ⟨wu, hu, hS, hg⟩ := h.put hkT hT s hk v hF
  obtain ⟨D, ⟨es, clock, hb, F, hs, hD⟩, hr⟩ := h
  have hkey : keyOf P kT (.string s) = some (.string s.data.toList) := Go.WideMaps.keyOf_string_mk hkT hk
  obtain ⟨v0, st, es1, clock1, h1, -, h3⟩ := Go.WideElems.entry_then_store (Go.WideMaps.string_law hkT) hT hz hb F hkey
  obtain ⟨es', clock', h4, h5⟩ := h3 (setBlock w b (.map es1 clock1)) v (heap_setBlock_same hb _)
  rw [h5] at hu
  injection hu with _ hu
  subst hu
  refine ⟨v0, st, _, _, h1, ⟨rfl, rfl, rfl, by simp [setBlock], fun i _ hi => heap_setBlock_other hb _ (fun e => hi (by rw [e]))⟩, h4, ?_, ?_⟩
  · refine hS.at_block ?_
    rw [heap_setBlock_same (heap_setBlock_same hb _), heap_setBlock_same hb]
  · refine ⟨rfl, rfl, rfl, by simp [setBlock], fun i _ hi => ?_⟩
    rw [heap_setBlock_other (heap_setBlock_same hb _) _ (fun e => hi (by rw [e])), heap_setBlock_other hb _ (fun e => hi (by rw [e]))]
end

def putE (En : Pth → Txt → Option Sb) (r : Pth) (c : Txt) (s : Option Sb) : Pth → Txt → Option Sb := fun q d => if q = r ∧ d = c then s else En q d
def putC (C : Pth → Nat) (p r : Pth) (fresh : Bool) : Pth → Nat := fun q => if fresh = true ∧ p <+: q ∧ q <+: r then C q + 1 else C q
variable {w w' : World} {t : Tr} {En : Pth → Txt → Option Sb} {C : Pth → Nat} {gs : List (Pth × Txt)}
theorem pre_anti {p q : Pth} (h : p <+: q) (g : q <+: p) : q = p := (List.IsPrefix.eq_of_length_le h (List.IsPrefix.length_le g)).symm
/-- How much is there at a branch: written anew. -/
theorem TreeAt.sized (h : TreeAt w t En C gs) {p : Pth} {x : Nd} (hx : t p = some x) (n : Nat) (hn : n ≤ 5000) :
    TreeAt (w.setCell ⟨x.b, 2, none⟩ (.int .i64 (n : Int))) t En (fun q => if q = p then n else C q) gs ∧ Kp (Foot t) w (w.setCell ⟨x.b, 2, none⟩ (.int .i64 (n : Int))) := by
  have ho : ∀ k, k ≠ x.b → (w.setCell ⟨x.b, 2, none⟩ (.int .i64 (n : Int))).heap[k]? = w.heap[k]? := fun k hk => heap_setCell_other w ⟨x.b, 2, none⟩ k _ hk
  refine ⟨{ h with
    row := fun q y hy => ?_
    kids := fun q y hy => ?_
    ends := fun q y hy => ?_
    none' := fun q hq => ?_
    le := fun q => ?_ }, ⟨⟨rfl, rfl, rfl, by simp, fun i hi => absurd hi (Nat.not_lt_zero i)⟩, fun k _ hk => ho k fun e => hk ⟨p, x, hx, .inl e⟩⟩⟩
  · by_cases hq : q = p
    · subst hq
      obtain rfl : y = x := Option.some.inj (hy.symm.trans hx)
      have := heap_setCell_same w y.b 2 _ _ (.int .i64 (n : Int)) (h.row q y hy)
      rw [this]
      simp
    · rw [ho y.b (fun e => hq (h.one q p y x y.b hy hx (.inl rfl) (.inl e)))]
      simp only [if_neg hq]
      exact h.row q y hy
  · refine (h.kids q y hy).at_block (ho y.n fun e => ?_)
    obtain rfl : q = p := h.one q p y x y.n hy hx (.inr (.inl rfl)) (.inl e)
    obtain rfl : y = x := Option.some.inj (hy.symm.trans hx)
    exact (h.own q y hy).1 e.symm
  · refine (h.ends q y hy).at_block (ho y.e fun e => ?_)
    obtain rfl : q = p := h.one q p y x y.e hy hx (.inr (.inr rfl)) (.inl e)
    obtain rfl : y = x := Option.some.inj (hy.symm.trans hx)
    exact (h.own q y hy).2.1 e.symm
  · have hne : q ≠ p := fun e => by rw [e, hx] at hq; cases hq
    simp only [if_neg hne]
    exact h.none' q hq
  · by_cases hq : q = p
    · simp only [if_pos hq]; exact hn
    · simp only [if_neg hq]; exact h.le q
/-- What ends at a branch: told anew. -/
theorem TreeAt.ended (h : TreeAt w t En C gs) {p : Pth} {x : Nd} (hx : t p = some x) {En' : Pth → Txt → Option Sb} (hg : w.grownBy w' (some x.e)) (hm : SMap Tryd.prog 9 w' x.e (endV En' p)) (ho : ∀ q, q ≠ p → ∀ c, En' q c = En q c) (he : ∀ q c, (En' q c).isSome = true → (q, c) ∈ gs) :
    TreeAt w' t En' C gs ∧ Kp (Foot t) w w' := by
  have hb : ∀ k, Foot t k → k ≠ x.e → w'.heap[k]? = w.heap[k]? := fun k hk hne => hg.block k (h.lt hk) fun e => hne (by injection e)
  refine ⟨{ h with
    row := fun q y hy => ?_
    kids := fun q y hy => ?_
    ends := fun q y hy => ?_
    ent := fun q c hc => ?_
    ents := he }, Kp.of_grown hg ⟨p, x, hx, .inr (.inr rfl)⟩⟩
  · refine (hb y.b ⟨q, y, hy, .inl rfl⟩ fun e => ?_).trans (h.row q y hy)
    obtain rfl : q = p := h.one q p y x y.b hy hx (.inl rfl) (.inr (.inr e))
    obtain rfl : y = x := Option.some.inj (hy.symm.trans hx)
    exact (h.own q y hy).2.1 e
  · refine (h.kids q y hy).at_block (hb y.n ⟨q, y, hy, .inr (.inl rfl)⟩ fun e => ?_)
    obtain rfl : q = p := h.one q p y x y.n hy hx (.inr (.inl rfl)) (.inr (.inr e))
    obtain rfl : y = x := Option.some.inj (hy.symm.trans hx)
    exact (h.own q y hy).2.2 e
  · by_cases hq : q = p
    · subst hq
      obtain rfl : y = x := Option.some.inj (hy.symm.trans hx)
      exact hm
    · have : endV En' q = endV En q := by funext c; unfold endV; rw [ho q hq c]
      rw [this]
      exact (h.ends q y hy).at_block (hb y.e ⟨q, y, hy, .inr (.inr rfl)⟩ fun e => hq (h.one q p y x y.e hy hx (.inr (.inr rfl)) (.inr (.inr e))))
  · by_cases hq : q = p
    · rw [hq, hx]; rfl
    · rw [ho q hq c] at hc; exact h.ent q c hc

theorem bare_any (w : World) : Calls Tryd.prog 12 #[] w fun e w' => e = .returned (.pointer (some ⟨w.heap.size + 2, 0, none⟩)) ∧ Below w.heap.size w w' ∧
    w'.heap[w.heap.size]? = some (.map #[] 0) ∧ w'.heap[w.heap.size + 1]? = some (.map #[] 0) ∧ w'.heap[w.heap.size + 2]? = some (.cells #[.map (some w.heap.size), .map (some (w.heap.size + 1)), .int .i64 0] 52 (0, 0)) ∧ w'.heap.size = w.heap.size + 3 := by
  have h1 := run_makeMap_plain (P := Tryd.prog) w 49
  have h2 := run_makeMap_plain (P := Tryd.prog) (w.alloc (.map #[] 0)) 50
  go_enter Tryd.func12, Tryd.ntmps12
  go_wp2
  go_ret
  have old : ∀ (u : World) (o : Obj) (k : Nat), k < u.heap.size → (u.alloc o).heap[k]? = u.heap[k]? := fun u o k hk => (World.grownBy_alloc u o none).block k hk (by simp)
  refine ⟨rfl, (((Below.refl _ w).alloc (Nat.le_refl _) _).alloc (by simp) _).alloc (by simp; omega) _, ?_, ?_, ?_, by simp⟩
  · rw [old _ _ _ (by simp; omega), old _ _ _ (by simp)]
    exact (MapKept.heap_alloc w _).1
  · rw [old _ _ _ (by simp)]
    have := (MapKept.heap_alloc (w.alloc (.map #[] 0)) (.map #[] 0)).1
    rwa [show (w.alloc (.map #[] 0)).heap.size = w.heap.size + 1 by simp] at this
  · have := (MapKept.heap_alloc ((w.alloc (.map #[] 0)).alloc (.map #[] 0)) (.cells #[Value.map (some w.heap.size), Value.map (some (w.heap.size + 1)), Value.int IntKind.i64 0] 52)).1
    rwa [show ((w.alloc (.map #[] 0)).alloc (.map #[] 0)).heap.size = w.heap.size + 2 by simp] at this

theorem SMap.empty {P : Program} {kT : TypeId} {w : World} {b k : Nat} (h : w.heap[b]? = some (.map #[] k)) : SMap P kT w b (fun _ => none) :=
  ⟨.map [], ⟨#[], k, h, ⟨by simp, ⟨by simp, by simp⟩, by simp⟩, by simp, rfl⟩, fun _ _ => rfl, fun kl h => by cases h⟩
def putN (t : Tr) (q : Pth) (v : Option Nd) : Tr := fun r => if r = q then v else t r
/-- A new branch, at which nothing ends yet. -/
theorem TreeAt.grow (h : TreeAt w t En C gs) {p : Pth} {x : Nd} (hx : t p = some x) {l : Txt} (hn : t (p ++ [l]) = none) {y : Nd} {w1 w2 : World} (hb : Below w.heap.size w w1)
    (hy : w.heap.size ≤ y.b ∧ w.heap.size ≤ y.n ∧ w.heap.size ≤ y.e) (hyo : y.b ≠ y.n ∧ y.b ≠ y.e ∧ y.n ≠ y.e)
    (h1 : w1.heap[y.n]? = some (.map #[] 0)) (h2 : w1.heap[y.e]? = some (.map #[] 0)) (h3 : w1.heap[y.b]? = some (.cells #[.map (some y.n), .map (some y.e), .int .i64 0] 52 (0, 0)))
    (hg : w1.grownBy w2 (some x.n)) (hm : SMap Tryd.prog 9 w2 x.n (putT (kidV t p) l (.pointer (some ⟨y.b, 0, none⟩)))) (hc : ∃ r ∈ gs, p ++ [l] <+: r.1) :
    TreeAt w2 (putN t (p ++ [l]) (some y)) En C gs ∧ Kp (Foot t) w w2 := by
  have hxl : x.n < w.heap.size := h.lt ⟨p, x, hx, .inr (.inl rfl)⟩
  have hold : ∀ k, Foot t k → k ≠ x.n → w2.heap[k]? = w.heap[k]? := fun k hk hne => (hg.block k (Nat.lt_of_lt_of_le (h.lt hk) hb.size) fun e => hne (by injection e)).trans (hb.block k (h.lt hk))
  have hnew : ∀ k, w.heap.size ≤ k → k < w1.heap.size → w2.heap[k]? = w1.heap[k]? := fun k hk hk2 => hg.block k hk2 fun e => by injection e with e; omega
  have hlt : ∀ (k : Nat) (o : Obj), w1.heap[k]? = some o → k < w1.heap.size := fun k o e => (Array.getElem?_eq_some_iff.1 e).1
  have hpl : ∀ (q : Pth) (z : Nd), putN t (p ++ [l]) (some y) q = some z → (q = p ++ [l] ∧ z = y) ∨ (q ≠ p ++ [l] ∧ t q = some z) := fun q z hz => by
    unfold putN at hz
    by_cases e : q = p ++ [l]
    · rw [if_pos e] at hz; injection hz with hz; exact .inl ⟨e, hz.symm⟩
    · rw [if_neg e] at hz; exact .inr ⟨e, hz⟩
  have hsome : ∀ q, (putN t (p ++ [l]) (some y) q).isSome = true → q = p ++ [l] ∨ (t q).isSome = true := fun q hq => by
    unfold putN at hq
    by_cases e : q = p ++ [l]
    · exact .inl e
    · rw [if_neg e] at hq; exact .inr hq
  have hkeep : ∀ q, (t q).isSome = true → (putN t (p ++ [l]) (some y) q).isSome = true := fun q hq => by
    unfold putN
    by_cases e : q = p ++ [l]
    · rw [if_pos e]; rfl
    · rw [if_neg e]; exact hq
  have hbig : ∀ k, y.has k → w.heap.size ≤ k := fun k hk => by
    rcases hk with rfl | rfl | rfl
    · exact hy.1
    · exact hy.2.1
    · exact hy.2.2
  have hne : ∀ q : Pth, q ++ [l] = p ++ [l] → q = p := fun q e => List.append_cancel_right e
  refine ⟨{ h with
    row := fun q z hz => ?_
    kids := fun q z hz => ?_
    ends := fun q z hz => ?_
    one := fun q r z u k hz hu k1 k2 => ?_
    own := fun q z hz => ?_
    clos := fun q m hq => ?_
    ent := fun q c hc => hkeep q (h.ent q c hc)
    none' := fun q hq => ?_
    cover := fun q hq hs => ?_ }, ⟨⟨hg.os.trans hb.os, hg.tape.trans hb.tape, hg.output.trans hb.output, Nat.le_trans hb.size hg.size, fun i hi => absurd hi (Nat.not_lt_zero i)⟩, fun k hk hF => ?_⟩⟩
  · rcases hpl q z hz with ⟨rfl, rfl⟩ | ⟨-, hz2⟩
    · rw [hnew z.b hy.1 (hlt _ _ h3), h3, h.none' _ hn]; rfl
    · exact (hold z.b ⟨q, z, hz2, .inl rfl⟩ fun e => by
        obtain rfl : q = p := h.one q p z x z.b hz2 hx (.inl rfl) (.inr (.inl e))
        obtain rfl : z = x := Option.some.inj (hz2.symm.trans hx)
        exact (h.own q z hz2).1 e).trans (h.row q z hz2)
  · rcases hpl q z hz with ⟨rfl, rfl⟩ | ⟨-, hz2⟩
    · have e : kidV (putN t (p ++ [l]) (some z)) (p ++ [l]) = fun _ => none := by
        funext m
        have hno : t (p ++ [l] ++ [m]) = none := by
          cases hh : t (p ++ [l] ++ [m]) with
          | none => rfl
          | some u =>
            have := h.clos (p ++ [l]) m (by rw [hh]; rfl)
            rw [hn] at this; cases this
        have hne2 : p ++ [l] ++ [m] ≠ p ++ [l] := fun e => by
          have := congrArg List.length e
          simp at this
        unfold kidV putN
        rw [if_neg hne2, hno]; rfl
      rw [e]
      exact (SMap.empty h1).at_block (hnew z.n hy.2.1 (hlt _ _ h1))
    · by_cases hqp : q = p
      · subst hqp
        obtain rfl : z = x := Option.some.inj (hz2.symm.trans hx)
        have e : kidV (putN t (q ++ [l]) (some y)) q = putT (kidV t q) l (.pointer (some ⟨y.b, 0, none⟩)) := by
          funext m
          unfold kidV putN putT
          by_cases hml : m = l
          · subst hml; simp
          · have : q ++ [m] ≠ q ++ [l] := fun e => hml (by simpa using List.append_cancel_left e)
            rw [if_neg this, if_neg hml]
        rw [e]
        exact hm
      · have e : kidV (putN t (p ++ [l]) (some y)) q = kidV t q := by
          funext m
          unfold kidV putN
          have : q ++ [m] ≠ p ++ [l] := fun e => hqp (List.append_inj_left' e rfl)
          rw [if_neg this]
        rw [e]
        exact (h.kids q z hz2).at_block (hold z.n ⟨q, z, hz2, .inr (.inl rfl)⟩ fun e => hqp (h.one q p z x z.n hz2 hx (.inr (.inl rfl)) (.inr (.inl e))))
  · rcases hpl q z hz with ⟨rfl, rfl⟩ | ⟨-, hz2⟩
    · have e : endV En (p ++ [l]) = fun _ => none := by
        funext c
        unfold endV
        have := h.gone hn [] c
        rw [List.append_nil] at this
        rw [this]; rfl
      rw [e]
      exact (SMap.empty h2).at_block (hnew z.e hy.2.2 (hlt _ _ h2))
    · refine (h.ends q z hz2).at_block (hold z.e ⟨q, z, hz2, .inr (.inr rfl)⟩ fun e => ?_)
      obtain rfl : q = p := h.one q p z x z.e hz2 hx (.inr (.inr rfl)) (.inr (.inl e))
      obtain rfl : z = x := Option.some.inj (hz2.symm.trans hx)
      exact (h.own q z hz2).2.2 e.symm
  · rcases hpl q z hz with ⟨e1, e2⟩ | ⟨-, hz2⟩ <;> rcases hpl r u hu with ⟨e3, e4⟩ | ⟨-, hu2⟩
    · rw [e1, e3]
    · exact absurd (h.lt ⟨r, u, hu2, k2⟩) (Nat.not_lt.2 (hbig k (e2 ▸ k1)))
    · exact absurd (h.lt ⟨q, z, hz2, k1⟩) (Nat.not_lt.2 (hbig k (e4 ▸ k2)))
    · exact h.one q r z u k hz2 hu2 k1 k2
  · rcases hpl q z hz with ⟨rfl, rfl⟩ | ⟨-, hz2⟩
    · exact hyo
    · exact h.own q z hz2
  · rcases hsome _ hq with e | hq
    · rw [List.append_inj_left' e rfl]
      exact hkeep p (by rw [hx]; rfl)
    · exact hkeep q (h.clos q m hq)
  · unfold putN at hq
    by_cases e : q = p ++ [l]
    · rw [if_pos e] at hq; cases hq
    · rw [if_neg e] at hq; exact h.none' q hq
  · rcases hsome q hs with rfl | hs
    · exact hc
    · exact h.cover q hq hs
  · exact (hg.block k (Nat.lt_of_lt_of_le hk hb.size) fun e => hF (by injection e with e; exact ⟨p, x, hx, .inr (.inl e)⟩)).trans (hb.block k hk)
theorem putN_foot {q : Pth} {y : Nd} {k : Nat} (hk : Foot (putN t q (some y)) k) : Foot t k ∨ y.has k := by
  obtain ⟨r, z, hz, hh⟩ := hk
  unfold putN at hz
  by_cases e : r = q
  · rw [if_pos e] at hz; injection hz with hz; exact .inr (hz ▸ hh)
  · rw [if_neg e] at hz; exact .inl ⟨r, z, hz, hh⟩
end Go.Proofs.YtjedffjfjgffeaaDoor
