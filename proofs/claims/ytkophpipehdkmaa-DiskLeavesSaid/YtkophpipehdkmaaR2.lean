/- Texts of the proof in one file, in build order: DiskLeaves, DiskLeavesSaid. -/
import Derived.Test.YtkophpipehdkmaaR1
import Derived.Test.YtkophpipehdkmaaDskKnown
import Derived.Test.YtkophpipehdkmaaDskCrash
import Derived.Deep.Cut
import Derived.Deep.DeepCutAuto
import Derived.Deep.CutBlock
import Derived.Test.YtkophpipehdkmaaRows
import Derived.ProofKit
import Derived.OpenShut
import Derived.ChangeMaps5
import Derived.Deep.DeepHandedRow
import Derived.Test.YtkophpipehdkmaaKit
import Derived.Deep.Slices
import Derived.ChangeSame
import Derived.ChangeArms
import Derived.WideShapes
/- Layer 2: the law: each sector that a crash leaves is as it lasted, or as a write that waited left it. -/
namespace Go.Proofs.Ytkophpipehdkmaa
open Go.RowKit

/-- What the first pages are written down as. -/
structure Lv0 (w1 wr : World) (S G H k : Nat) (V : Nat → Value) (ls : Nat → List ByteArray) : Prop where
  racks : Racks wr S G H V ls
  below : Below w1.heap.size w1 wr
  done : ∀ i, i < k → ls i = [pgStr noughts]
  none_ : ∀ i, ls (20 + i) = []
/-- Behind so many calls. -/
structure LvA (N : Nat) (w wr : World) (B S G H k m : Nat) (d : Dsk) (V : Nat → Value) (ls : Nat → List ByteArray) : Prop where
  disk : IsDisk N wr B d
  racks : Racks wr S G H V ls
  held : Held d m ls
  below : Below N w wr
  few : d.Few k
  room : d.room = m
  len : ∀ i, (ls (20 + i)).length ≤ k
/-- Behind a call, ahead of what is written down anew. -/
structure LvB (N : Nat) (w wr : World) (B S G H k m : Nat) (d : Dsk) (V : Nat → Value) (ls : Nat → List ByteArray) : Prop where
  disk : IsDisk N wr B d
  racks : Racks wr S G H V ls
  held : d.waits = [] ∨ Held d m ls
  below : Below N w wr
  few : d.Few k
  room : d.room = m
  len : ∀ i, (ls (20 + i)).length ≤ k
/-- While all is written down anew. -/
structure LvC (N : Nat) (w wr : World) (B S G H k i : Nat) (d : Dsk) (V : Nat → Value) (ls : Nat → List ByteArray) : Prop where
  disk : IsDisk N wr B d
  racks : Racks wr S G H V ls
  below : Below N w wr
  done : ∀ p, p < i → ls p = [pgStr (d.page p)] ∧ ls (20 + p) = []
  len : ∀ j, (ls (20 + j)).length ≤ k
theorem index_arr (w : World) (G k : Nat) (hk : k < 20) : (Instr.indexAt 30 (ptr G) (.int .i64 k)).run Try.prog w = .ok (.pointer (some ⟨G, k, none⟩)) w := by
  have h1 : Try.prog.arrayLen 30 = 20 := by kernel_rfl
  have h2 : (sizeOf (Try.prog.elem 30)).run Try.prog w = .ok 1 w := by kernel_rfl
  rw [run_indexAt_array (P := Try.prog) w 30 ⟨G, 0, none⟩ .i64 k (by kernel_rfl), h1, if_pos (by omega), h2]
  simp only [Result.andThen_ok, addr_add, Int.toNat_natCast, Nat.zero_add, Nat.mul_one]
theorem Lv0.step {w1 wr w5 : World} {S G H k : Nat} {V : Nat → Value} {ls : Nat → List ByteArray} (h : Lv0 w1 wr S G H k V ls) (hb : Below wr.heap.size wr w5) (hk : k < 20) (hG : w1.heap.size ≤ G) :
    Lv0 w1 ((w5.alloc (.cells #[.string (pgStr noughts)] 9)).setCell ⟨G, k, none⟩ (.slice (some ⟨w5.heap.size, 0, none⟩) 1 1)) S G H (k + 1) (upd V k (.slice (some ⟨w5.heap.size, 0, none⟩) 1 1)) (upd ls k [pgStr noughts]) := by
  refine ⟨h.racks.store hb k hk (pgStr noughts), ?_, fun i hi => ?_, fun i => ?_⟩
  · have hb5 := h.below.trans (hb.mono h.below.size)
    exact (hb5.alloc hb5.size _).grown (grownBy_cell _ _ _) (Nat.le_trans hb5.size (by simp)) (fun q e => by cases e; exact hG)
  · unfold upd
    by_cases e : i = k
    · rw [if_pos e]
    · rw [if_neg e]; exact h.done i (by omega)
  · unfold upd; rw [if_neg (by omega)]; exact h.none_ i
/-- Where the world stands while the statement that makes a call goes on. -/
def DlI (wr : World) (m : Nat) (Post : World → Prop) (l : Array Bool) (W : World) : Prop := (l.getD 8 false = false → W = if l.getD 2 false = true then (wr.alloc (strsRow m)).drew else wr.drew) ∧ (l.getD 8 false = true → Post W)
theorem DlI.still {wr : World} {m : Nat} {Post : World → Prop} {l : Array Bool} {W : World} (h : DlI wr m Post l W) {i : Nat} (h2 : i ≠ 2) (h8 : i ≠ 8) : DlI wr m Post (l.setIfInBounds i true) W := by
  unfold DlI at h ⊢
  rw [listed_other h2.symm, listed_other h8.symm]; exact h
section
variable {P : Program} {ops : Array Oper} {Q : Exit → Act → World → Prop} {i : Nat} {o : Oper} {a : Act} {w : World} {K : Act → World → Prop}
theorem wpOp_extract {x : Operand} {n : Nat} {vs : Array Value} {v : Value} (ho : ops[i]? = some o) (hg : Region.wanted o (yielded ops a.tmps) = true) (hop : o.op = .extract x n) (hx : a.eval x = .tuple vs) (hv : vs[n]? = some v) (hK : K (a.put o.dst v) w) : wpOp P ops Q i K a w :=
  wpOp_val (v := v) (w' := w) ho hg (by simp only [execOp, hop, hx]; simp [hv, go_sem]) hK
end
theorem load_act {w : World} {b o : Nat} {a : ActD} (h : ActAt w b o a) : (Instr.loadAt 39 (.pointer (some ⟨b, o, none⟩))).run Try.prog w = .ok (actV a.k a.p a.x a.r) w :=
  run_loadAt_mid w b o _ [.int .i64 a.k, .int .i64 a.p, .int .u8 (a.x.toNat : Int), .int .i64 a.r] _ (fun j v hv => by
    match j, hv with
    | 0, hv => cases hv; exact h.k
    | 1, hv => cases hv; exact h.p
    | 2, hv => cases hv; exact h.x
    | 3, hv => cases hv; exact h.r
    | j + 4, hv => cases hv) Try.underlying39 rfl (by kernel_rfl)
theorem index_act (w : World) (b o n cap i : Nat) (hi : i < n) : (Instr.indexAt 22 (.slice (some ⟨b, o, none⟩) n cap) (.int .i64 i)).run Try.prog w = .ok (.pointer (some ⟨b, o + i * 4, none⟩)) w :=
  index_row (E := 39) Try.underlying22 (by kernel_rfl) (fun w => by kernel_rfl) w b o n cap i hi
def DlV (B Z m b off k : Nat) (n ac : Nat) (av : Value) : Nat → Value → World → Prop
  | 0, v, _ => v = ptr B
  | 1, v, _ => v = .int .i64 m
  | 2, v, _ => v = .slice (some ⟨Z, 0, none⟩) m m
  | 3, v, _ => v = .agg #[.slice (some ⟨Z, 0, none⟩) m m, .slice none 0 0, .int .i64 0, .int .i64 0, .bool false, .int .i64 0]
  | 4, v, _ => v = .slice (some ⟨b, off, none⟩) n ac
  | 5, v, _ => v = .int .i64 k
  | 6, v, _ => v = .pointer (some ⟨b, off + k * 4, none⟩)
  | 7, v, _ => v = av
  | 8, v, _ => ∃ x y, v = .tuple #[.agg x, .bool y]
  | 9, v, _ => ∃ x y, v = .tuple #[.agg x, .bool y]
  | _, _, _ => True
theorem DlV.any {B Z m b off k : Nat} {n ac : Nat} {av : Value} {w w' : World} : ∀ j u, DlV B Z m b off k n ac av j u w → DlV B Z m b off k n ac av j u w' := by
  intro j u h
  unfold DlV at h ⊢
  split at h
  · exact h
  · exact h
  · exact h
  · exact h
  · exact h
  · exact h
  · exact h
  · exact h
  · exact h
  · exact h
  · exact trivial
/-- Where the world stands while what was read is written down. -/
def DlJ (W0 W1 W2 W3 : World) (l : Array Bool) (W : World) : Prop := W = (if l.getD 17 false = true then W3 else if l.getD 15 false = true then W2 else if l.getD 14 false = true then W1 else W0)
section
variable {W0 W1 W2 W3 W : World} {l : Array Bool}
theorem DlJ.still (h : DlJ W0 W1 W2 W3 l W) {i : Nat} (h1 : i ≠ 14) (h2 : i ≠ 15) (h3 : i ≠ 17) : DlJ W0 W1 W2 W3 (l.setIfInBounds i true) W := by
  unfold DlJ at h ⊢
  rw [listed_other h1.symm, listed_other h2.symm, listed_other h3.symm]; exact h
theorem DlJ.at0 (h : DlJ W0 W1 W2 W3 l W) (a : l.getD 14 false = false) (b : l.getD 15 false = false) (c : l.getD 17 false = false) : W = W0 := by
  unfold DlJ at h; rw [a, b, c] at h; exact h
theorem DlJ.at1 (h : DlJ W0 W1 W2 W3 l W) (a : l.getD 14 false = true) (b : l.getD 15 false = false) (c : l.getD 17 false = false) : W = W1 := by
  unfold DlJ at h; rw [a, b, c] at h; exact h
theorem DlJ.at2 (h : DlJ W0 W1 W2 W3 l W) (b : l.getD 15 false = true) (c : l.getD 17 false = false) : W = W2 := by
  unfold DlJ at h; rw [b, c] at h; exact h
theorem DlJ.at3 (h : DlJ W0 W1 W2 W3 l W) (c : l.getD 17 false = true) : W = W3 := by
  unfold DlJ at h; rw [c] at h; exact h
theorem DlJ.any (h : DlJ W0 W1 W2 W3 l W) : W = W0 ∨ W = W1 ∨ W = W2 ∨ W = W3 := by
  unfold DlJ at h
  split at h
  · exact .inr (.inr (.inr h))
  · split at h
    · exact .inr (.inr (.inl h))
    · split at h
      · exact .inr (.inl h)
      · exact .inl h
end
theorem build_str (w : World) (x : ByteArray) : (Instr.buildSlice 29 1 #[(0, .string x)]).run Try.prog w = .ok (.slice (some ⟨w.heap.size, 0, none⟩) 1 1) (w.alloc (.cells #[.string x] 9)) := by
  obtain ⟨i, hi, hz, hs, hb⟩ := info_parts infoStr
  have hf := Great.fill_whole (s := 1) (by omega) [(.string x : Value)] ((Array.range (1 * 1)).map ((Value.string ⟨#[]⟩).cells[· % (Value.string ⟨#[]⟩).cells.size]!)) (by simp [Value.cells]) (by simp)
  exact run_buildSlice w 29 9 1 _ _ i _ Try.underlying29 hi hz (by rw [hs]; omega) (by rw [hs]; omega) (by rw [hs]; simpa [Value.cells] using hf)
def DlK (b off k n ac p H g T5 : Nat) (vq v2 : Value) (z : ByteArray) : Nat → Value → World → Prop
  | 0, v, _ => v = .slice (some ⟨b, off, none⟩) n ac
  | 1, v, _ => v = .int .i64 k
  | 2, v, _ => v = .pointer (some ⟨b, off + k * 4, none⟩)
  | 3, v, _ => v = .pointer (some ⟨b, off + k * 4 + 1, none⟩)
  | 4, v, _ => v = .int .i64 p
  | 5, v, _ => v = .slice (some ⟨b, off, none⟩) n ac
  | 6, v, _ => v = .int .i64 k
  | 7, v, _ => v = .pointer (some ⟨b, off + k * 4, none⟩)
  | 8, v, _ => v = .pointer (some ⟨b, off + k * 4 + 1, none⟩)
  | 9, v, _ => v = .int .i64 p
  | 10, v, _ => v = .pointer (some ⟨H, p, none⟩)
  | 11, v, _ => v = vq
  | 12, v, _ => v = .slice (some ⟨g, 0, none⟩) 256 256
  | 13, v, _ => v = .string z
  | 14, v, _ => v = .slice (some ⟨T5, 0, none⟩) 1 1
  | 15, v, _ => v = v2
  | 16, v, _ => v = .pointer (some ⟨H, p, none⟩)
  | _, _, _ => True
theorem DlK.any {b off k n ac p H g T5 : Nat} {vq v2 : Value} {z : ByteArray} {w w' : World} : ∀ j u, DlK b off k n ac p H g T5 vq v2 z j u w → DlK b off k n ac p H g T5 vq v2 z j u w' := by
  intro j u h
  unfold DlK at h ⊢
  split at h
  · exact h
  · exact h
  · exact h
  · exact h
  · exact h
  · exact h
  · exact h
  · exact h
  · exact h
  · exact h
  · exact h
  · exact h
  · exact h
  · exact h
  · exact h
  · exact h
  · exact h
  · exact trivial
/-- While the sectors of a page are looked at. -/
structure LvE (N N0 : Nat) (w W : World) (X S G H g mg : Nat) (dX : Dsk) (l : Page) (V : Nat → Value) (ls : Nat → List ByteArray) (T : List ByteArray) : Prop where
  page : PageAt W g l
  disk : IsDisk N0 W X dX
  racks : Racks W S G H V ls
  below : Below N w W
  cells : ∀ j s, T[j]? = some s → W.cell? ⟨mg, j, none⟩ = some (.string s)
  mlt : mg < W.heap.size
theorem LvE.drew {N N0 : Nat} {w W : World} {X S G H g mg : Nat} {dX : Dsk} {l : Page} {V : Nat → Value} {ls : Nat → List ByteArray} {T : List ByteArray} (h : LvE N N0 w W X S G H g mg dX l V ls T) : LvE N N0 w W.drew X S G H g mg dX l V ls T := by
  have hb : Below W.heap.size W W.drew := (Below.refl _ W).drew
  exact ⟨h.page.below hb h.page.lt, h.disk.below hb, h.racks.below hb, h.below.drew, fun j s hs => (hb.cell (p := ⟨mg, j, none⟩) h.mlt).trans (h.cells j s hs), Nat.lt_of_lt_of_le h.mlt hb.size⟩
/-- Where the world stands while both runs are put one behind the other. -/
def DlM (W0 W1 W2 : World) (l : Array Bool) (W : World) : Prop := W = (if l.getD 7 false = true then W2 else if l.getD 3 false = true then W1 else W0)
section
variable {W0 W1 W2 W : World} {l : Array Bool}
theorem DlM.still (h : DlM W0 W1 W2 l W) {i : Nat} (h1 : i ≠ 3) (h2 : i ≠ 7) : DlM W0 W1 W2 (l.setIfInBounds i true) W := by
  unfold DlM at h ⊢
  rw [listed_other h1.symm, listed_other h2.symm]; exact h
theorem DlM.at0 (h : DlM W0 W1 W2 l W) (a : l.getD 3 false = false) (b : l.getD 7 false = false) : W = W0 := by
  unfold DlM at h; rw [a, b] at h; exact h
theorem DlM.at1 (h : DlM W0 W1 W2 l W) (a : l.getD 3 false = true) (b : l.getD 7 false = false) : W = W1 := by
  unfold DlM at h; rw [a, b] at h; exact h
theorem DlM.at2 (h : DlM W0 W1 W2 l W) (b : l.getD 7 false = true) : W = W2 := by
  unfold DlM at h; rw [b] at h; exact h
theorem DlM.any (h : DlM W0 W1 W2 l W) : W = W0 ∨ W = W1 ∨ W = W2 := by
  unfold DlM at h
  split at h
  · exact .inr (.inr h)
  · split at h
    · exact .inr (.inl h)
    · exact .inl h
end
def DlN (G H k : Nat) (u1 v1 u2 v2 : Value) : Nat → Value → World → Prop
  | 0, v, _ => v = .int .i64 k
  | 1, v, _ => v = .pointer (some ⟨G, k, none⟩)
  | 2, v, _ => v = u1
  | 3, v, _ => v = v1
  | 4, v, _ => v = .int .i64 k
  | 5, v, _ => v = .pointer (some ⟨H, k, none⟩)
  | 6, v, _ => v = u2
  | 7, v, _ => v = v2
  | 8, v, _ => v = v2
  | _, _, _ => True
theorem DlN.any {G H k : Nat} {u1 v1 u2 v2 : Value} {w w' : World} : ∀ j u, DlN G H k u1 v1 u2 v2 j u w → DlN G H k u1 v1 u2 v2 j u w' := by
  intro j u h
  unfold DlN at h ⊢
  split at h
  · exact h
  · exact h
  · exact h
  · exact h
  · exact h
  · exact h
  · exact h
  · exact h
  · exact h
  · exact trivial
/-- Whether one of the first so many texts has this sector. -/
def Seen (T : List ByteArray) (s : Nat) (l : Page) (n : Nat) (bb : Bool) : Prop := ∀ i, i < n → ∀ x, T[i]? = some x → x.extract (64 * s) (64 * s + 64) = bs (sec l s) → bb = true
theorem Seen.step {T : List ByteArray} {s : Nat} {l : Page} {n : Nat} {bb qq : Bool} {x y : ByteArray} (h : Seen T s l n bb) (hx : T[n]? = some x) (hy : x.extract (64 * s) (64 * s + 64) = y) (hq : (y.toList == (bs (sec l s)).toList) = qq) : Seen T s l (n + 1) (bb || qq) := by
  intro i hi x' hx' he
  by_cases e : i = n
  · subst e
    rw [hx] at hx'
    cases hx'
    rw [← hq, ← hy, he]
    simp
  · rw [h i (by omega) x' hx' he]; rfl
def DlS (p mg mc n s tl : Nat) (bb qq : Bool) (x y z : ByteArray) : Nat → Value → World → Prop
  | 0, v, _ => v = .bool bb
  | 1, v, _ => v = .bool bb
  | 2, v, _ => (bb) = false → v = .slice (some ⟨mg, 0, none⟩) tl mc
  | 3, v, _ => (bb) = false → v = .int .i64 n
  | 4, v, _ => (bb) = false → v = .pointer (some ⟨mg, n, none⟩)
  | 5, v, _ => (bb) = false → v = .string x
  | 6, v, _ => (bb) = false → v = .int .i64 s
  | 7, v, _ => (bb) = false → v = .int .i64 ((64 * s : Nat) : Int)
  | 8, v, _ => (bb) = false → v = .int .i64 s
  | 9, v, _ => (bb) = false → v = .int .i64 ((64 * s : Nat) : Int)
  | 10, v, _ => (bb) = false → v = .int .i64 ((64 * s + 64 : Nat) : Int)
  | 11, v, _ => (bb) = false → v = .string y
  | 12, v, _ => (bb) = false → v = .slice (some ⟨p, 0, none⟩) 256 256
  | 13, v, _ => (bb) = false → v = .int .i64 s
  | 14, v, _ => (bb) = false → v = .int .i64 ((64 * s : Nat) : Int)
  | 15, v, _ => (bb) = false → v = .int .i64 s
  | 16, v, _ => (bb) = false → v = .int .i64 ((64 * s : Nat) : Int)
  | 17, v, _ => (bb) = false → v = .int .i64 ((64 * s + 64 : Nat) : Int)
  | 18, v, _ => (bb) = false → v = .slice (some ⟨p, 64 * s, none⟩) 64 (256 - 64 * s)
  | 19, v, _ => (bb) = false → v = .string z
  | 20, v, _ => (bb) = false → v = .bool qq
  | 21, v, _ => v = .bool (bb || qq)
  | 22, v, _ => v = .bool (bb || qq)
  | _, _, _ => True
theorem DlS.below {p mg mc n s tl : Nat} {bb qq : Bool} {x y z : ByteArray} {w w' : World} (_hb : Below w.heap.size w w') : ∀ j u, DlS p mg mc n s tl bb qq x y z j u w → DlS p mg mc n s tl bb qq x y z j u w' := by
  intro j u h
  unfold DlS at h ⊢
  split at h
  · exact h
  · exact h
  · exact h
  · exact h
  · exact h
  · exact h
  · exact h
  · exact h
  · exact h
  · exact h
  · exact h
  · exact h
  · exact h
  · exact h
  · exact h
  · exact h
  · exact h
  · exact h
  · exact h
  · exact h
  · exact h
  · exact h
  · exact h
  · exact trivial
set_option maxRecDepth 100000 in
set_option maxHeartbeats 8000000 in
theorem diskLeaves_any (n : Int) (aa : Option Addr) (L : List ActD) (ac : Nat) (sv : Value) (picks : List Int) (w : World) (hL : L.length ≤ 9223372036854775807) (hp : PickV w w.heap.size sv picks) (hA : ActsAt w.heap.size w aa L) (hpl : picks.length ≤ 9223372036854775807) :
    Calls Try.prog 3 #[.int .i64 n, .slice aa L.length ac, sv] w fun e w' => e = .returned (.bool true) ∧ Below w.heap.size w w' := by
  have HK := Lib.hid known_any
  have HPV := Lib.hid hp
  have HA := Lib.hid hA
  obtain ⟨pa, pc, rfl, hpc, hpcs⟩ := hp
  clear hpc hpcs hA
  by_cases h1 : (40 : Int) < L.length
  · go_enter Try.func3, Try.ntmps3
    go_wp2_with (go_at_call 6; refine (HK.out _).mono ?_; rintro e w' ⟨rfl, hb⟩)
    go_ret
    exact ⟨rfl, hb⟩
  by_cases h2 : (60 : Int) < picks.length
  · go_enter Try.func3, Try.ntmps3
    go_wp2_with (go_at_call 6; refine (HK.out _).mono ?_; rintro e w' ⟨rfl, hb⟩)
    go_ret
    exact ⟨rfl, hb⟩
  by_cases h3 : 20 < n
  · go_enter Try.func3, Try.ntmps3
    go_wp2_with (go_at_call 6; refine (HK.out _).mono ?_; rintro e w' ⟨rfl, hb⟩)
    go_ret
    exact ⟨rfl, hb⟩
  by_cases hok : n < 2
  · have HNo := Lib.hid (show n < 2 ∨ 4096 < n from Or.inl hok)
    clear hok
    go_enter Try.func3, Try.ntmps3
    go_wp2_with fail
    refine (new_no n HNo.out w).mono ?_
    rintro e w1 ⟨rfl, rfl⟩
    go_wp2_with fail
    refine (HK.out _).mono ?_
    rintro e w3 ⟨rfl, hb3⟩
    go_wp2_with fail
    go_ret
    exact ⟨rfl, hb3⟩
  obtain ⟨m, rfl⟩ : ∃ m : Nat, n = m := ⟨n.toNat, by omega⟩
  have hm2 : 2 ≤ m := by omega
  have hm20 : m ≤ 20 := by omega
  have HM := Lib.hid (And.intro hm2 hm20)
  have HL := Lib.hid (show L.length ≤ 40 ∧ picks.length ≤ 60 by omega)
  clear hok
  go_enter Try.func3, Try.ntmps3
  go_wp2_with fail
  refine (new_yes m HM.out.1 (by have := HM.out.2; omega) w).mono ?_
  rintro e w1 ⟨B, rfl, hD1, hb1⟩
  have HD1 := Lib.hid (And.intro hD1 hb1)
  clear hD1 hb1
  go_upto_block 0 with (fail)
  have hRk := Racks.made w1
  have hb4 : Below w1.heap.size w1 ((w1.alloc (.cells nils20 30)).alloc (.cells nils20 30)) := ((Below.refl _ w1).alloc (Nat.le_refl _) _).alloc (by simp) _
  obtain ⟨W4, hW4⟩ : ∃ W, ((w1.alloc (.cells nils20 30)).alloc (.cells nils20 30)) = W := ⟨_, rfl⟩
  have hW4' := hW4
  unfold nils20 at hW4'
  rw [hW4']
  clear hW4'
  rw [hW4] at hRk hb4
  obtain ⟨G, hG⟩ : ∃ G, w1.heap.size = G := ⟨_, rfl⟩
  obtain ⟨H, hH⟩ : ∃ H, G + 1 = H := ⟨_, rfl⟩
  obtain ⟨S, hS⟩ : ∃ S, G + 2 = S := ⟨_, rfl⟩
  rw [hG] at hRk hb4 ⊢
  rw [hH, hS] at hRk
  rw [hH]
  have H04 : Hid (Lv0 w1 W4 S G H 0 (fun _ => .slice none 0 0) (fun _ => [])) := Lib.hid ⟨hRk, by rw [hG]; exact hb4, (fun i hi => absurd hi (by omega)), fun _ => rfl⟩
  have HGs := Lib.hid (show w1.heap.size = G ∧ w.heap.size ≤ G ∧ w.heap.size ≤ H ∧ w.heap.size ≤ S from ⟨hG, by rw [← hG]; exact HD1.out.2.size, by rw [← hH, ← hG]; exact Nat.le_succ_of_le HD1.out.2.size, by rw [← hS, ← hG]; exact Nat.le_succ_of_le (Nat.le_succ_of_le HD1.out.2.size)⟩)
  clear hRk hb4 hW4 hG hH hS hm2 hm20 h1 h2 h3
  go_cut [11] (fun _ wx => ∃ V ls, Hid (Lv0 w1 wx S G H m V ls))
  case first =>
    as_aux_lemma =>
    have hm20 := HM.out.2
    go_wp2_with fail
    go_loopw [11, 50, 51, 52, 53, 54, 55, 56, 57, 58, 59] (fun x _ _ _ _ _ _ _ _ _ _ wr => ∃ (k : Nat) (V : Nat → Value) (ls : Nat → List ByteArray), x = .int .i64 k ∧ k ≤ m ∧ Hid (Lv0 w1 wr S G H k V ls))
      (fun x _ _ _ _ _ _ _ _ _ _ _ => m - (intOf x).toNat)
    case atStart => exact ⟨0, _, _, rfl, Nat.zero_le _, H04⟩
    case round =>
      clear H04
      obtain ⟨k, V, ls, rfl, hk, HL0⟩ := hrel
      by_cases hlt : k < m
      · have hlt' : (k : Int) < (m : Int) := by omega
        have hms : m - (k + 1) < m - k := by omega
        have hw1 : wrap64 ((k : Int) + 1) = ((k + 1 : Nat) : Int) := by unfold wrap64; omega
        have hmk : (Instr.makeSlice 31 (.int .i64 256) (.int .i64 256)).run Try.prog wr = .ok (.slice (some ⟨wr.heap.size, 0, none⟩) 256 256) (wr.alloc (.cells (byteVals (List.replicate 256 0)).toArray 5)) := make40 wr 256 (by decide)
        obtain ⟨W5, hW5⟩ : ∃ W, wr.alloc (.cells (byteVals (List.replicate 256 0)).toArray 5) = W := ⟨_, rfl⟩
        have hb5 : Below wr.heap.size wr W5 := by rw [← hW5]; exact (Below.refl _ _).alloc (Nat.le_refl _) _
        have hr5 : W5.heap[wr.heap.size]? = some (.cells (byteVals (List.replicate 256 0)).toArray 5 (0, 0)) := by rw [← hW5]; exact heap_alloc_new wr _
        have hcv : (convert 31 9 (.slice (some ⟨wr.heap.size, 0, none⟩) 256 256)).run Try.prog W5 = .ok (.string (pgStr noughts)) W5 := by
          have := conv_bytes W5 wr.heap.size 0 (List.replicate 256 0) 256 (fun j v hv => by rw [Nat.zero_add, cell_of_row W5 _ j _ _ _ hr5]; simpa using hv)
          rwa [List.length_replicate] at this
        have HE := Lib.hid (HL0.out.step hb5 (by omega) (by rw [HGs.out.1]; exact Nat.le_refl _))
        have hRa := HL0.out.racks.below (hb5.trans (((Below.refl _ W5).alloc (Nat.le_refl _) (.cells #[.string (pgStr noughts)] 9)).mono hb5.size))
        obtain ⟨hc1, hc2⟩ := hRa.cellG k (by omega)
        have hig : ∀ w, (Instr.indexAt 30 (ptr G) (.int .i64 k)).run Try.prog w = .ok (.pointer (some ⟨G, k, none⟩)) w := fun w => index_arr w G k (by omega)
        rw [hW5] at hmk
        obtain ⟨z, hz⟩ : ∃ z, pgStr noughts = z := ⟨_, rfl⟩
        rw [hz] at hcv hc1 hc2 HE
        obtain ⟨vk, hvk⟩ : ∃ v, V k = v := ⟨_, rfl⟩
        rw [hvk] at hc1
        clear hW5 hb5 hr5 hRa hvk hz
        go_wp2_with fail
        first | rw [hw1] | skip
        exact ⟨⟨k + 1, _, _, rfl, hlt, HE⟩, hms⟩
      · obtain rfl : k = m := by omega
        have hkk : ¬ (k : Int) < (k : Int) := by omega
        go_wp2_with fail
        go_meet
        exact ⟨V, ls, HL0⟩
  case rest =>
  obtain ⟨V0, ls0, H0⟩ := hcut
  clear H04
  have HA0 : Hid (LvA w.heap.size w wc B S G H 0 m (Dsk.new m) V0 ls0) := Lib.hid ⟨HD1.out.1.below H0.out.below, H0.out.racks,
    ⟨fun p hp => by rw [H0.out.done p hp]; show _ = [pgStr ((List.replicate m noughts).getD p noughts)]; simp [List.getD, hp], (fun p hp l hl => by cases hl), (fun p hp x hx => by rw [H0.out.none_ p] at hx; cases hx)⟩,
    HD1.out.2.trans (H0.out.below.mono HD1.out.2.size), Dsk.Few.new m, by show (List.replicate m noughts).length = m; simp, fun i => by rw [H0.out.none_ i]; exact Nat.le_refl _⟩
  generalize Dsk.new m = d0 at HA0
  go_wp2_with fail
  go_loopw [12, 13, 14, 15, 16, 17, 60, 61, 62, 63, 64, 65, 66, 67, 68, 69, 70, 71, 72, 73, 74, 75, 76, 77, 78, 79, 80, 81, 82, 83, 84, 85, 86, 87, 88, 89, 90, 91, 92, 93, 94, 95, 96, 97, 98, 99, 100, 101, 102, 103, 104, 105, 106, 107, 108, 109, 110, 111, 112, 113, 114, 115, 116, 117, 118, 119, 120, 121, 122, 123, 124, 125, 126, 127, 128, 129, 130, 131, 132, 133, 134, 135, 136, 137, 138, 139, 140, 141, 142, 143, 144, 145, 146, 147, 148, 149, 150, 151, 152] (fun x _ _ _ _ _ _ _ _ _ _ _ _ _ _ _ _ _ _ _ _ _ _ _ _ _ _ _ _ _ _ _ _ _ _ _ _ _ _ _ _ _ _ _ _ _ _ _ _ _ _ _ _ _ _ _ _ _ _ _ _ _ _ _ _ _ _ _ _ _ _ _ _ _ _ _ _ _ _ _ _ _ _ _ _ _ _ _ _ _ _ _ _ _ _ _ _ _ _ wr => ∃ (k : Nat) (d : Dsk) (V : Nat → Value) (ls : Nat → List ByteArray), x = .int .i64 k ∧ k ≤ L.length ∧ Hid (LvA w.heap.size w wr B S G H k m d V ls))
    (fun x _ _ _ _ _ _ _ _ _ _ _ _ _ _ _ _ _ _ _ _ _ _ _ _ _ _ _ _ _ _ _ _ _ _ _ _ _ _ _ _ _ _ _ _ _ _ _ _ _ _ _ _ _ _ _ _ _ _ _ _ _ _ _ _ _ _ _ _ _ _ _ _ _ _ _ _ _ _ _ _ _ _ _ _ _ _ _ _ _ _ _ _ _ _ _ _ _ _ _ => L.length - (intOf x).toNat)
  case atStart => exact ⟨0, d0, V0, ls0, rfl, Nat.zero_le _, HA0⟩
  case round =>
    clear HA0
    obtain ⟨k, d, V, ls, rfl, hk, HP⟩ := hrel
    by_cases hlt : k < L.length
    · have hlt' : (k : Int) < (L.length : Int) := by omega
      obtain ⟨b, off, rfl, hb, hc⟩ := HA.out (by rintro rfl; simp at hlt)
      obtain ⟨hca, hao⟩ := hc k hlt
      clear hc
      obtain ⟨ad, ha⟩ : ∃ a, L.getD k default = a := ⟨_, rfl⟩
      rw [ha] at hca hao
      clear ha
      have hca := hca.below HP.out.below hb
      have hn := HP.out.disk.n_le
      have hz : Below wr.heap.size wr (wr.alloc (strsRow m)) := (Below.refl _ _).alloc (Nat.le_refl _) _
      have hact : ∀ W l2, W = (if l2 = true then (wr.alloc (strsRow m)).drew else wr.drew) → ActAt W b (off + k * 4) ad := fun W l2 e => by
        rw [e]
        split
        · exact hca.below hz.drew (by omega)
        · exact hca.below ((Below.refl _ wr).drew) (by omega)
      have hact := fun W {l2} e => hact W l2 e
      have hfw : d.Few 1000000 := HP.out.few.mono (by have := HL.out.1; omega)
      have hbz : Below wr.heap.size wr (wr.alloc (strsRow m)).drew := hz.drew
      obtain ⟨Z, hZ⟩ : ∃ Z, wr.heap.size = Z := ⟨_, rfl⟩
      have hrz : (wr.alloc (strsRow m)).drew.heap[Z]? = some (strsRow m) := by rw [← hZ]; exact heap_alloc_new wr _
      have HC := Lib.hid (does_loose (HP.out.disk.below hbz) (isG_none hrz (by have := HM.out.2; omega)) rfl hfw ad hao)
      rw [gnone_v] at HC
      have HT := Lib.hid (fun w5 (hS : IsDisk w.heap.size w5 B (stepD d ad).1) (hK : Keeps w.heap.size (wr.alloc (strsRow m)).drew w5) => (show IsDisk w.heap.size w5 B (stepD d ad).1 ∧ Keeps w.heap.size wr w5 from ⟨hS, (Keeps.of_below hbz hn).trans hK⟩))
      have HD' := Lib.hid (show (stepD d ad).1.Ok → True from fun _ => trivial)
      have HHeld := Lib.hid (And.intro (fun (h : ¬ (ad.k = 1 ∧ 0 ≤ ad.p ∧ ad.p < m)) => HP.out.held.act HP.out.disk.ok HP.out.room ad h) (fun (p : Nat) (hp : ad.p = (p : Int)) (hpn : p < m) (ok' : (stepD d ad).1.Ok) (hr' : (stepD d ad).1.room = m) => HP.out.held.write HP.out.disk.ok HP.out.room HM.out.2 ad hp hpn ok' hr'))
      have HFR := Lib.hid (show (stepD d ad).1.Few (k + 1) ∧ (stepD d ad).1.room = m from ⟨HP.out.few.act HP.out.disk.ok ad, (stepD_room HP.out.disk.ok ad).trans HP.out.room⟩)
      have HR := Lib.hid (And.intro HP.out.racks (And.intro HP.out.len HP.out.below))
      clear HD' hfw hbz hrz hz hao
      generalize (stepD d ad).1 = d' at HC HT HHeld HFR
      unfold ActD.v at HC
      go_wp2_with fail
      refine wp_region_m (DlI wr m fun W => IsDisk w.heap.size W B d' ∧ Keeps w.heap.size (wr.alloc (strsRow m)).drew W) (DlV B Z m b off k L.length ac (actV ad.k ad.p ad.x ad.r)) (by kernel_rfl) (by kernel_rfl) (by kernel_rfl) (by kernel_rfl) ⟨fun _ => rfl, fun h => by cases h⟩ ?step ?fin
      case step =>
        intro i o ho listed a w' hI hn' hpre
        have hJ := hI.inv
        have hi : i < 12 := (Array.getElem?_eq_some_iff.1 ho).1
        match i, hi with
        | 0, _ =>
          cases ho
          exact wpOp_move rfl rfl (.inl rfl) (hI.kept (t := 7) (by kernel_rfl)) ⟨_, rfl, (hJ.still (by decide) (by decide)), fun _ => rfl, fun _ _ _ h => h⟩
        | 1, _ =>
          cases ho
          exact wpOp_move rfl rfl (.inl rfl) (hI.kept (t := 0) (by kernel_rfl)) ⟨_, rfl, (hJ.still (by decide) (by decide)), fun _ => rfl, fun _ _ _ h => h⟩
        | 2, _ =>
          cases ho
          have h8 : listed.getD 8 false = false := by
            cases h : listed.getD 8 false with
            | false => rfl
            | true =>
              have h3 := hI.closed 8 _ rfl h ⟨3, .data⟩ (by simp) rfl
              have h2 := hI.closed 3 _ rfl h3 ⟨2, .data⟩ (by simp) rfl
              rw [hn'] at h2; cases h2
          have hW := hJ.1 h8
          rw [hn'] at hW
          obtain rfl : w' = wr.drew := hW
          refine wpOp_make rfl rfl rfl (show a.eval (.tmp 68) = .int .i64 m from (hI.slot 1 68 rfl (hpre ⟨1, .data⟩ (by simp) rfl) rfl)) (show a.eval (.tmp 68) = .int .i64 m from (hI.slot 1 68 rfl (hpre ⟨1, .data⟩ (by simp) rfl) rfl)) (make_strs m (by have := HM.out.2; omega) wr.drew) ⟨_, rfl, ⟨fun _ => ?_, fun h => ?_⟩, fun _ => ?_, fun _ _ _ h => DlV.any _ _ h⟩
          · rw [listed_same (by rw [hI.size]; decide)]; rfl
          · rw [listed_other (by decide), h8] at h; cases h
          · rw [← hZ]; rfl
        | 3, _ =>
          cases ho
          refine wpOp_build rfl rfl rfl (vs := #[(0, .slice (some ⟨Z, 0, none⟩) m m)]) (by simp only [List.map_toArray, List.map_cons, List.map_nil, (show a.eval (.tmp 69) = .slice (some ⟨Z, 0, none⟩) m m from (hI.slot 2 69 rfl (hpre ⟨2, .data⟩ (by simp) rfl) rfl))]) (build_gd w' _ m m) ⟨_, rfl, (hJ.still (by decide) (by decide)), fun _ => rfl, fun _ _ _ h => h⟩
        | 4, _ =>
          cases ho
          exact wpOp_move rfl rfl (.inl rfl) (hI.kept (t := 1) (by kernel_rfl)) ⟨_, rfl, (hJ.still (by decide) (by decide)), fun _ => rfl, fun _ _ _ h => h⟩
        | 5, _ =>
          cases ho
          exact wpOp_move rfl rfl (.inl rfl) (hI.kept (t := 12) (by kernel_rfl)) ⟨_, rfl, (hJ.still (by decide) (by decide)), fun _ => rfl, fun _ _ _ h => h⟩
        | 6, _ =>
          cases ho
          exact wpOp_index rfl rfl rfl (hI.slot 4 71 rfl (hpre ⟨4, .data⟩ (by simp) rfl) rfl) (hI.slot 5 72 rfl (hpre ⟨5, .data⟩ (by simp) rfl) rfl) (index_act w' b off L.length ac k hlt) ⟨_, rfl, (hJ.still (by decide) (by decide)), fun _ => rfl, fun _ _ _ h => h⟩
        | 7, _ =>
          cases ho
          exact wpOp_load rfl rfl rfl (hI.slot 6 73 rfl (hpre ⟨6, .data⟩ (by simp) rfl) rfl) (load_act (hact w' (hJ.1 (hI.notyet hn' 8 (by kernel_rfl))))) ⟨_, rfl, (hJ.still (by decide) (by decide)), fun _ => rfl, fun _ _ _ h => h⟩
        | 8, _ =>
          cases ho
          refine wpOp_callFn rfl rfl rfl (vs := #[ptr B, .agg #[.slice (some ⟨Z, 0, none⟩) m m, .slice none 0 0, .int .i64 0, .int .i64 0, .bool false, .int .i64 0], actV ad.k ad.p ad.x ad.r]) (by simp only [List.map_toArray, List.map_cons, List.map_nil, (show a.eval (.tmp 67) = ptr B from (hI.slot 0 67 rfl (hpre ⟨0, .data⟩ (by simp) rfl) rfl)), (show a.eval (.tmp 70) = .agg #[.slice (some ⟨Z, 0, none⟩) m m, .slice none 0 0, .int .i64 0, .int .i64 0, .bool false, .int .i64 0] from (hI.slot 3 70 rfl (hpre ⟨3, .data⟩ (by simp) rfl) rfl)), (show a.eval (.tmp 74) = actV ad.k ad.p ad.x ad.r from (hI.slot 7 74 rfl (hpre ⟨7, .data⟩ (by simp) rfl) rfl))]) (fun _ _ => by kernel_rfl) ?_
          have hl3 := hpre ⟨3, .data⟩ (by simp) rfl
          have hl2 := hI.closed 3 _ rfl hl3 ⟨2, .data⟩ (by simp) rfl
          have hW := hJ.1 hn'
          rw [hl2] at hW
          obtain rfl : w' = (wr.alloc (strsRow m)).drew := hW
          refine HC.out.mono ?_
          rintro e w'' ⟨x, y, rfl, hS, hK⟩
          refine ⟨_, rfl, _, rfl, ⟨fun h => ?_, fun _ => ⟨hS, hK⟩⟩, fun _ => ⟨x, y, rfl⟩, fun j u _ h => DlV.any _ _ h⟩
          rw [listed_same (by rw [hI.size]; decide)] at h; cases h
        | 9, _ =>
          cases ho
          obtain ⟨x, y, e⟩ : ∃ x y, a.eval (.tmp 75) = .tuple #[.agg x, .bool y] := (hI.slot 8 75 rfl (hpre ⟨8, .data⟩ (by simp) rfl) rfl)
          exact wpOp_move rfl rfl (.inl rfl) e ⟨_, rfl, (hJ.still (by decide) (by decide)), fun _ => ⟨x, y, rfl⟩, fun _ _ _ h => h⟩
        | 10, _ =>
          cases ho
          obtain ⟨x, y, e⟩ : ∃ x y, a.eval (.tmp 66) = .tuple #[.agg x, .bool y] := (hI.slot 9 66 rfl (hpre ⟨9, .data⟩ (by simp) rfl) rfl)
          exact wpOp_extract rfl rfl rfl e rfl ⟨_, rfl, (hJ.still (by decide) (by decide)), fun _ => trivial, fun _ _ _ h => h⟩
        | 11, _ =>
          cases ho
          obtain ⟨x, y, e⟩ : ∃ x y, a.eval (.tmp 66) = .tuple #[.agg x, .bool y] := (hI.slot 9 66 rfl (hpre ⟨9, .data⟩ (by simp) rfl) rfl)
          exact wpOp_extract rfl rfl rfl e rfl ⟨_, rfl, (hJ.still (by decide) (by decide)), fun _ => trivial, fun _ _ _ h => h⟩
      case fin =>
        intro listed a w' hI hall
        have hJ := hI.inv.2 (hall 8 (by decide))
        obtain ⟨vs, hvl, hvs, e⟩ := hI.frame 66 12 (Nat.le_of_ble_eq_true (by kernel_rfl)) (by kernel_rfl)
        clear hI hall hvs
        match vs, hvl with
        | [x0, x1, x2, x3, x4, x5, x6, x7, x8, x9, x10, x11], _ =>
        simp only [List.take_succ_cons, List.take_zero, List.drop_succ_cons, List.drop_zero, List.cons_append, List.nil_append, Nat.reduceAdd] at e
        subst e
        have HX := Lib.hid (HT.out w' hJ.1 hJ.2)
        clear hJ
        go_upto_region 15 with (fail)
        obtain ⟨b0, hb0⟩ : ∃ b : Bool, b = true ↔ (ad.k = 1 ∧ 0 ≤ ad.p ∧ ad.p < (m : Int)) := ⟨decide _, decide_eq_true_iff⟩
        go_cut [100] (fun x wx => x = .bool b0 ∧ wx = w')
        case first =>
          as_aux_lemma =>
          have hca5 := (hca.below HX.out.2.below hb)
          obtain ⟨hx0, hx1, -, -⟩ := hca5
          have HB0 := Lib.hid hb0
          clear hact hca hb0
          by_cases hk1 : ad.k = 1
          case neg =>
            have hn1 : (ad.k == 1) = false := by simpa using hk1
            obtain rfl : b0 = false := Bool.eq_false_iff.2 (fun h => hk1 (HB0.out.1 h).1)
            clear hk1
            go_wp2_with fail
            go_meet
            exact ⟨rfl, rfl⟩
          rw [hk1] at hx0
          by_cases hp0 : 0 ≤ ad.p
          case neg =>
            have hd0 : decide (0 ≤ ad.p) = false := decide_eq_false hp0
            obtain rfl : b0 = false := Bool.eq_false_iff.2 (fun h => hp0 (HB0.out.1 h).2.1)
            clear hk1
            go_wp2_with fail
            go_meet
            exact ⟨rfl, rfl⟩
          by_cases hpm : ad.p < (m : Int)
          case neg =>
            have hd1 : decide (ad.p < (m : Int)) = false := decide_eq_false hpm
            obtain rfl : b0 = false := Bool.eq_false_iff.2 (fun h => hpm (HB0.out.1 h).2.2)
            clear hk1
            go_wp2_with fail
            go_meet
            exact ⟨rfl, rfl⟩
          · obtain rfl : b0 = true := HB0.out.2 ⟨hk1, hp0, hpm⟩
            clear hk1
            go_wp2_with fail
            go_meet
            exact ⟨rfl, rfl⟩
        case rest =>
        obtain ⟨rfl, rfl⟩ := hcut
        have HB0 := Lib.hid hb0
        clear hb0
        go_upto_if 100 with (fail)
        go_cut [13, 14] (fun _ _ wx => ∃ V2 ls2, Hid (LvB w.heap.size w wx B S G H (k + 1) m d' V2 ls2))
        case first =>
          as_aux_lemma =>
          have hca5 := (hca.below HX.out.2.below hb)
          obtain ⟨hx0, hx1, -, -⟩ := hca5
          have HE0 := Lib.hid (fun hs => (⟨HX.out.1, HR.out.1.keeps HX.out.2 HX.out.2.below.size, HHeld.out.1 hs, HR.out.2.2.trans HX.out.2.below, HFR.out.1, HFR.out.2, fun i => Nat.le_succ_of_le (HR.out.2.1 i)⟩ : LvB w.heap.size w wc B S G H (k + 1) m d' V ls))
          clear hact hca
          cases b0 with
          | false =>
            have HE := Lib.hid (HE0.out (fun q => by have := HB0.out.2 q; cases this))
            go_wp2_with fail
            go_meet
            exact ⟨V, ls, HE⟩
          | true =>
          obtain ⟨hk1, hp0, hpm0⟩ := HB0.out.1 rfl
          obtain ⟨p, hp⟩ : ∃ p : Nat, ad.p = p := ⟨ad.p.toNat, by omega⟩
          have hpm : p < m := by omega
          rw [hp] at hx1
          clear hp0 hpm0
          have hpm' : (p : Int) < (m : Int) := by omega
          have hp20 : p < 20 := by have := HM.out.2; omega
          have HRd := Lib.hid (read_yes HX.out.1 p (by rw [HFR.out.2]; exact hpm))
          obtain ⟨l, hl⟩ : ∃ l, d'.page p = l := ⟨_, rfl⟩
          have hll : l.length = 256 := by rw [← hl]; exact page_len256 HX.out.1.ok p (by rw [HFR.out.2]; exact hpm)
          rw [hl] at HRd
          have HLL := Lib.hid (And.intro hl hll)
          have HKP := Lib.hid (And.intro hk1 hp)
          clear hl hll hk1 hp
          go_wp2_with fail
          refine HRd.out.mono ?_
          rintro e w5 ⟨g, rfl, hPg, -, hb5⟩
          have hR5 := (HR.out.1.keeps HX.out.2 HX.out.2.below.size).below hb5
          have hN5 : w.heap.size ≤ wc.heap.size := HX.out.1.n_le
          have hb5n : Below w.heap.size w w5 := (HR.out.2.2.trans HX.out.2.below).trans (hb5.mono hN5)
          have hx1' := (hb5.cell (p := ⟨b, off + k * 4 + 1, none⟩) (Nat.lt_of_lt_of_le hb hN5)).trans hx1
          have hD5 := HX.out.1.below hb5
          obtain ⟨z, hz⟩ : ∃ z, pgStr l = z := ⟨_, rfl⟩
          have hcv : (convert 31 9 (.slice (some ⟨g, 0, none⟩) 256 256)).run Try.prog w5.drew = .ok (.string z) w5.drew := by
            have := conv_page (w := w5.drew) (g := g) (l := l) hPg HLL.out.2
            rw [← hz]; exact this
          obtain ⟨W0, hW0⟩ : ∃ W, w5.drew = W := ⟨_, rfl⟩
          have hR0 : Racks W0 S G H V ls := by rw [← hW0]; exact hR5.below ((Below.refl _ _).drew)
          have hD0 : IsDisk w.heap.size W0 B d' := by rw [← hW0]; exact hD5.below ((Below.refl _ _).drew)
          have hb0 : Below w.heap.size w W0 := by rw [← hW0]; exact hb5n.drew
          have hx10 : W0.cell? ⟨b, off + k * 4 + 1, none⟩ = some (.int .i64 p) := by rw [← hW0]; exact hx1'
          have hbs := build_str W0 z
          obtain ⟨T5, hT5⟩ : ∃ T, W0.heap.size = T := ⟨_, rfl⟩
          obtain ⟨W1, hW1⟩ : ∃ W, W0.alloc (.cells #[.string z] 9) = W := ⟨_, rfl⟩
          have hb01 : Below W0.heap.size W0 W1 := by rw [← hW1]; exact (Below.refl _ _).alloc (Nat.le_refl _) _
          have hR1 := hR0.below hb01
          have hD1 := hD0.below hb01
          have hb1 : Below w.heap.size w W1 := hb0.trans (hb01.mono hD0.n_le)
          have hs1 : W1.cell? ⟨T5, 0, none⟩ = some (.string z) := by
            have : W1.heap[W0.heap.size]? = some (.cells #[.string z] 9 (0, 0)) := by rw [← hW1]; exact heap_alloc_new W0 _
            rw [← hT5]; exact cell_of_row W1 _ 0 _ _ _ this
          rw [hW1, hT5] at hbs
          obtain ⟨v2, W2, hr, hO2, hG2, hf2⟩ := app_strs W1 29 S hR1.lo.2.2.2 (V (20 + p)) _ (hR1.own (20 + p)) T5 1 [z] (fun j s hs => by
            match j, hs with
            | 0, hs => cases hs; exact hs1
            | j + 1, hs => cases hs) (by have := HR.out.2.1 p; have := HL.out.1; simp only [List.length_singleton]; omega)
          obtain ⟨va, vc, hv2⟩ := hO2.slice
          have hput := put_page (s := z) hD1 hR1 hb1 HGs.out.2.2.2 HGs.out.2.2.1 hp20 hG2 hO2 hf2
          have hRH2 : W2.heap[H]? = some (.cells ((List.range 20).map fun i => V (20 + i)).toArray 30 (0, 0)) := by
            rw [hG2.block H (by have := hR1.lo; omega) (fun e => by have := ((hR1.own (20 + p)).lt H e.symm).1; have := hR1.lo; omega)]
            exact hR1.rh
          have hcc : W2.cell? ⟨H, p, none⟩ = some (V (20 + p)) := by rw [cell_of_row W2 H p _ _ _ hRH2]; simp [hp20]
          have hff := frozen_of_row W2 H p _ _ hRH2
          obtain ⟨W3, hW3⟩ : ∃ W, W2.setCell ⟨H, p, none⟩ v2 = W := ⟨_, rfl⟩
          have hst : (Instr.storeAt 29 (.pointer (some ⟨H, p, none⟩)) v2).run Try.prog W2 = .ok () W3 := by
            rw [← hW3, hv2]; exact store_slice (by kernel_rfl) hcc hff
          have hcw : ∀ W, (W = W0 ∨ W = W1 ∨ W = W2 ∨ W = W3) → W.cell? ⟨b, off + k * 4 + 1, none⟩ = some (.int .i64 p) := by
            have hbN : b < w.heap.size := hb
            have h1 := (hb01.cell (p := ⟨b, off + k * 4 + 1, none⟩) (Nat.lt_of_lt_of_le hbN hD0.n_le)).trans hx10
            have h2 : W2.cell? ⟨b, off + k * 4 + 1, none⟩ = some (.int .i64 p) := (World.cell?_of_block (hG2.block b (Nat.lt_of_lt_of_le hbN hD1.n_le) (fun e => by have := ((hR1.own (20 + p)).lt b e.symm).1; have := HGs.out.2.2.2; omega))).trans h1
            have h3 : W3.cell? ⟨b, off + k * 4 + 1, none⟩ = some (.int .i64 p) := by
              rw [← hW3]
              exact (World.cell?_of_block ((grownBy_cell W2 ⟨H, p, none⟩ v2).block b (Nat.lt_of_lt_of_le (Nat.lt_of_lt_of_le hbN hD1.n_le) hG2.size) (fun e => by have e2 : b = H := Option.some.inj e; have := HGs.out.2.2.1; omega))).trans h2
            rintro W (rfl | rfl | rfl | rfl)
            · exact hx10
            · exact h1
            · exact h2
            · exact h3
          obtain ⟨vq, hvq⟩ : ∃ v, V (20 + p) = v := ⟨_, rfl⟩
          have hcH : ∀ W, (W = W0 ∨ W = W1) → W.cell? ⟨H, p, none⟩ = some vq := by
            rw [← hvq]
            rintro W (rfl | rfl)
            · exact (hR0.cellH p hp20).1
            · exact (hR1.cellH p hp20).1
          rw [hvq, List.length_singleton] at hr
          rw [hW3] at hput
          have HE : Hid (LvB w.heap.size w W3 B S G H (k + 1) m d' (upd V (20 + p) v2) (upd ls (20 + p) (ls (20 + p) ++ [z]))) := Lib.hid ⟨hput.1, hput.2.1, by
              have := HHeld.out.2 p HKP.out.2 hpm HX.out.1.ok HFR.out.2
              rw [HLL.out.1, hz] at this; exact this, hput.2.2, HFR.out.1, HFR.out.2, fun i => by
              have := HR.out.2.1 i
              unfold upd
              split
              · rename_i e
                have : i = p := by omega
                subst this
                rw [List.length_append, List.length_singleton]; omega
              · omega⟩
          clear hput hO2 hG2 hf2 hv2 hRH2 hcc hff hR0 hR1 hR5 hD0 hD1 hD5 hb0 hb1 hb01 hb5 hb5n hx1 hx1' hx10 hs1 hW1 hW3 hPg hz hvq hN5 hx0
          rw [hW0] at hcv
          go_wp2_with fail
          refine wp_region_m (DlJ W0 W1 W2 W3) (DlK b off k L.length ac p H g T5 vq v2 z) (by kernel_rfl) (by kernel_rfl) (by kernel_rfl) (by kernel_rfl) hW0 ?step ?fin
          case step =>
            intro i o ho listed a w' hI hn' hpre
            have hJ := hI.inv
            have hi : i < 18 := (Array.getElem?_eq_some_iff.1 ho).1
            match i, hi with
            | 0, _ =>
              cases ho
              exact wpOp_move rfl rfl (.inl rfl) (hI.kept (t := 1) (by kernel_rfl)) ⟨_, rfl, (hJ.still (by decide) (by decide) (by decide)), fun _ => rfl, fun _ _ _ h => h⟩
            | 1, _ =>
              cases ho
              exact wpOp_move rfl rfl (.inl rfl) (hI.kept (t := 12) (by kernel_rfl)) ⟨_, rfl, (hJ.still (by decide) (by decide) (by decide)), fun _ => rfl, fun _ _ _ h => h⟩
            | 2, _ =>
              cases ho
              exact wpOp_index rfl rfl rfl (hI.slot 0 113 rfl (hpre ⟨0, .data⟩ (by simp) rfl) rfl) (hI.slot 1 114 rfl (hpre ⟨1, .data⟩ (by simp) rfl) rfl) (index_act w' b off L.length ac k hlt) ⟨_, rfl, (hJ.still (by decide) (by decide) (by decide)), fun _ => rfl, fun _ _ _ h => h⟩
            | 3, _ =>
              cases ho
              exact wpOp_field rfl rfl rfl (hI.slot 2 115 rfl (hpre ⟨2, .data⟩ (by simp) rfl) rfl) (by simp [go_sem, addr_add]) ⟨_, rfl, (hJ.still (by decide) (by decide) (by decide)), fun _ => rfl, fun _ _ _ h => h⟩
            | 4, _ =>
              cases ho
              exact wpOp_load rfl rfl rfl (hI.slot 3 116 rfl (hpre ⟨3, .data⟩ (by simp) rfl) rfl) (load_cell (Try.isAgg3 w') (hcw w' hJ.any)) ⟨_, rfl, (hJ.still (by decide) (by decide) (by decide)), fun _ => rfl, fun _ _ _ h => h⟩
            | 5, _ =>
              cases ho
              exact wpOp_move rfl rfl (.inl rfl) (hI.kept (t := 1) (by kernel_rfl)) ⟨_, rfl, (hJ.still (by decide) (by decide) (by decide)), fun _ => rfl, fun _ _ _ h => h⟩
            | 6, _ =>
              cases ho
              exact wpOp_move rfl rfl (.inl rfl) (hI.kept (t := 12) (by kernel_rfl)) ⟨_, rfl, (hJ.still (by decide) (by decide) (by decide)), fun _ => rfl, fun _ _ _ h => h⟩
            | 7, _ =>
              cases ho
              exact wpOp_index rfl rfl rfl (hI.slot 5 118 rfl (hpre ⟨5, .data⟩ (by simp) rfl) rfl) (hI.slot 6 119 rfl (hpre ⟨6, .data⟩ (by simp) rfl) rfl) (index_act w' b off L.length ac k hlt) ⟨_, rfl, (hJ.still (by decide) (by decide) (by decide)), fun _ => rfl, fun _ _ _ h => h⟩
            | 8, _ =>
              cases ho
              exact wpOp_field rfl rfl rfl (hI.slot 7 120 rfl (hpre ⟨7, .data⟩ (by simp) rfl) rfl) (by simp [go_sem, addr_add]) ⟨_, rfl, (hJ.still (by decide) (by decide) (by decide)), fun _ => rfl, fun _ _ _ h => h⟩
            | 9, _ =>
              cases ho
              exact wpOp_load rfl rfl rfl (hI.slot 8 121 rfl (hpre ⟨8, .data⟩ (by simp) rfl) rfl) (load_cell (Try.isAgg3 w') (hcw w' hJ.any)) ⟨_, rfl, (hJ.still (by decide) (by decide) (by decide)), fun _ => rfl, fun _ _ _ h => h⟩
            | 10, _ =>
              cases ho
              exact wpOp_index rfl rfl rfl (hI.kept (t := 10) (by kernel_rfl)) (hI.slot 9 122 rfl (hpre ⟨9, .data⟩ (by simp) rfl) rfl) (index_arr w' H p (by omega)) ⟨_, rfl, (hJ.still (by decide) (by decide) (by decide)), fun _ => rfl, fun _ _ _ h => h⟩
            | 11, _ =>
              cases ho
              exact wpOp_load rfl rfl rfl (hI.slot 10 123 rfl (hpre ⟨10, .data⟩ (by simp) rfl) rfl) (load_cell (Try.isAgg29 w') (hcH w' ((Bool.eq_false_or_eq_true (listed.getD 14 false)).elim (fun h => .inr (hJ.at1 h (hI.notyet hn' 15 (by kernel_rfl)) (hI.notyet hn' 17 (by kernel_rfl)))) (fun h => .inl (hJ.at0 h (hI.notyet hn' 15 (by kernel_rfl)) (hI.notyet hn' 17 (by kernel_rfl))))))) ⟨_, rfl, (hJ.still (by decide) (by decide) (by decide)), fun _ => rfl, fun _ _ _ h => h⟩
            | 12, _ =>
              cases ho
              exact wpOp_move rfl rfl (.inl rfl) (hI.kept (t := 13) (by kernel_rfl)) ⟨_, rfl, (hJ.still (by decide) (by decide) (by decide)), fun _ => rfl, fun _ _ _ h => h⟩
            | 13, _ =>
              cases ho
              obtain rfl : w' = W0 := hJ.at0 (hI.notyet hn' 14 (by kernel_rfl)) (by
                cases h : listed.getD 15 false with
                | false => rfl
                | true => have := hI.closed 15 _ rfl h ⟨14, .data⟩ (by simp) rfl; rw [(hI.notyet hn' 14 (by kernel_rfl))] at this; cases this) (hI.notyet hn' 17 (by kernel_rfl))
              exact wpOp_conv rfl rfl rfl (hI.slot 12 125 rfl (hpre ⟨12, .data⟩ (by simp) rfl) rfl) hcv ⟨_, rfl, (hJ.still (by decide) (by decide) (by decide)), fun _ => rfl, fun _ _ _ h => h⟩
            | 14, _ =>
              cases ho
              obtain rfl : w' = W0 := hJ.at0 hn' (hI.notyet hn' 15 (by kernel_rfl)) (hI.notyet hn' 17 (by kernel_rfl))
              refine wpOp_buildSlice rfl rfl rfl (vs := #[(0, .string z)]) (by simp only [List.map_toArray, List.map_cons, List.map_nil, (show a.eval (.tmp 126) = .string z from (hI.slot 13 126 rfl (hpre ⟨13, .data⟩ (by simp) rfl) rfl))]) hbs ⟨_, rfl, ?_, fun _ => rfl, fun _ _ _ h => DlK.any _ _ h⟩
              unfold DlJ
              rw [listed_other (by decide), listed_other (by decide), listed_same (by rw [hI.size]; decide), (hI.notyet hn' 15 (by kernel_rfl)), (hI.notyet hn' 17 (by kernel_rfl))]; rfl
            | 15, _ =>
              cases ho
              obtain rfl : w' = W1 := hJ.at1 (hpre ⟨14, .data⟩ (by simp) rfl) hn' (hI.notyet hn' 17 (by kernel_rfl))
              refine wpOp_append rfl rfl rfl (hI.slot 11 124 rfl (hpre ⟨11, .data⟩ (by simp) rfl) rfl) (hI.slot 14 127 rfl (hpre ⟨14, .data⟩ (by simp) rfl) rfl) hr ⟨_, rfl, ?_, fun _ => rfl, fun _ _ _ h => DlK.any _ _ h⟩
              unfold DlJ
              rw [listed_other (by decide), listed_same (by rw [hI.size]; decide), (hI.notyet hn' 17 (by kernel_rfl))]; rfl
            | 16, _ =>
              cases ho
              exact wpOp_index rfl rfl rfl (hI.kept (t := 10) (by kernel_rfl)) (hI.slot 4 117 rfl (hpre ⟨4, .data⟩ (by simp) rfl) rfl) (index_arr w' H p (by omega)) ⟨_, rfl, (hJ.still (by decide) (by decide) (by decide)), fun _ => rfl, fun _ _ _ h => h⟩
            | 17, _ =>
              cases ho
              obtain rfl : w' = W2 := hJ.at2 (hpre ⟨15, .data⟩ (by simp) rfl) hn'
              refine wpOp_store rfl rfl rfl (hI.slot 16 129 rfl (hpre ⟨16, .data⟩ (by simp) rfl) rfl) (hI.slot 15 128 rfl (hpre ⟨15, .data⟩ (by simp) rfl) rfl) hst ⟨_, rfl, ?_, (fun q => by cases q), fun _ _ _ h => DlK.any _ _ h⟩
              unfold DlJ
              rw [listed_same (by rw [hI.size]; decide)]; rfl
          case fin =>
            intro listed a w' hI hall
            obtain rfl : w' = W3 := hI.inv.at3 (hall 17 (by decide))
            obtain ⟨vs, hvl, hvs, e⟩ := hI.frame 113 17 (Nat.le_of_ble_eq_true (by kernel_rfl)) (by kernel_rfl)
            clear hI hall hvs
            match vs, hvl with
            | [x0, x1, x2, x3, x4, x5, x6, x7, x8, x9, x10, x11, x12, x13, x14, x15, x16], _ =>
            simp only [List.take_succ_cons, List.take_zero, List.drop_succ_cons, List.drop_zero, List.cons_append, List.nil_append, Nat.reduceAdd] at e
            subst e
            go_wp2_with fail
            go_meet
            exact ⟨_, _, HE⟩
        case rest =>
        obtain ⟨V2, ls2, HB⟩ := hcut
        have HWt := Lib.hid (waits_disk HB.out.disk)
        obtain ⟨nw, hnw⟩ : ∃ n, d'.waits.length = n := ⟨_, rfl⟩
        rw [hnw] at HWt
        have HMS2 := Lib.hid (show L.length - (k + 1) < L.length - k by omega)
        obtain ⟨wz, hwz⟩ : ∃ x, x = wc := ⟨wc, rfl⟩
        subst hwz
        clear hact hca HC HT
        go_wp2_with fail
        refine HWt.out.mono ?_
        rintro e wy ⟨rfl, rfl⟩
        obtain ⟨bz, hbz⟩ : ∃ b : Bool, ((nw : Int) == 0) = b := ⟨_, rfl⟩
        cases bz with
        | false =>
          have hne : ¬ d'.waits = [] := fun e => by rw [e] at hnw; rw [← hnw] at hbz; cases hbz
          have HE : Hid (LvA w.heap.size w wz B S G H (k + 1) m d' V2 ls2) := Lib.hid ⟨HB.out.disk, HB.out.racks, HB.out.held.resolve_left hne, HB.out.below, HB.out.few, HB.out.room, HB.out.len⟩
          clear hne hnw
          go_wp2_with fail
          exact ⟨⟨k + 1, d', V2, ls2, rfl, hlt, HE⟩, HMS2.out⟩
        | true =>
          have h0 : d'.waits = [] := List.eq_nil_of_length_eq_zero (by rw [hnw]; have := eq_of_beq hbz; omega)
          have HC0 : Hid (LvC w.heap.size w wz B S G H (k + 1) 0 d' V2 ls2) := Lib.hid ⟨HB.out.disk, HB.out.racks, HB.out.below, (fun p hp => absurd hp (by omega)), HB.out.len⟩
          have HBB := Lib.hid (And.intro h0 (And.intro HB.out.few HB.out.room))
          clear HB h0 hnw
          go_wp2_with fail
          go_loopw [15, 16, 17, 133, 134, 135, 136, 137, 138, 139, 140, 141, 142, 143, 144, 145, 146, 147, 148, 149, 150, 151, 152] (fun x _ _ _ _ _ _ _ _ _ _ _ _ _ _ _ _ _ _ _ _ _ _ wr => ∃ (i : Nat) (V3 : Nat → Value) (ls3 : Nat → List ByteArray), x = .int .i64 i ∧ i ≤ m ∧ Hid (LvC w.heap.size w wr B S G H (k + 1) i d' V3 ls3))
            (fun x _ _ _ _ _ _ _ _ _ _ _ _ _ _ _ _ _ _ _ _ _ _ _ => m - (intOf x).toNat)
          case atStart => exact ⟨0, V2, ls2, rfl, Nat.zero_le _, HC0⟩
          case round =>
            clear HC0
            obtain ⟨i, V3, ls3, rfl, hi, HCi⟩ := hrel
            by_cases hlt3 : i < m
            · as_aux_lemma =>
              have hlt3' : (i : Int) < (m : Int) := by omega
              have hi20 : i < 20 := by have := HM.out.2; omega
              have HMS3 := Lib.hid (show m - (i + 1) < m - i by omega)
              have hm20 := HM.out.2
              have HRd := Lib.hid (read_yes HCi.out.disk i (by rw [HBB.out.2.2]; exact hlt3))
              obtain ⟨l, hl⟩ : ∃ l, d'.page i = l := ⟨_, rfl⟩
              have hll : l.length = 256 := by rw [← hl]; exact page_len256 HCi.out.disk.ok i (by rw [HBB.out.2.2]; exact hlt3)
              rw [hl] at HRd
              have HLL := Lib.hid (And.intro hl hll)
              clear hl hll
              go_wp2_with fail
              refine HRd.out.mono ?_
              rintro e w5 ⟨g, rfl, hPg, -, hb5⟩
              have hR5 := HCi.out.racks.below hb5
              have hD5 := HCi.out.disk.below hb5
              have hbn := HCi.out.below.trans (hb5.mono HCi.out.disk.n_le)
              obtain ⟨z, hz⟩ : ∃ z, pgStr l = z := ⟨_, rfl⟩
              have hcv := conv_page hPg HLL.out.2
              rw [show bs l = z from hz] at hcv
              have hput := anew_page z hD5 hR5 hbn HGs.out.2.1 HGs.out.2.2.1 hi20
              have hst := hR5.store (Below.refl _ w5) i hi20 z
              obtain ⟨hc1, hc2⟩ := (hR5.below ((Below.refl _ w5).alloc (Nat.le_refl _) (.cells #[.string z] 9))).cellG i hi20
              obtain ⟨hc3, hc4⟩ := hst.cellH i hi20
              have hi1 := fun w => index_arr w G i hi20
              have hi2 := fun w => index_arr w H i hi20
              have HE : Hid (LvC w.heap.size w (((w5.alloc (.cells #[.string z] 9)).setCell ⟨G, i, none⟩ (.slice (some ⟨w5.heap.size, 0, none⟩) 1 1)).setCell ⟨H, i, none⟩ (.slice none 0 0)) B S G H (k + 1) (i + 1) d' (upd (upd V3 i (.slice (some ⟨w5.heap.size, 0, none⟩) 1 1)) (20 + i) (.slice none 0 0)) (upd (upd ls3 i [z]) (20 + i) [])) := Lib.hid ⟨hput.1, hput.2.1, hput.2.2, fun p hp => by
                  have hpm20 : p < 20 := by omega
                  by_cases e : p = i
                  · subst e
                    unfold upd
                    rw [if_neg (by omega), if_pos rfl, if_pos rfl, HLL.out.1, hz]; exact ⟨rfl, rfl⟩
                  · have := HCi.out.done p (by omega)
                    unfold upd
                    rw [if_neg (by omega), if_neg e, if_neg (by omega), if_neg (by omega)]; exact this, fun j => by
                  have := HCi.out.len j
                  unfold upd
                  split
                  · exact Nat.zero_le _
                  · rw [if_neg (by omega)]; exact this⟩
              obtain ⟨v1, hv1⟩ : ∃ v, V3 i = v := ⟨_, rfl⟩
              obtain ⟨v2, hv2⟩ : ∃ v, upd V3 i (.slice (some ⟨w5.heap.size, 0, none⟩) 1 1) (20 + i) = v := ⟨_, rfl⟩
              rw [hv1] at hc1
              rw [hv2] at hc3
              clear hput hst hR5 hD5 hbn hPg hz hv1 hv2 hb5
              go_wp2_with fail
              exact ⟨⟨i + 1, _, _, rfl, hlt3, HE⟩, HMS3.out⟩
            · obtain rfl : i = m := by omega
              have hii : ¬ (i : Int) < (i : Int) := by omega
              have HE : Hid (LvA w.heap.size w wr B S G H (k + 1) i d' V3 ls3) := Lib.hid ⟨HCi.out.disk, HCi.out.racks, Held.anew HBB.out.1 (fun p hp => (HCi.out.done p hp).1) (fun p hp => (HCi.out.done p hp).2), HCi.out.below, HBB.out.2.1, HBB.out.2.2, HCi.out.len⟩
              go_wp2_with fail
              exact ⟨⟨k + 1, d', V3, ls3, rfl, hlt, HE⟩, HMS2.out⟩
    · obtain rfl : k = L.length := by omega
      as_aux_lemma =>
      clear hlt
      have hlt' : ¬ (L.length : Int) < (L.length : Int) := by omega
      have HCr := Lib.hid (crash_disk HP.out.disk picks ((HPV.out.below HP.out.below (Nat.le_refl _)).mono HP.out.below.size) (by have := HP.out.few.1; have := HL.out.1; omega))
      go_wp2_with fail
      refine HCr.out.mono ?_
      rintro e wx ⟨X, rfl, hX, hbx⟩
      have hwd : (d.crash picks).waits = [] ∧ (d.crash picks).dead = false := ⟨rfl, rfl⟩
      have hW0 := waits_disk hX
      rw [hwd.1] at hW0
      have hD0 := dead_disk hX
      rw [hwd.2] at hD0
      have HWt := Lib.hid hW0
      have HDd := Lib.hid hD0
      have HX := Lib.hid (And.intro hX hbx)
      clear hX hbx hW0 hD0 hwd
      go_wp2_with fail
      refine HWt.out.mono ?_
      rintro e wy ⟨rfl, rfl⟩
      go_wp2_with fail
      refine HDd.out.mono ?_
      rintro e wy ⟨rfl, rfl⟩
      obtain ⟨dX, hdX⟩ : ∃ x, d.crash picks = x := ⟨_, rfl⟩
      have HFd := Lib.hid (show (∀ p, p < m → ∀ s, s < 4 → ∃ x ∈ ls p ++ ls (20 + p), ∃ l : Page, l.length = 256 ∧ x = pgStr l ∧ sec l s = sec (dX.page p) s) ∧ dX.room = m ∧ dX.Ok ∧ dX.waits = [] ∧ dX.crash picks = dX ∧ (∀ p, p < m → ls p ≠ []) ∧ (∀ p, p < m → (ls p ++ ls (20 + p)).length ≤ 41) ∧ (∀ p, p < m → ∀ x ∈ ls p ++ ls (20 + p), ∃ l : Page, l.length = 256 ∧ x = pgStr l) from by
        subst hdX
        have hok := HP.out.disk.ok
        refine ⟨fun p hp s hs => HP.out.held.found hok HP.out.room hp hs picks, by rw [crash_room]; exact HP.out.room, hok.crash picks, rfl, crash_twice d picks picks, fun p hp e => ?_, fun p hp => ?_, fun p hp x hx => ?_⟩
        · rw [HP.out.held.last p hp] at e; cases e
        · rw [HP.out.held.last p hp, List.length_append]
          have := HP.out.len p
          have := HL.out.1
          simp only [List.length_singleton]; omega
        · rcases List.mem_append.1 hx with hx | hx
          · rw [HP.out.held.last p hp, List.mem_singleton] at hx
            exact ⟨_, hok.len p (by rw [HP.out.room]; exact hp), hx⟩
          · exact HP.out.held.page p hp x hx)
      have HE0 := Lib.hid (show IsDisk wr.heap.size wx X dX ∧ Racks wx S G H V ls ∧ Below w.heap.size w wx ∧ w.heap.size ≤ wr.heap.size from ⟨by rw [← hdX]; exact HX.out.1, HP.out.racks.below HX.out.2, HP.out.below.trans (HX.out.2.mono HP.out.below.size), HP.out.below.size⟩)
      clear hdX HX HWt HDd HCr
      obtain ⟨N0, hN0⟩ : ∃ n, wr.heap.size = n := ⟨_, rfl⟩
      rw [hN0] at HE0
      clear hN0
      go_wp2_with fail
      go_loopw [20, 21, 22, 23, 24, 25, 26, 170, 171, 172, 173, 174, 175, 176, 177, 178, 179, 180, 181, 182, 183, 184, 185, 186, 187, 188, 189, 190, 191, 192, 193, 194, 195, 196, 197, 198, 199, 200, 201, 202, 203, 204, 205, 206, 207, 208, 209, 210, 211, 212, 213, 214, 215, 216, 217, 218, 219, 220, 221, 222, 223, 224, 225, 226, 227, 228, 229] (fun x _ _ _ _ _ _ _ _ _ _ _ _ _ _ _ _ _ _ _ _ _ _ _ _ _ _ _ _ _ _ _ _ _ _ _ _ _ _ _ _ _ _ _ _ _ _ _ _ _ _ _ _ _ _ _ _ _ _ _ _ _ _ _ _ _ _ wr => ∃ k : Nat, x = .int .i64 k ∧ k ≤ m ∧ Hid (IsDisk N0 wr X dX ∧ Racks wr S G H V ls ∧ Below w.heap.size w wr))
        (fun x _ _ _ _ _ _ _ _ _ _ _ _ _ _ _ _ _ _ _ _ _ _ _ _ _ _ _ _ _ _ _ _ _ _ _ _ _ _ _ _ _ _ _ _ _ _ _ _ _ _ _ _ _ _ _ _ _ _ _ _ _ _ _ _ _ _ _ => m - (intOf x).toNat)
      case atStart => exact ⟨0, rfl, Nat.zero_le _, Lib.hid ⟨HE0.out.1, HE0.out.2.1, HE0.out.2.2.1⟩⟩
      case round =>
        obtain ⟨k, rfl, hk6, HC⟩ := hrel
        by_cases hlt6 : k < m
        · as_aux_lemma =>
          have hlt6' : (k : Int) < (m : Int) := by omega
          have hk20 : k < 20 := by have := HM.out.2; omega
          have HMS := Lib.hid (show m - (k + 1) < m - k by omega)
          have HRd := Lib.hid (read_yes HC.out.1 k (by rw [HFd.out.2.1]; exact hlt6))
          obtain ⟨l, hl⟩ : ∃ l, dX.page k = l := ⟨_, rfl⟩
          have hll : l.length = 256 := by rw [← hl]; exact page_len256 HC.out.1.ok k (by rw [HFd.out.2.1]; exact hlt6)
          rw [hl] at HRd
          have HLL := Lib.hid (And.intro hl hll)
          clear hl hll
          go_wp2_with fail
          refine HRd.out.mono ?_
          rintro e wq ⟨g, rfl, hPg, -, hb5⟩
          have hb5 := hb5.drew
          have hPg := hPg.below (Below.refl _ wq).drew hPg.lt
          obtain ⟨W0, hW0⟩ : ∃ W, wq.drew = W := ⟨_, rfl⟩
          rw [hW0] at hb5 hPg
          have HPg := Lib.hid (show PageAt W0 g l ∧ IsDisk N0 W0 X dX ∧ Racks W0 S G H V ls ∧ Below w.heap.size w W0 from ⟨hPg, HC.out.1.below hb5, HC.out.2.1.below hb5, HC.out.2.2.trans (hb5.mono HC.out.2.2.size)⟩)
          clear hPg hb5
          go_wp2_with fail
          obtain ⟨v1, W1, v2, W2, hr1, hr2, hO2, hB1, hB2⟩ := both_runs HPg.out.2.2.1 k (HFd.out.2.2.2.2.2.1 k hlt6) (by have := HFd.out.2.2.2.2.2.2.1 k hlt6; rw [List.length_append] at this; omega)
          have hcG : ∀ W, (W = W0 ∨ W = W1 ∨ W = W2) → W.cell? ⟨G, k, none⟩ = some (V k) := fun W h => by
            rcases h with rfl | rfl | rfl
            · exact (HPg.out.2.2.1.cellG k hk20).1
            · exact ((HPg.out.2.2.1.below hB1).cellG k hk20).1
            · exact ((HPg.out.2.2.1.below hB2).cellG k hk20).1
          have hcH : ∀ W, (W = W0 ∨ W = W1 ∨ W = W2) → W.cell? ⟨H, k, none⟩ = some (V (20 + k)) := fun W h => by
            rcases h with rfl | rfl | rfl
            · exact (HPg.out.2.2.1.cellH k hk20).1
            · exact ((HPg.out.2.2.1.below hB1).cellH k hk20).1
            · exact ((HPg.out.2.2.1.below hB2).cellH k hk20).1
          have hne : ls k ++ ls (20 + k) ≠ [] := fun e => HFd.out.2.2.2.2.2.1 k hlt6 (List.append_eq_nil_iff.1 e).1
          obtain ⟨T, hT⟩ : ∃ T, ls k ++ ls (20 + k) = T := ⟨_, rfl⟩
          rw [hT] at hO2 hne
          obtain ⟨mg, mc, rfl, -, hmg, hmc, hcells⟩ := hO2.cells' hne
          have HT := Lib.hid (show (∀ s, s < 4 → ∃ x ∈ T, ∃ l' : Page, l'.length = 256 ∧ x = pgStr l' ∧ sec l' s = sec l s) ∧ T.length ≤ 41 ∧ (∀ x ∈ T, ∃ l : Page, l.length = 256 ∧ x = pgStr l) from by
            rw [← hT, ← HLL.out.1]
            exact ⟨HFd.out.1 k hlt6, HFd.out.2.2.2.2.2.2.1 k hlt6, HFd.out.2.2.2.2.2.2.2 k hlt6⟩)
          have HW2 : Hid (LvE w.heap.size N0 w W2 X S G H g mg dX l V ls T) := Lib.hid ⟨HPg.out.1.below hB2 HPg.out.1.lt, HPg.out.2.1.below hB2, HPg.out.2.2.1.below hB2, HPg.out.2.2.2.trans (hB2.mono HPg.out.2.2.2.size), hcells, hmg⟩
          obtain ⟨u1, hu1⟩ : ∃ u, V k = u := ⟨_, rfl⟩
          obtain ⟨u2, hu2⟩ : ∃ u, V (20 + k) = u := ⟨_, rfl⟩
          rw [hu1] at hr1 hcG
          rw [hu2] at hr2 hcH
          refine wp_region_m (DlM W0 W1 W2) (DlN G H k u1 v1 u2 (.slice (some ⟨mg, 0, none⟩) T.length mc)) (by kernel_rfl) (by kernel_rfl) (by kernel_rfl) (by kernel_rfl) hW0 ?step ?fin
          case step =>
            intro i o ho listed a w' hI hn' hpre
            have hJ := hI.inv
            have hi : i < 9 := (Array.getElem?_eq_some_iff.1 ho).1
            match i, hi with
            | 0, _ =>
              cases ho
              exact wpOp_move rfl rfl (.inl rfl) (hI.kept (t := 20) (by kernel_rfl)) ⟨_, rfl, (hJ.still (by decide) (by decide)), fun _ => rfl, fun _ _ _ h => h⟩
            | 1, _ =>
              cases ho
              exact wpOp_index rfl rfl rfl (hI.kept (t := 9) (by kernel_rfl)) (hI.slot 0 188 rfl (hpre ⟨0, .data⟩ (by simp) rfl) rfl) (index_arr w' G k hk20) ⟨_, rfl, (hJ.still (by decide) (by decide)), fun _ => rfl, fun _ _ _ h => h⟩
            | 2, _ =>
              cases ho
              exact wpOp_load rfl rfl rfl (hI.slot 1 189 rfl (hpre ⟨1, .data⟩ (by simp) rfl) rfl) (load_cell (Try.isAgg29 w') (hcG w' hJ.any)) ⟨_, rfl, (hJ.still (by decide) (by decide)), fun _ => rfl, fun _ _ _ h => h⟩
            | 3, _ =>
              cases ho
              obtain rfl : w' = W0 := hJ.at0 hn' (hI.notyet hn' 7 (by kernel_rfl))
              refine wpOp_append rfl rfl rfl rfl (hI.slot 2 190 rfl (hpre ⟨2, .data⟩ (by simp) rfl) rfl) hr1 ⟨_, rfl, ?_, fun _ => rfl, fun _ _ _ h => DlN.any _ _ h⟩
              unfold DlM
              rw [listed_other (by decide), listed_same (by rw [hI.size]; decide), (hI.notyet hn' 7 (by kernel_rfl))]; rfl
            | 4, _ =>
              cases ho
              exact wpOp_move rfl rfl (.inl rfl) (hI.kept (t := 20) (by kernel_rfl)) ⟨_, rfl, (hJ.still (by decide) (by decide)), fun _ => rfl, fun _ _ _ h => h⟩
            | 5, _ =>
              cases ho
              exact wpOp_index rfl rfl rfl (hI.kept (t := 10) (by kernel_rfl)) (hI.slot 4 192 rfl (hpre ⟨4, .data⟩ (by simp) rfl) rfl) (index_arr w' H k hk20) ⟨_, rfl, (hJ.still (by decide) (by decide)), fun _ => rfl, fun _ _ _ h => h⟩
            | 6, _ =>
              cases ho
              exact wpOp_load rfl rfl rfl (hI.slot 5 193 rfl (hpre ⟨5, .data⟩ (by simp) rfl) rfl) (load_cell (Try.isAgg29 w') (hcH w' hJ.any)) ⟨_, rfl, (hJ.still (by decide) (by decide)), fun _ => rfl, fun _ _ _ h => h⟩
            | 7, _ =>
              cases ho
              obtain rfl : w' = W1 := hJ.at1 (hpre ⟨3, .data⟩ (by simp) rfl) hn'
              refine wpOp_append rfl rfl rfl (hI.slot 3 191 rfl (hpre ⟨3, .data⟩ (by simp) rfl) rfl) (hI.slot 6 194 rfl (hpre ⟨6, .data⟩ (by simp) rfl) rfl) hr2 ⟨_, rfl, ?_, fun _ => rfl, fun _ _ _ h => DlN.any _ _ h⟩
              unfold DlM
              rw [listed_same (by rw [hI.size]; decide)]; rfl
            | 8, _ =>
              cases ho
              exact wpOp_move rfl rfl (.inr rfl) (hI.slot 7 195 rfl (hpre ⟨7, .data⟩ (by simp) rfl) rfl) ⟨_, rfl, (hJ.still (by decide) (by decide)), fun _ => rfl, fun _ _ _ h => h⟩
          case fin =>
            intro listed a w' hI hall
            obtain rfl : w' = W2 := hI.inv.at2 (hall 7 (by decide))
            have eS23 : a.tmps.getD 23 undef = .slice (some ⟨mg, 0, none⟩) T.length mc := hI.slot 8 23 rfl (hall 8 (by decide)) rfl
            obtain ⟨vs, us, hvl, hul, hvs, hus, e⟩ := hI.frame2 23 1 188 8 (by decide) (Nat.le_of_ble_eq_true (by kernel_rfl)) (by kernel_rfl)
            have vS23 := hvs 0 (by decide)
            clear hI hall hvs hus
            match vs, us, hvl, hul with
            | [x0], [y0, y1, y2, y3, y4, y5, y6, y7], _, _ =>
            simp only [List.getElem?_cons_zero, Option.some.injEq] at vS23
            rw [show 23 + 0 = 23 from rfl, eS23] at vS23
            subst vS23
            simp only [List.take_succ_cons, List.take_zero, List.drop_succ_cons, List.drop_zero, List.cons_append, List.nil_append, Nat.reduceAdd, Nat.reduceSub] at e
            subst e
            clear eS23
            clear hr1 hr2 hcG hcH hW0 hB1 hB2 hu1 hu2 hT hO2 hcells hmg
            go_wp2_with fail
            have hmc := hmc
            go_loopw [24, 25, 26, 196, 197, 198, 199, 200, 201, 202, 203, 204, 205, 206, 207, 208, 209, 210, 211, 212, 213, 214, 215, 216, 217, 218, 219, 220, 221, 222, 223, 224, 225, 226, 227, 228, 229] (fun x _ _ _ _ _ _ _ _ _ _ _ _ _ _ _ _ _ _ _ _ _ _ _ _ _ _ _ _ _ _ _ _ _ _ _ _ wr => ∃ s : Nat, x = .int .i64 s ∧ s ≤ 4 ∧ Hid (LvE w.heap.size N0 w wr X S G H g mg dX l V ls T))
              (fun x _ _ _ _ _ _ _ _ _ _ _ _ _ _ _ _ _ _ _ _ _ _ _ _ _ _ _ _ _ _ _ _ _ _ _ _ _ => 4 - (intOf x).toNat)
            case atStart => exact ⟨0, rfl, Nat.zero_le _, HW2⟩
            case round =>
              obtain ⟨s, rfl, hs4, HE⟩ := hrel
              by_cases hlt8 : s < 4
              · as_aux_lemma =>
                have hlt8' : (s : Int) < 4 := by omega
                have HMS8 := Lib.hid (show 4 - (s + 1) < 4 - s by omega)
                have hT41 := HT.out.2.1
                go_wp2_with fail
                go_loopw [25, 26, 200, 201, 202, 203, 204, 205, 206, 207, 208, 209, 210, 211, 212, 213, 214, 215, 216, 217, 218, 219, 220, 221, 222, 223, 224, 225, 226, 227] (fun b x _ _ _ _ _ _ _ _ _ _ _ _ _ _ _ _ _ _ _ _ _ _ _ _ _ _ _ _ wr => ∃ (n : Nat) (bb : Bool), x = .int .i64 n ∧ b = .bool bb ∧ n ≤ T.length ∧ Hid (LvE w.heap.size N0 w wr X S G H g mg dX l V ls T) ∧ Hid (Seen T s l n bb))
                  (fun _ x _ _ _ _ _ _ _ _ _ _ _ _ _ _ _ _ _ _ _ _ _ _ _ _ _ _ _ _ _ => T.length - (intOf x).toNat)
                case atStart => exact ⟨0, false, rfl, rfl, Nat.zero_le _, HE, Lib.hid (fun i hi => absurd hi (by omega))⟩
                case round =>
                  clear HE
                  obtain ⟨n, bb, rfl, rfl, hn10, HE, HS⟩ := hrel
                  by_cases hlt10 : n < T.length
                  · as_aux_lemma =>
                    have hlt10' : (n : Int) < (T.length : Int) := by omega
                    have HMS10 := Lib.hid (show T.length - (n + 1) < T.length - n by omega)
                    obtain ⟨x, hx⟩ : ∃ x, T[n]? = some x := ⟨_, List.getElem?_eq_getElem hlt10⟩
                    have hx5 := HE.out.drew.cells n x hx
                    have hcv := conv_sec HE.out.drew.page HLL.out.2 hlt8
                    obtain ⟨M, hM, hxM⟩ := HT.out.2.2 x (List.mem_of_getElem? hx)
                    obtain ⟨y, hy⟩ : ∃ y, x.extract (64 * s) (64 * s + 64) = y := ⟨_, rfl⟩
                    have hxs : x.size = 256 := by rw [hxM]; exact hM
                    have hsl : ∀ W, (Instr.sliceAt 9 (.string x) (some (.int .i64 ((64 * s : Nat) : Int))) (some (.int .i64 ((64 * s + 64 : Nat) : Int))) none).run Try.prog W = .ok (.string y) W := fun W => by
                      rw [← hy]; exact slice_str x (64 * s) (64 * s + 64) (by omega) (by omega) W
                    obtain ⟨qq, hq⟩ : ∃ q, (y.toList == (bs (sec l s)).toList) = q := ⟨_, rfl⟩
                    have HS' := Lib.hid (HS.out.step hx hy hq)
                    have HE' := Lib.hid HE.out.drew
                    obtain ⟨z, hz⟩ : ∃ z, bs (sec l s) = z := ⟨_, rfl⟩
                    rw [hz] at hcv hq
                    obtain ⟨W5, hW5⟩ : ∃ W, wr.drew = W := ⟨_, rfl⟩
                    rw [hW5] at hcv hx5 HE'
                    clear hx hy hxM hM hxs hz HS HE
                    go_wp2_with fail
                    refine wp_region_n (fun _ W => W = W5) (DlS g mg mc n s T.length bb qq x y z) (by kernel_rfl) (by kernel_rfl) (by kernel_rfl) (by kernel_rfl) hW5 ?step ?fin
                    case step =>
                      intro i o ho listed a w' hIn hn' hpre
                      have hI := hIn.toL
                      have hJ := hI.inv
                      have hi : i < 23 := (Array.getElem?_eq_some_iff.1 ho).1
                      match i, hi with
                      | 0, _ =>
                        cases ho
                        exact wpOp_move rfl rfl (.inl rfl) (hIn.later 22 (t := 25) (by kernel_rfl) (hI.notyet hn' 22 (by kernel_rfl))) ⟨_, rfl, hJ, fun _ => rfl, fun _ _ _ h => h⟩
                      | 1, _ =>
                        cases ho
                        exact wpOp_move rfl rfl (.inl rfl) (hI.slot 0 206 rfl (hpre ⟨0, .data⟩ (by simp) rfl) rfl) ⟨_, rfl, hJ, fun _ => rfl, fun _ _ _ h => h⟩
                      | 2, _ =>
                        cases ho
                        have eg := (hI.slot 1 207 rfl (hpre ⟨1, .guard⟩ (by simp) rfl) rfl)
                        by_cases hg : (bb) = false
                        case neg =>
                          exact wpOp_off rfl (wantedOff (j := 1) (b := false) (b' := bb) rfl rfl rfl (by rw [hI.len]; show _ < 246; decide) eg hg) ⟨_, rfl, hJ, fun _ h => absurd h hg, fun _ _ _ h => h⟩
                        exact wpOp_move rfl (wantedOf (j := 1) (b := false) rfl rfl rfl (by rw [hI.len]; show _ < 246; decide) (eg.trans (congrArg Value.bool hg))) (.inl rfl) (hI.kept (t := 23) (by kernel_rfl)) ⟨_, rfl, hJ, fun _ _ => rfl, fun _ _ _ h => h⟩
                      | 3, _ =>
                        cases ho
                        have eg := (hI.slot 1 207 rfl (hpre ⟨1, .guard⟩ (by simp) rfl) rfl)
                        by_cases hg : (bb) = false
                        case neg =>
                          exact wpOp_off rfl (wantedOff (j := 1) (b := false) (b' := bb) rfl rfl rfl (by rw [hI.len]; show _ < 246; decide) eg hg) ⟨_, rfl, hJ, fun _ h => absurd h hg, fun _ _ _ h => h⟩
                        exact wpOp_move rfl (wantedOf (j := 1) (b := false) rfl rfl rfl (by rw [hI.len]; show _ < 246; decide) (eg.trans (congrArg Value.bool hg))) (.inl rfl) (hI.kept (t := 26) (by kernel_rfl)) ⟨_, rfl, hJ, fun _ _ => rfl, fun _ _ _ h => h⟩
                      | 4, _ =>
                        cases ho
                        have eg := (hI.slot 1 207 rfl (hpre ⟨1, .guard⟩ (by simp) rfl) rfl)
                        by_cases hg : (bb) = false
                        case neg =>
                          exact wpOp_off rfl (wantedOff (j := 1) (b := false) (b' := bb) rfl rfl rfl (by rw [hI.len]; show _ < 246; decide) eg hg) ⟨_, rfl, hJ, fun _ h => absurd h hg, fun _ _ _ h => h⟩
                        exact wpOp_index rfl (wantedOf (j := 1) (b := false) rfl rfl rfl (by rw [hI.len]; show _ < 246; decide) (eg.trans (congrArg Value.bool hg))) rfl ((hI.slot 2 208 rfl (hpre ⟨2, .data⟩ (by simp) rfl) rfl) hg) ((hI.slot 3 209 rfl (hpre ⟨3, .data⟩ (by simp) rfl) rfl) hg) (by simpa using index_str w' mg 0 T.length mc n hlt10) ⟨_, rfl, hJ, fun _ _ => rfl, fun _ _ _ h => h⟩
                      | 5, _ =>
                        cases ho
                        have eg := (hI.slot 1 207 rfl (hpre ⟨1, .guard⟩ (by simp) rfl) rfl)
                        by_cases hg : (bb) = false
                        case neg =>
                          exact wpOp_off rfl (wantedOff (j := 1) (b := false) (b' := bb) rfl rfl rfl (by rw [hI.len]; show _ < 246; decide) eg hg) ⟨_, rfl, hJ, fun _ h => absurd h hg, fun _ _ _ h => h⟩
                        exact wpOp_load rfl (wantedOf (j := 1) (b := false) rfl rfl rfl (by rw [hI.len]; show _ < 246; decide) (eg.trans (congrArg Value.bool hg))) rfl ((hI.slot 4 210 rfl (hpre ⟨4, .data⟩ (by simp) rfl) rfl) hg) (load_cell (Try.isAgg9 w') (show w'.cell? _ = _ from by rw [hJ]; exact hx5)) ⟨_, rfl, hJ, fun _ _ => rfl, fun _ _ _ h => h⟩
                      | 6, _ =>
                        cases ho
                        have eg := (hI.slot 1 207 rfl (hpre ⟨1, .guard⟩ (by simp) rfl) rfl)
                        by_cases hg : (bb) = false
                        case neg =>
                          exact wpOp_off rfl (wantedOff (j := 1) (b := false) (b' := bb) rfl rfl rfl (by rw [hI.len]; show _ < 246; decide) eg hg) ⟨_, rfl, hJ, fun _ h => absurd h hg, fun _ _ _ h => h⟩
                        exact wpOp_move rfl (wantedOf (j := 1) (b := false) rfl rfl rfl (by rw [hI.len]; show _ < 246; decide) (eg.trans (congrArg Value.bool hg))) (.inl rfl) (hI.kept (t := 24) (by kernel_rfl)) ⟨_, rfl, hJ, fun _ _ => rfl, fun _ _ _ h => h⟩
                      | 7, _ =>
                        cases ho
                        have eg := (hI.slot 1 207 rfl (hpre ⟨1, .guard⟩ (by simp) rfl) rfl)
                        by_cases hg : (bb) = false
                        case neg =>
                          exact wpOp_off rfl (wantedOff (j := 1) (b := false) (b' := bb) rfl rfl rfl (by rw [hI.len]; show _ < 246; decide) eg hg) ⟨_, rfl, hJ, fun _ h => absurd h hg, fun _ _ _ h => h⟩
                        exact wpOp_bin rfl (wantedOf (j := 1) (b := false) rfl rfl rfl (by rw [hI.len]; show _ < 246; decide) (eg.trans (congrArg Value.bool hg))) rfl rfl ((hI.slot 6 212 rfl (hpre ⟨6, .data⟩ (by simp) rfl) rfl) hg) (by simp [go_sem]) (mul64 s hlt8 w') ⟨_, rfl, hJ, fun _ _ => rfl, fun _ _ _ h => h⟩
                      | 8, _ =>
                        cases ho
                        have eg := (hI.slot 1 207 rfl (hpre ⟨1, .guard⟩ (by simp) rfl) rfl)
                        by_cases hg : (bb) = false
                        case neg =>
                          exact wpOp_off rfl (wantedOff (j := 1) (b := false) (b' := bb) rfl rfl rfl (by rw [hI.len]; show _ < 246; decide) eg hg) ⟨_, rfl, hJ, fun _ h => absurd h hg, fun _ _ _ h => h⟩
                        exact wpOp_move rfl (wantedOf (j := 1) (b := false) rfl rfl rfl (by rw [hI.len]; show _ < 246; decide) (eg.trans (congrArg Value.bool hg))) (.inl rfl) (hI.kept (t := 24) (by kernel_rfl)) ⟨_, rfl, hJ, fun _ _ => rfl, fun _ _ _ h => h⟩
                      | 9, _ =>
                        cases ho
                        have eg := (hI.slot 1 207 rfl (hpre ⟨1, .guard⟩ (by simp) rfl) rfl)
                        by_cases hg : (bb) = false
                        case neg =>
                          exact wpOp_off rfl (wantedOff (j := 1) (b := false) (b' := bb) rfl rfl rfl (by rw [hI.len]; show _ < 246; decide) eg hg) ⟨_, rfl, hJ, fun _ h => absurd h hg, fun _ _ _ h => h⟩
                        exact wpOp_bin rfl (wantedOf (j := 1) (b := false) rfl rfl rfl (by rw [hI.len]; show _ < 246; decide) (eg.trans (congrArg Value.bool hg))) rfl rfl ((hI.slot 8 214 rfl (hpre ⟨8, .data⟩ (by simp) rfl) rfl) hg) (by simp [go_sem]) (mul64 s hlt8 w') ⟨_, rfl, hJ, fun _ _ => rfl, fun _ _ _ h => h⟩
                      | 10, _ =>
                        cases ho
                        have eg := (hI.slot 1 207 rfl (hpre ⟨1, .guard⟩ (by simp) rfl) rfl)
                        by_cases hg : (bb) = false
                        case neg =>
                          exact wpOp_off rfl (wantedOff (j := 1) (b := false) (b' := bb) rfl rfl rfl (by rw [hI.len]; show _ < 246; decide) eg hg) ⟨_, rfl, hJ, fun _ h => absurd h hg, fun _ _ _ h => h⟩
                        exact wpOp_bin rfl (wantedOf (j := 1) (b := false) rfl rfl rfl (by rw [hI.len]; show _ < 246; decide) (eg.trans (congrArg Value.bool hg))) rfl ((hI.slot 9 215 rfl (hpre ⟨9, .data⟩ (by simp) rfl) rfl) hg) rfl (by simp [go_sem]) (add64 s hlt8 w') ⟨_, rfl, hJ, fun _ _ => rfl, fun _ _ _ h => h⟩
                      | 11, _ =>
                        cases ho
                        have eg := (hI.slot 1 207 rfl (hpre ⟨1, .guard⟩ (by simp) rfl) rfl)
                        by_cases hg : (bb) = false
                        case neg =>
                          exact wpOp_off rfl (wantedOff (j := 1) (b := false) (b' := bb) rfl rfl rfl (by rw [hI.len]; show _ < 246; decide) eg hg) ⟨_, rfl, hJ, fun _ h => absurd h hg, fun _ _ _ h => h⟩
                        exact wpOp_slice rfl (wantedOf (j := 1) (b := false) rfl rfl rfl (by rw [hI.len]; show _ < 246; decide) (eg.trans (congrArg Value.bool hg))) rfl ((hI.slot 5 211 rfl (hpre ⟨5, .data⟩ (by simp) rfl) rfl) hg) (congrArg some ((hI.slot 7 213 rfl (hpre ⟨7, .data⟩ (by simp) rfl) rfl) hg)) (congrArg some ((hI.slot 10 216 rfl (hpre ⟨10, .data⟩ (by simp) rfl) rfl) hg)) rfl (hsl w') ⟨_, rfl, hJ, fun _ _ => rfl, fun _ _ _ h => h⟩
                      | 12, _ =>
                        cases ho
                        have eg := (hI.slot 1 207 rfl (hpre ⟨1, .guard⟩ (by simp) rfl) rfl)
                        by_cases hg : (bb) = false
                        case neg =>
                          exact wpOp_off rfl (wantedOff (j := 1) (b := false) (b' := bb) rfl rfl rfl (by rw [hI.len]; show _ < 246; decide) eg hg) ⟨_, rfl, hJ, fun _ h => absurd h hg, fun _ _ _ h => h⟩
                        exact wpOp_move rfl (wantedOf (j := 1) (b := false) rfl rfl rfl (by rw [hI.len]; show _ < 246; decide) (eg.trans (congrArg Value.bool hg))) (.inl rfl) (hI.kept (t := 21) (by kernel_rfl)) ⟨_, rfl, hJ, fun _ _ => rfl, fun _ _ _ h => h⟩
                      | 13, _ =>
                        cases ho
                        have eg := (hI.slot 1 207 rfl (hpre ⟨1, .guard⟩ (by simp) rfl) rfl)
                        by_cases hg : (bb) = false
                        case neg =>
                          exact wpOp_off rfl (wantedOff (j := 1) (b := false) (b' := bb) rfl rfl rfl (by rw [hI.len]; show _ < 246; decide) eg hg) ⟨_, rfl, hJ, fun _ h => absurd h hg, fun _ _ _ h => h⟩
                        exact wpOp_move rfl (wantedOf (j := 1) (b := false) rfl rfl rfl (by rw [hI.len]; show _ < 246; decide) (eg.trans (congrArg Value.bool hg))) (.inl rfl) (hI.kept (t := 24) (by kernel_rfl)) ⟨_, rfl, hJ, fun _ _ => rfl, fun _ _ _ h => h⟩
                      | 14, _ =>
                        cases ho
                        have eg := (hI.slot 1 207 rfl (hpre ⟨1, .guard⟩ (by simp) rfl) rfl)
                        by_cases hg : (bb) = false
                        case neg =>
                          exact wpOp_off rfl (wantedOff (j := 1) (b := false) (b' := bb) rfl rfl rfl (by rw [hI.len]; show _ < 246; decide) eg hg) ⟨_, rfl, hJ, fun _ h => absurd h hg, fun _ _ _ h => h⟩
                        exact wpOp_bin rfl (wantedOf (j := 1) (b := false) rfl rfl rfl (by rw [hI.len]; show _ < 246; decide) (eg.trans (congrArg Value.bool hg))) rfl rfl ((hI.slot 13 219 rfl (hpre ⟨13, .data⟩ (by simp) rfl) rfl) hg) (by simp [go_sem]) (mul64 s hlt8 w') ⟨_, rfl, hJ, fun _ _ => rfl, fun _ _ _ h => h⟩
                      | 15, _ =>
                        cases ho
                        have eg := (hI.slot 1 207 rfl (hpre ⟨1, .guard⟩ (by simp) rfl) rfl)
                        by_cases hg : (bb) = false
                        case neg =>
                          exact wpOp_off rfl (wantedOff (j := 1) (b := false) (b' := bb) rfl rfl rfl (by rw [hI.len]; show _ < 246; decide) eg hg) ⟨_, rfl, hJ, fun _ h => absurd h hg, fun _ _ _ h => h⟩
                        exact wpOp_move rfl (wantedOf (j := 1) (b := false) rfl rfl rfl (by rw [hI.len]; show _ < 246; decide) (eg.trans (congrArg Value.bool hg))) (.inl rfl) (hI.kept (t := 24) (by kernel_rfl)) ⟨_, rfl, hJ, fun _ _ => rfl, fun _ _ _ h => h⟩
                      | 16, _ =>
                        cases ho
                        have eg := (hI.slot 1 207 rfl (hpre ⟨1, .guard⟩ (by simp) rfl) rfl)
                        by_cases hg : (bb) = false
                        case neg =>
                          exact wpOp_off rfl (wantedOff (j := 1) (b := false) (b' := bb) rfl rfl rfl (by rw [hI.len]; show _ < 246; decide) eg hg) ⟨_, rfl, hJ, fun _ h => absurd h hg, fun _ _ _ h => h⟩
                        exact wpOp_bin rfl (wantedOf (j := 1) (b := false) rfl rfl rfl (by rw [hI.len]; show _ < 246; decide) (eg.trans (congrArg Value.bool hg))) rfl rfl ((hI.slot 15 221 rfl (hpre ⟨15, .data⟩ (by simp) rfl) rfl) hg) (by simp [go_sem]) (mul64 s hlt8 w') ⟨_, rfl, hJ, fun _ _ => rfl, fun _ _ _ h => h⟩
                      | 17, _ =>
                        cases ho
                        have eg := (hI.slot 1 207 rfl (hpre ⟨1, .guard⟩ (by simp) rfl) rfl)
                        by_cases hg : (bb) = false
                        case neg =>
                          exact wpOp_off rfl (wantedOff (j := 1) (b := false) (b' := bb) rfl rfl rfl (by rw [hI.len]; show _ < 246; decide) eg hg) ⟨_, rfl, hJ, fun _ h => absurd h hg, fun _ _ _ h => h⟩
                        exact wpOp_bin rfl (wantedOf (j := 1) (b := false) rfl rfl rfl (by rw [hI.len]; show _ < 246; decide) (eg.trans (congrArg Value.bool hg))) rfl ((hI.slot 16 222 rfl (hpre ⟨16, .data⟩ (by simp) rfl) rfl) hg) rfl (by simp [go_sem]) (add64 s hlt8 w') ⟨_, rfl, hJ, fun _ _ => rfl, fun _ _ _ h => h⟩
                      | 18, _ =>
                        cases ho
                        have eg := (hI.slot 1 207 rfl (hpre ⟨1, .guard⟩ (by simp) rfl) rfl)
                        by_cases hg : (bb) = false
                        case neg =>
                          exact wpOp_off rfl (wantedOff (j := 1) (b := false) (b' := bb) rfl rfl rfl (by rw [hI.len]; show _ < 246; decide) eg hg) ⟨_, rfl, hJ, fun _ h => absurd h hg, fun _ _ _ h => h⟩
                        exact wpOp_slice rfl (wantedOf (j := 1) (b := false) rfl rfl rfl (by rw [hI.len]; show _ < 246; decide) (eg.trans (congrArg Value.bool hg))) rfl ((hI.slot 12 218 rfl (hpre ⟨12, .data⟩ (by simp) rfl) rfl) hg) (congrArg some ((hI.slot 14 220 rfl (hpre ⟨14, .data⟩ (by simp) rfl) rfl) hg)) (congrArg some ((hI.slot 17 223 rfl (hpre ⟨17, .data⟩ (by simp) rfl) rfl) hg)) rfl (slice_page w' g (64 * s) (by omega)) ⟨_, rfl, hJ, fun _ _ => rfl, fun _ _ _ h => h⟩
                      | 19, _ =>
                        cases ho
                        have eg := (hI.slot 1 207 rfl (hpre ⟨1, .guard⟩ (by simp) rfl) rfl)
                        by_cases hg : (bb) = false
                        case neg =>
                          exact wpOp_off rfl (wantedOff (j := 1) (b := false) (b' := bb) rfl rfl rfl (by rw [hI.len]; show _ < 246; decide) eg hg) ⟨_, rfl, hJ, fun _ h => absurd h hg, fun _ _ _ h => h⟩
                        have e5 : w' = W5 := hJ
                        exact wpOp_conv rfl (wantedOf (j := 1) (b := false) rfl rfl rfl (by rw [hI.len]; show _ < 246; decide) (eg.trans (congrArg Value.bool hg))) rfl ((hI.slot 18 224 rfl (hpre ⟨18, .data⟩ (by simp) rfl) rfl) hg) (by rw [e5]; exact hcv) ⟨_, rfl, hJ, fun _ _ => rfl, fun _ _ _ h => h⟩
                      | 20, _ =>
                        cases ho
                        have eg := (hI.slot 1 207 rfl (hpre ⟨1, .guard⟩ (by simp) rfl) rfl)
                        by_cases hg : (bb) = false
                        case neg =>
                          exact wpOp_off rfl (wantedOff (j := 1) (b := false) (b' := bb) rfl rfl rfl (by rw [hI.len]; show _ < 246; decide) eg hg) ⟨_, rfl, hJ, fun _ h => absurd h hg, fun _ _ _ h => h⟩
                        exact wpOp_bin rfl (wantedOf (j := 1) (b := false) rfl rfl rfl (by rw [hI.len]; show _ < 246; decide) (eg.trans (congrArg Value.bool hg))) rfl ((hI.slot 11 217 rfl (hpre ⟨11, .data⟩ (by simp) rfl) rfl) hg) ((hI.slot 19 225 rfl (hpre ⟨19, .data⟩ (by simp) rfl) rfl) hg) (by simp [go_sem]) (by rw [← hq]; simp [go_sem]) ⟨_, rfl, hJ, fun _ _ => rfl, fun _ _ _ h => h⟩
                      | 21, _ =>
                        cases ho
                        exact wpOp_pick3 (v := .bool true) (u := .bool (qq)) rfl rfl rfl (hI.slot 1 207 rfl (hpre ⟨1, .data⟩ (by simp) rfl) rfl) (fun h => rfl) (fun h => ((hI.slot 20 226 rfl (hpre ⟨20, .data⟩ (by simp) rfl) rfl) h)) ⟨_, rfl, hJ, fun _ => pick_or (bb) (qq), fun _ _ _ h => h⟩
                      | 22, _ =>
                        cases ho
                        exact wpOp_move rfl rfl (.inr rfl) (hI.slot 21 227 rfl (hpre ⟨21, .data⟩ (by simp) rfl) rfl) ⟨_, rfl, hJ, fun _ => rfl, fun _ _ _ h => h⟩
                    case fin =>
                      intro listed a w' hIn hall
                      have hI := hIn.toL
                      clear hIn
                      have hJ := hI.inv
                      have eS25 : a.tmps.getD 25 undef = .bool (bb || qq) := hI.slot 22 25 rfl (hall 22 (by decide)) rfl
                      obtain ⟨vs, us, hvl, hul, hvs, hus, e⟩ := hI.frame2 25 1 206 22 (by decide) (Nat.le_of_ble_eq_true (by kernel_rfl)) (by kernel_rfl)
                      have vS25 := hvs 0 (by decide)
                      clear hI hall hvs hus
                      match vs, us, hvl, hul with
                      | [x0], [y0, y1, y2, y3, y4, y5, y6, y7, y8, y9, y10, y11, y12, y13, y14, y15, y16, y17, y18, y19, y20, y21], _, _ =>
                      simp only [List.getElem?_cons_zero, Option.some.injEq] at vS25
                      rw [show 25 + 0 = 25 from rfl, eS25] at vS25
                      subst vS25
                      simp only [List.take_succ_cons, List.take_zero, List.drop_succ_cons, List.drop_zero, List.cons_append, List.nil_append, Nat.reduceAdd, Nat.reduceSub] at e
                      subst e
                      clear eS25
                      clear hx5 hcv hsl hq hW5
                      obtain ⟨b2, hb2⟩ : ∃ b2, (bb || qq) = b2 := ⟨_, rfl⟩
                      rw [hb2] at HS' ⊢
                      clear hb2
                      go_wp2_with fail
                      exact ⟨⟨n + 1, b2, rfl, rfl, hlt10, HE', HS'⟩, HMS10.out⟩
                  · as_aux_lemma =>
                    obtain rfl : n = T.length := by omega
                    obtain rfl : bb = true := by
                      obtain ⟨x, hx, M, hM, hxM, hsec⟩ := HT.out.1 s hlt8
                      obtain ⟨i, hi⟩ := List.getElem?_of_mem hx
                      refine HS.out i (List.getElem?_eq_some_iff.1 hi).1 x hi ?_
                      rw [hxM, extract_pg, hsec]
                    have hnn : ¬ (T.length : Int) < (T.length : Int) := by omega
                    go_wp2_with fail
                    exact ⟨⟨s + 1, rfl, hlt8, HE⟩, HMS8.out⟩
              · as_aux_lemma =>
                obtain rfl : s = 4 := by omega
                go_wp2_with fail
                exact ⟨⟨k + 1, rfl, hlt6, Lib.hid ⟨HE.out.disk, HE.out.racks, HE.out.below⟩⟩, HMS.out⟩
        · as_aux_lemma =>
          obtain rfl : k = m := by omega
          have hkk : ¬ (k : Int) < (k : Int) := by omega
          have hcr2 := crash_disk HC.out.1 picks ((HPV.out.below HC.out.2.2 (Nat.le_refl _)).mono HC.out.2.2.size) (by rw [HFd.out.2.2.2.1]; decide)
          rw [HFd.out.2.2.2.2.1] at hcr2
          have HCr := Lib.hid hcr2
          clear hcr2
          go_wp2_with fail
          refine HCr.out.mono ?_
          rintro e w7 ⟨Y, rfl, hY, hb7⟩
          have HSm := Lib.hid (same_disks hY (HC.out.1.below hb7) (by rw [HFd.out.2.2.2.1]; decide))
          have HB7 := Lib.hid (HC.out.2.2.trans (hb7.mono HC.out.2.2.size))
          clear hY hb7
          go_wp2_with fail
          refine HSm.out.mono ?_
          rintro e w8 ⟨r, rfl, hr, hb8⟩
          obtain rfl : r = true := hr.2 (by first | exact Dsk.like_refl _ | rfl | simp [Dsk.like] | trace_state)
          have HB8 := Lib.hid (HB7.out.trans (hb8.mono HB7.out.size))
          clear hr hb8
          go_wp2_with fail
          refine (HK.out _).mono ?_
          rintro e w9 ⟨rfl, hb9⟩
          go_wp2_with fail
          go_ret
          exact ⟨rfl, HB8.out.trans (hb9.mono HB8.out.size)⟩
end Go.Proofs.Ytkophpipehdkmaa
/- DiskLeaves: for every room, every run of calls and every run of picks the statement that each sector which a crash leaves lasted or was written answers true, and its arguments read afterwards as they did. No condition. -/
namespace Go.Proofs.Ytkophpipehdkmaa.diskLeaves
open Go.ChangeShapes Go.WideShapes Go.ChangeAt Go.RowKit

section
variable {H : Type} {enc : TypeId × Value → H} {P : Program}
open Go.Deep in
theorem open_introw {t e : TypeId} {base : Nat} {W : World} {v : Value} {d : DataW H} {ps : List MemPlace} (ht : P.underlying t = some (.slice e)) (he : P.underlying e = some (.int .i64)) (hc : P.cellsOf e = 1)
    (hok : Value.okWide P W .any base t v) (h : DataW.Trod enc P W 0 (fun _ => true) true t v d ps) :
    ∃ a l cap, v = .slice a (l : List Int).length cap ∧ l.length ≤ cap ∧ cap ≤ maxLen ∧ (l ≠ [] → ∃ b off, a = some ⟨b, off, none⟩ ∧ b < W.heap.size ∧ ∀ j, j < l.length → W.cell? ⟨b, off + j, none⟩ = some (.int .i64 (l[j]?.getD 0))) := by
  obtain ⟨a0, len, cap, rfl⟩ := okWide_slice ht hok
  obtain ⟨fuel, hf⟩ := h
  rcases open_ints ht he hc hf with ⟨hcs, hx⟩ | ⟨a, len', cap', zs, hcs, _, hl, hm, hz, hx, hcell, hwz⟩
  · simp [Value.cells] at hcs
    obtain ⟨rfl, rfl, rfl⟩ := hcs
    exact ⟨none, [], 0, rfl, Nat.le_refl _, Nat.zero_le _, fun h => absurd rfl h⟩
  · simp [Value.cells] at hcs
    obtain ⟨rfl, rfl, rfl⟩ := hcs
    simp only [if_true] at hz
    refine ⟨some a, zs.take len, cap, ?_, ?_, hm, ?_⟩
    · simp; omega
    · simp; omega
    · intro hne
      have hlen : 0 < len := by
        rcases Nat.eq_zero_or_pos len with h0 | h0
        · subst h0; simp at hne
        · exact h0
      obtain ⟨b, off, spot⟩ := a
      have hspot : spot = none := by simpa [Addr.add] using World.cell?_spot (hcell 0 (by omega))
      subst hspot
      refine ⟨b, off, rfl, ?_, fun j hj => ?_⟩
      · have := cell_lt (hcell 0 (by omega)); simpa [Addr.add] using this
      · have hj1 : j < len ∧ j < zs.length := by simp at hj; omega
        have h1 := hcell j (by omega)
        have e3 : (⟨b, off, none⟩ : Addr).add j = ⟨b, off + j, none⟩ := addr_add b off j
        rw [List.getElem?_take, if_pos hj1.1, ← e3, h1]
        simp [List.getD]
end
theorem own : ownKnob Try.prog.godebug = none := by kernel_rfl
theorem laidOut : laidOutB Try.prog = true := by kernel_rfl
theorem cellsU8 : Try.prog.cellsOf 5 = 1 := by kernel_rfl
theorem types_ok : ∀ t ∈ [3, 22, 23], Try.prog.readableRec t = true ∧ t < Try.prog.types.size := by
  intro t ht
  have h : ([3, 22, 23].all fun t => Try.prog.readableRec t && decide (t < Try.prog.types.size)) = true := by kernel_rfl
  have := List.all_eq_true.1 h t ht
  simpa using this
noncomputable def laidWorld (os : Os) : World := World.holding Try.prog os ⟨#[], #[], []⟩
theorem laid_met (os : Os) : laidMet Try.prog Rows.diskLeavesRow.laid ((laidWorld os).forCall (fun _ _ => 0) ⟨#[], #[.int .i64 0, .slice none 0 0, .slice none 0 0], []⟩).memory :=
  ⟨[], by first | exact .nil | trivial | rfl, List.nodup_nil, fun _ _ h => by cases h⟩
theorem reads (os : Os) {H : Type} (enc : TypeId × Value → H) : ∃ places, DataW.whole enc Try.prog ((laidWorld os).forCall (fun _ _ => 0) ⟨#[], #[.int .i64 0, .slice none 0 0, .slice none 0 0], []⟩).memory Try.f3.params.toList Rows.diskLeavesSpec.vars false #[.int .i64 0, .slice none 0 0, .slice none 0 0].toList 8 = some ([.lit (.int .i64 0), .nil, .nil], [], places) :=
  ⟨[], by kernel_rfl⟩

set_option maxRecDepth 100000 in
theorem contract (H : Type) (enc : TypeId × Value → H) (W : World) (base : Nat) (args : Array Value) (ds gs : List (DataW H)) (before : List MemPlace)
    (hval : ∀ (j : Nat) t v, Try.f3.params[j]? = some t → args[j]? = some v → Value.okWide Try.prog W .any base t v)
    (hW : DataW.Whole enc Try.prog Try.f3.params.toList Rows.diskLeavesSpec.vars false W args.toList ds gs before) :
    Calls Try.prog 3 args W fun e W' => ∃ v, e = .returned v ∧ Rows.diskLeavesSpec.post enc Try.prog Try.f3 false true false false W args v W' := by
  have hW' := hW
  obtain ⟨p, q, hA0, hV, rfl, hfz, hnd⟩ := hW
  have hA : DataW.TrodAll enc Try.prog W 0 (fun _ => true) true Try.f3.params.toList args.toList ds p := hA0
  rw [Try.params3] at hA hval
  obtain ⟨v0, vs0, d0, ds0, p0, q0, hargs, rfl, rfl, h0, r0⟩ := trodAll_cons hA
  obtain ⟨v1, vs1, d1, ds1, p1, q1, rfl, rfl, rfl, h1, r1⟩ := trodAll_cons r0
  obtain ⟨v2, vs2, d2, ds2, p2, q2, rfl, rfl, rfl, h2, r2⟩ := trodAll_cons r1
  obtain ⟨rfl, rfl, rfl⟩ := trodAll_nil r2
  obtain rfl : args = #[v0, v1, v2] := by cases args; simp_all
  obtain ⟨rfl, rfl⟩ := trodVars_none hV
  obtain ⟨n, rfl, -, -, -⟩ := open_int Try.underlying3 (hval 0 3 v0 rfl rfl) h0
  obtain ⟨aa, L, ac, rfl, hL, hLm, hAc⟩ := open_acts (hval 1 22 v1 rfl rfl) h1
  obtain ⟨fa, fl, fc, rfl, hfl, hfm, hI⟩ := open_introw Try.underlying23 Try.underlying3 (by kernel_rfl) (hval 2 23 v2 rfl rfl) h2
  unfold maxLen at hfm hLm
  have hP : PickV W W.heap.size (.slice fa fl.length fc) fl := ⟨fa, fc, rfl, hfl, fun hne => by
    obtain ⟨b, off, e, hlt, hc⟩ := hI hne
    refine ⟨b, off, e, hlt, fun i x hx => ?_⟩
    rw [hc i (List.getElem?_eq_some_iff.1 hx).1, hx]; rfl⟩
  refine (diskLeaves_any n aa L ac (.slice fa fl.length fc) fl W (by omega) hP hAc (by omega)).mono fun e W' ⟨he, hb⟩ => ?_
  subst he
  exact ⟨_, rfl, law_post laidOut (fun t ht => types_ok t (by rw [Try.params3] at ht; revert ht; decide +revert)) rfl hW' rfl rfl rfl Try.underlying4 (by kernel_rfl) hb⟩

set_option maxRecDepth 100000 in
theorem lifted (os : Os) (started : os.Started) (H : Type) (enc : TypeId × Value → H) (F : Stop.Interp) :
    ReturnsInHanded {} Try.checked os 3 .any ((OpenSpec.ofChange Rows.diskLeavesSpec).preRow enc Try.prog Try.f3 Rows.diskLeavesRow.domain false Rows.diskLeavesRow.laid) (((OpenSpec.ofChange Rows.diskLeavesSpec).at F).post enc Try.prog Try.f3 false true false false) := by
  obtain ⟨places, hx⟩ := reads os enc
  refine returnsInHanded_of_row (C := Try.checked) (s := OpenSpec.ofChange Rows.diskLeavesSpec) own started (by kernel_rfl) Try.func3
    (witness_row_at (enc := enc) (C := Try.checked) false (laidWorld os) #[.int .i64 0, .slice none 0 0, .slice none 0 0] rfl (by kernel_rfl) (by kernel_rfl) (by kernel_rfl)
      (OpenSpec.preRow_of_cond 8 hx (by kernel_rfl) (fun k hk => by cases hk) (by kernel_rfl) (laid_met os))) ?_
  intro W base args ds gs before hval hW _ _ _ _ _ _
  exact contract H enc W base args ds gs before hval hW

theorem said : Rows.DiskLeavesSaid :=
  OpenClaim.holds_of_cond 3 Try.f3 rfl rfl rfl rfl rfl rfl rfl ⟨rfl, rfl, rfl, rfl, rfl⟩ rfl rfl rfl rfl rfl (by kernel_rfl) Try.func3 (by kernel_rfl)
    (of_decide_eq_true (by kernel_rfl)) (by unfold Func.isWrapper; first | (rw [if_pos (by decide +kernel)]; kernel_rfl) | (rw [if_neg (by decide +kernel)]; exact ⟨rfl, rfl⟩))
    (fun os started H enc _ F => by rw [OpenClaim.pre_eq_preRow]; exact lifted os started H enc F)

end Go.Proofs.Ytkophpipehdkmaa.diskLeaves
