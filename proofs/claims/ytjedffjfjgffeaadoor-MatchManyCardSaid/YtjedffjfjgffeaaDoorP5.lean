/- Texts of the proof in one file, in build order: MatFF, MatMn, MatMany, ManyLaid, MatchManyCard. -/
import Derived.Test.YtjedffjfjgffeaaDoorP4
import Derived.Lib.MinMax
import Derived.Test.YtjedffjfjgffeaaDoorCards
import Derived.Test.YtjedffjfjgffeaaDoorTie
import Derived.ProofKit
import Derived.OpenShut
import Derived.ChangeArms
import Derived.Deep.DeepHandedRow
import Derived.Lib.LaidTab
import Derived.ChangeMaps5
import Derived.Lib.SmallJoins
import Derived.Test.YtjedffjfjgffeaaDoorKit
import Derived.Test.YtjedffjfjgffeaaDoorUtfI
/- Layer 14: the law's known. -/
namespace Go.Proofs.YtjedffjfjgffeaaDoor
open Go.RowKit Go.MapKept Go.ChangeMaps Go.Maps

/-- A book that is all new since w. -/
structure Fresh (w : World) (Bk : Nat) (g : List Sb) (t : Tr) (W : World) : Prop where
  book : BookAt W Bk g t
  new : ∀ k, BkF Bk t k → w.heap.size ≤ k
  low : Below w.heap.size w W
section
variable {w W W' : World} {Bk : Nat} {g g' : List Sb} {t t' : Tr}
theorem Fresh.below (h : Fresh w Bk g t W) (hb : Below W.heap.size W W') : Fresh w Bk g t W' := ⟨h.book.below hb, h.new, h.low.trans (hb.mono h.low.size)⟩
theorem Fresh.lay (h : Fresh w Bk g t W) (hl : LayTree W Bk g' t t' W') : Fresh w Bk g' t' W' :=
  ⟨hl.book, fun k hk => (hl.foot k hk).elim (h.new k) (Nat.le_trans h.low.size), h.low.trans (hl.kp.below h.low.size h.new)⟩
theorem Fresh.tabs (h : Fresh w Bk g t W) (ht : Tabs w) : Tabs W := ht.below h.low ht.two
theorem set_fresh (h : Fresh w Bk g t W) (ht : Tabs w) (f c : List UInt8) (q : Int) (hf : f.length ≤ 1000) (hc : c.length ≤ 1000) {r : Bool} {no : Nat} (hs : setP g f c q = (g', r, no)) :
    Calls Tryd.prog 6 #[.pointer (some ⟨Bk, 0, none⟩), .agg #[.string (str f), .string (str c), .int .i64 q]] W fun e W' => e = .returned (.tuple #[.bool r, .int .i64 (no : Int)]) ∧ ∃ t', Fresh w Bk g' t' W' := by
  have h1 := set_any h.book (h.tabs ht) (str f) (str c) (by have : (str f).size = f.length := rfl; omega) (by have : (str c).size = c.length := rfl; omega) q
  rw [str_toList, str_toList, hs] at h1
  refine h1.mono ?_
  rintro e W' ⟨rfl, t', hl⟩
  exact ⟨rfl, t', h.lay hl⟩
theorem drop_fresh (h : Fresh w Bk g t W) (ht : Tabs w) (f c : List UInt8) (hf : f.length ≤ 1000) (hc : c.length ≤ 1000) {r : Bool} {no : Nat} (hs : dropP g f c = (g', r, no)) :
    Calls Tryd.prog 10 #[.pointer (some ⟨Bk, 0, none⟩), .string (str f), .string (str c)] W fun e W' => e = .returned (.tuple #[.bool r, .int .i64 (no : Int)]) ∧ (∃ t', Fresh w Bk g' t' W') ∧ ∀ k, k < W.heap.size → ¬ BkF Bk t k → W'.heap[k]? = W.heap[k]? := by
  have h1 := bdrop_any h.book (h.tabs ht) (str f) (str c) (by have : (str f).size = f.length := rfl; omega) (by have : (str c).size = c.length := rfl; omega)
  rw [str_toList, str_toList, hs] at h1
  refine h1.mono ?_
  rintro e W' ⟨rfl, t', hl⟩
  exact ⟨rfl, ⟨t', h.lay hl⟩, hl.kp.block⟩
/-- The beginnings of entries' levels. -/
def begs (g : List Sb) : List Pth := g.flatMap fun s => (List.range ((lv s.f).length + 1)).map fun i => (lv s.f).take i
theorem under_beg {g : List Sb} {s : Sb} (hs : s ∈ g) {q : Pth} (hu : under q s = true) : q ∈ begs g := by
  unfold under at hu
  have hpre : q <+: lv s.f := by simpa using hu
  exact List.mem_flatMap.2 ⟨s, hs, List.mem_map.2 ⟨q.length, by rw [List.mem_range]; have := List.IsPrefix.length_le hpre; omega, (List.prefix_iff_eq_take.1 hpre).symm⟩⟩
theorem nodes_len (h : BookAt W Bk g t) {ps K : List Pth} (hn : ps.Nodup) (hp : ∀ q, q ∈ ps ↔ (t q).isSome = true) (hK : K.Nodup) (h0 : [] ∈ K) (h1 : ∀ q ∈ begs g, q ∈ K) (h2 : ∀ q ∈ K, q = [] ∨ ∃ s ∈ g, under q s = true) : ps.length = K.length := by
  refine Nat.le_antisymm (nodup_le ps K hn fun q hq => ?_) (nodup_le K ps hK fun q hq => (hp q).2 ((h.dom q).2 (h2 q hq)))
  rcases (h.dom q).1 ((hp q).1 hq) with rfl | ⟨s, hs, hu⟩
  · exact h0
  · exact h1 q (under_beg hs hu)
theorem nodes_fresh (h : Fresh w Bk g t W) (K : List Pth) (hK : K.Nodup) (h0 : [] ∈ K) (h1 : ∀ q ∈ begs g, q ∈ K) (h2 : ∀ q ∈ K, q = [] ∨ ∃ s ∈ g, under q s = true) :
    Calls Tryd.prog 9 #[.pointer (some ⟨Bk, 0, none⟩)] W fun e W' => e = .returned (.int .i64 ((K.length : Int) - 1)) ∧ Fresh w Bk g t W' ∧ Below W.heap.size W W' := by
  refine (nodes_any h.book).mono ?_
  rintro e W' ⟨ps, ⟨hn, hp⟩, rfl, hb⟩
  exact ⟨by rw [nodes_len h.book hn hp hK h0 h1 h2], h.below hb, hb⟩
end
/-- Keys in order. -/
theorem sort_of {ks K : List Txt} (hp : ks.Perm K) (hK : K.Pairwise (· < ·)) : (ks.mergeSort fun x y => decide (x ≤ y)) = K := by
  have e : (fun x y : Txt => decide (x ≤ y)) = Go.leB := rfl
  rw [e, Go.mergeSort_of_perm hp]
  exact List.mergeSort_of_pairwise (hK.imp fun h => by simp only [Go.leB, decide_eq_true_eq]; exact List.le_of_lt h)
theorem setP_ok {g : List Sb} {f c : List UInt8} {q : Int} (h : subE f c q = 0) (h2 : (!hasK (entry f c q) g && decide (g.length = 4096)) = false) : setP g f c q = (insG (entry f c q) g, !hasK (entry f c q) g, 0) := by
  unfold setP
  rw [if_neg (by rw [h]; decide), if_neg (by rw [h2]; decide)]
theorem dropP_ok {g : List Sb} {f c : List UInt8} (h : subE f c 0 = 0) : dropP g f c = (delG (entry f c 0) g, hasK (entry f c 0) g, 0) := by
  unfold dropP
  rw [if_neg (by rw [h]; decide)]
theorem subE_c {f c : List UInt8} {q : Int} (hf : filtL f = true) (hc : cliL c = true) (h0 : 0 ≤ q) (h2 : q ≤ 2) : subE f c q = 0 := by
  unfold subE
  rw [hf, hc]
  exact subZ_no (by omega) (by omega)
def sbA : Sb := ⟨[97, 47, 43], [120], 1⟩
def sbB : Sb := ⟨[97, 47, 35], [120], 2⟩
def sbC : Sb := ⟨[35], [121], 0⟩
theorem knA : setP [] [97, 47, 43] [120] 1 = ([sbA], true, 0) := by
  rw [setP_ok (subE_c (filtL_c (by decide) (by decide)) (by decide) (by decide) (by decide)) (by decide)]; decide
theorem knB : setP [sbA] [97, 47, 35] [120] 2 = ([sbB, sbA], true, 0) := by
  rw [setP_ok (subE_c (filtL_c (by decide) (by decide)) (by decide) (by decide) (by decide)) (by decide)]; decide
theorem knC : setP [sbB, sbA] [35] [121] 0 = ([sbC, sbB, sbA], true, 0) := by
  rw [setP_ok (subE_c (filtL_c (by decide) (by decide)) (by decide) (by decide) (by decide)) (by decide)]; decide
theorem knD : dropP [sbC, sbB, sbA] [97, 47, 35] [120] = ([sbC, sbA], true, 0) := by
  rw [dropP_ok (subE_c (filtL_c (by decide) (by decide)) (by decide) (by decide) (by decide))]; decide
theorem knE : ([sbC, sbB, sbA].filter fun s => meetsL s.f [97, 47, 98]) = [sbC, sbB, sbA] := by decide
def toldKn : List (Txt × Nat) := [([120], 2), ([121], 0)]
theorem told_kn {ks : List Txt} {Mp : Txt → Option Nat} (hn : ks.Nodup) (hm : ∀ c, c ∈ ks ↔ (Mp c).isSome = true) (hG : GreatOf [sbC, sbB, sbA] Mp) : ((ks.mergeSort fun x y => decide (x ≤ y)).map fun c => (c, (Mp c).getD 0)) = toldKn := by
  have hx : Mp [120] = some 2 := by
    obtain ⟨h1, h2⟩ := hG [120]
    cases hM : Mp [120] with
    | none => exact absurd rfl (h1.1 hM sbA (by decide))
    | some q =>
      obtain ⟨⟨s, hs, hc, hq⟩, hmx⟩ := h2 q hM
      have h3 : 2 ≤ q := hmx sbB (by decide) rfl
      simp only [List.mem_cons, List.not_mem_nil, or_false] at hs
      rcases hs with rfl | rfl | rfl
      · exact absurd hc (by decide)
      · rw [← hq]; rfl
      · have : q = 1 := hq.symm
        omega
  have hy : Mp [121] = some 0 := by
    obtain ⟨h1, h2⟩ := hG [121]
    cases hM : Mp [121] with
    | none => exact absurd rfl (h1.1 hM sbC (by decide))
    | some q =>
      obtain ⟨⟨s, hs, hc, hq⟩, hmx⟩ := h2 q hM
      simp only [List.mem_cons, List.not_mem_nil, or_false] at hs
      rcases hs with rfl | rfl | rfl
      · rw [← hq]; rfl
      · exact absurd hc (by decide)
      · exact absurd hc (by decide)
  have hp : ks.Perm [[120], [121]] := perm_of_nodup hn (by decide) fun c => by
    rw [hm]
    constructor
    · intro h
      obtain ⟨q, hq⟩ := Option.isSome_iff_exists.1 h
      obtain ⟨⟨s, hs, hc, -⟩, -⟩ := (hG c).2 q hq
      simp only [List.mem_cons, List.not_mem_nil, or_false] at hs
      rcases hs with rfl | rfl | rfl <;> rw [← hc] <;> decide
    · intro h
      simp only [List.mem_cons, List.not_mem_nil, or_false] at h
      rcases h with rfl | rfl
      · rw [hx]; rfl
      · rw [hy]; rfl
  rw [sort_of hp (by decide)]
  simp only [List.map_cons, List.map_nil, hx, hy]
  rfl
set_option maxRecDepth 100000 in
set_option maxHeartbeats 8000000 in
theorem knownM_any (w : World) (ht : Tabs w) : Calls Tryd.prog 4 #[] w fun e w' => e = .returned (.bool true) ∧ Below w.heap.size w w' := by
  go_enter Tryd.func4, Tryd.ntmps4
  go_wp2_with fail
  refine (new_any w).mono ?_
  rintro e w0 ⟨Bk, t0, rfl, hB0, hn0, hb0⟩
  have F0 := Lib.hid (Fresh.mk hB0 hn0 hb0)
  clear hB0 hn0 hb0
  go_wp2_with fail
  refine (set_fresh F0.out ht [97, 47, 43] [120] 1 (by decide) (by decide) knA).mono ?_
  rintro e w1 ⟨rfl, t1, h1⟩
  have F1 := Lib.hid h1
  clear h1 F0
  go_wp2_with fail
  refine (set_fresh F1.out ht [97, 47, 35] [120] 2 (by decide) (by decide) knB).mono ?_
  rintro e w2 ⟨rfl, t2, h2⟩
  have F2 := Lib.hid h2
  clear h2 F1
  go_wp2_with fail
  refine (set_fresh F2.out ht [35] [121] 0 (by decide) (by decide) knC).mono ?_
  rintro e w3 ⟨rfl, t3, h3⟩
  have F3 := Lib.hid h3
  clear h3 F2
  go_wp2_with fail
  refine (bmeets_yes F3.out.book (F3.out.tabs ht) ⟨#[97, 47, 98]⟩ (by decide) (nameL_c (by decide) (by decide))).mono ?_
  rintro e w4 ⟨v4, ks, Mp, rfl, hn4, hm4, hG4, hO4, hb4⟩
  rw [show (⟨#[97, 47, 98]⟩ : ByteArray).data.toList = [97, 47, 98] from rfl, knE] at hG4
  rw [told_kn hn4 hm4 hG4] at hO4
  have F4 := Lib.hid (F3.out.below hb4)
  have HLT := Lib.hid (fun k (hk : BkF Bk t3 k) => F3.out.book.lt hk)
  obtain ⟨va, vc, rfl⟩ := ownTd_slice hO4
  have HO4 := Lib.hid hO4
  clear hn4 hm4 hG4 hO4 hb4 F3
  go_wp2_with fail
  refine (nodes_fresh F4.out [[], [[97]], [[97], [43]], [[97], [35]], [[35]]] (by decide) (by decide) (by decide) (by decide)).mono ?_
  rintro e w5 ⟨rfl, h5, hb5⟩
  have F5 := Lib.hid h5
  have HO5 := Lib.hid (HO4.out.below hb5)
  clear h5 hb5 F4 HO4
  go_wp2_with fail
  refine (drop_fresh F5.out ht [97, 47, 35] [120] (by decide) (by decide) knD).mono ?_
  rintro e w6 ⟨rfl, ⟨t6, h6⟩, hk6⟩
  have F6 := Lib.hid h6
  have HO6 := Lib.hid (HO5.out.kept fun g hg => hk6 g (ownTd_lt HO5.out g hg).2 fun hF => by have := HLT.out g hF; have := (ownTd_lt HO5.out g hg).1; omega)
  clear h6 hk6 F5 HO5 HLT
  have hlen : toldKn.length = 2 := rfl
  go_wp2_with fail
  have hba : Below w6.heap.size w6 (w6.alloc (.cells #[.string ⟨#[120]⟩, .int .i64 2, .string ⟨#[121]⟩, .int .i64 0] 39)) := (Below.refl _ w6).alloc (Nat.le_refl _) _
  have hA2 : OwnTd (w6.alloc (.cells #[.string ⟨#[120]⟩, .int .i64 2, .string ⟨#[121]⟩, .int .i64 0] 39)) w6.heap.size (.slice (some ⟨w6.heap.size, 0, none⟩) 2 2) toldKn :=
    ⟨rfl, .inr ⟨w6.heap.size, 2, _, rfl, Nat.le_refl _, (MapKept.heap_alloc w6 _).1, by decide, by decide, rfl, rfl⟩⟩
  refine (same_told _ w3.heap.size w6.heap.size _ _ toldKn toldKn (HO6.out.below hba) hA2 (by decide)).mono ?_
  rintro e w7 ⟨rfl, hb7⟩
  rw [show (toldKn == toldKn) = true by decide]
  have F7 := Lib.hid ((F6.out.below hba).below hb7)
  clear hba hA2 hb7 F6 HO6 hlen
  go_wp2_with fail
  refine (nodes_fresh F7.out [[], [[97]], [[97], [43]], [[35]]] (by decide) (by decide) (by decide) (by decide)).mono ?_
  rintro e w8 ⟨rfl, h8, -⟩
  have F8 := Lib.hid h8
  clear h8 F7
  go_wp2_with fail
  refine (len_any F8.out.book).mono ?_
  rintro e w9 ⟨rfl, rfl⟩
  go_wp2
  go_ret
  exact ⟨rfl, F8.out.low⟩
end Go.Proofs.YtjedffjfjgffeaaDoor
/- Layer 14, pure: the entries of the law MatchMany: each of the first 4096 is new, the next ones are refused. -/
namespace Go.Proofs.YtjedffjfjgffeaaDoor

def mnF (i : Nat) : List UInt8 := [UInt8.ofNat (97 + i % 16), 47, UInt8.ofNat (97 + i / 16 % 16)]
def mnC (i : Nat) : List UInt8 := [99, UInt8.ofNat (97 + i / 256)]
def mnE (i : Nat) : Sb := entry (mnF i) (mnC i) 0
theorem mn_byte {a b : Nat} (ha : a < 100) (hb : b < 100) (h : UInt8.ofNat (97 + a) = UInt8.ofNat (97 + b)) : a = b := by
  have := congrArg UInt8.toNat h
  simp only [UInt8.toNat_ofNat'] at this
  omega
theorem mn_inj {i j : Nat} (hi : i < 5000) (hj : j < 5000) (h : sameK (mnE i) (mnE j)) : i = j := by
  obtain ⟨h1, h2⟩ := h
  have h1 : mnF i = mnF j := h1
  have h2 : mnC i = mnC j := h2
  unfold mnF at h1
  unfold mnC at h2
  simp only [List.cons.injEq, and_true, true_and] at h1 h2
  have a := mn_byte (by omega) (by omega) h1.1
  have b := mn_byte (by omega) (by omega) h1.2
  have c := mn_byte (by omega) (by omega) h2
  omega
/-- What stands behind i sets. -/
def mnG : Nat → List Sb
  | 0 => []
  | i + 1 => if i < 4096 then insG (mnE i) (mnG i) else mnG i
theorem mnG_in : ∀ i, i ≤ 4096 → Rise (mnG i) ∧ (mnG i).length = i ∧ ∀ x, x ∈ mnG i ↔ ∃ j, j < i ∧ x = mnE j
  | 0, _ => ⟨List.Pairwise.nil, rfl, fun x => by simp [mnG]⟩
  | i + 1, hi => by
    obtain ⟨h1, h2, h3⟩ := mnG_in i (by omega)
    have hno : hasK (mnE i) (mnG i) = false := by
      rw [Bool.eq_false_iff]
      intro h
      obtain ⟨x, hx, hk⟩ := hasK_iff.1 h
      obtain ⟨j, hj, rfl⟩ := (h3 x).1 hx
      have := mn_inj (by omega) (by omega) hk
      omega
    have e : mnG (i + 1) = insG (mnE i) (mnG i) := by
      show (if i < 4096 then insG (mnE i) (mnG i) else mnG i) = _
      rw [if_pos (by omega)]
    rw [e]
    refine ⟨rise_insG h1, by rw [len_insG h1, hno, h2]; rfl, fun x => ?_⟩
    rw [mem_insG h1]
    constructor
    · rintro (rfl | ⟨hx, -⟩)
      · exact ⟨i, by omega, rfl⟩
      · obtain ⟨j, hj, e⟩ := (h3 x).1 hx
        exact ⟨j, by omega, e⟩
    · rintro ⟨j, hj, rfl⟩
      by_cases hji : j = i
      · exact .inl (by rw [hji])
      · exact .inr ⟨(h3 _).2 ⟨j, by omega, rfl⟩, fun hk => hji (mn_inj (by omega) (by omega) hk)⟩
theorem mnG_no {i : Nat} (hi : i < 5000) {m : Nat} (hm : m ≤ 4096) (hmi : m ≤ i) : hasK (mnE i) (mnG m) = false := by
  rw [Bool.eq_false_iff]
  intro h
  obtain ⟨x, hx, hk⟩ := hasK_iff.1 h
  obtain ⟨j, hj, rfl⟩ := ((mnG_in m hm).2.2 x).1 hx
  have := mn_inj (by omega) (by omega) hk
  omega
theorem mnG_top (i : Nat) : mnG (4096 + i) = mnG 4096 := by
  induction i with
  | zero => rfl
  | succ i ih =>
    show (if 4096 + i < 4096 then insG (mnE (4096 + i)) (mnG (4096 + i)) else mnG (4096 + i)) = _
    rw [if_neg (by omega)]
    exact ih
theorem mn_filt (i : Nat) : filtL (mnF i) = true := by
  have key : ∀ a b : Fin 16, filtL [UInt8.ofNat (97 + a.val), 47, UInt8.ofNat (97 + b.val)] = true := fun a b =>
    filtL_c (by revert a b; decide) (by revert a b; decide)
  exact key ⟨i % 16, by omega⟩ ⟨i / 16 % 16, by omega⟩
theorem mn_sub (i : Nat) : subE (mnF i) (mnC i) 0 = 0 := subE_c (mn_filt i) rfl (by decide) (by decide)
/-- Each of the first 4096 is new. -/
theorem mn_set {i : Nat} (hi : i < 4096) : setP (mnG i) (mnF i) (mnC i) 0 = (mnG (i + 1), true, 0) := by
  have hno := mnG_no (i := i) (m := i) (by omega) (by omega) (Nat.le_refl _)
  have hno' : hasK (entry (mnF i) (mnC i) 0) (mnG i) = false := hno
  have hl := (mnG_in i (by omega)).2.1
  rw [setP_ok (mn_sub i) (by rw [hno', hl]; simp; omega), hno']
  have e : mnG (i + 1) = insG (mnE i) (mnG i) := by
    show (if i < 4096 then insG (mnE i) (mnG i) else mnG i) = _
    rw [if_pos hi]
  rw [e]
  rfl
/-- One more is refused. -/
theorem mn_full {i : Nat} (h1 : 4096 ≤ i) (h2 : i < 5000) : setP (mnG i) (mnF i) (mnC i) 0 = (mnG (i + 1), false, 3) := by
  have hno : hasK (entry (mnF i) (mnC i) 0) (mnG 4096) = false := mnG_no (i := i) (m := 4096) h2 (Nat.le_refl _) h1
  have hl := (mnG_in 4096 (Nat.le_refl _)).2.1
  have e1 : mnG i = mnG 4096 := by rw [show i = 4096 + (i - 4096) by omega]; exact mnG_top _
  have e2 : mnG (i + 1) = mnG 4096 := by rw [show i + 1 = 4096 + (i + 1 - 4096) by omega]; exact mnG_top _
  rw [e1, e2]
  unfold setP
  rw [if_neg (by rw [mn_sub]; decide), if_pos (by rw [hno, hl]; decide)]
end Go.Proofs.YtjedffjfjgffeaaDoor
/- Layer 14: MatchMany. -/
namespace Go.Proofs.YtjedffjfjgffeaaDoor
open Go.RowKit Go.MapKept Go.ChangeMaps Go.Maps

theorem mm_row {w : World} {b : Nat} {l : List UInt8} {cs : Array Value} {T : TypeId} {fr : Nat × Nat} (h : w.heap[b]? = some (.cells cs T fr)) (hcs : ∀ j, j < l.length → cs[j]? = some (.int .u8 ((l[j]?.getD 0).toNat : Int))) : BytesAt w.heap.size w (some ⟨b, 0, none⟩) l := fun _ =>
  ⟨b, 0, rfl, (Array.getElem?_eq_some_iff.1 h).1, fun j hj => by rw [Nat.zero_add, cell_of_row w b j _ _ _ h]; exact hcs j hj⟩
theorem mm_byte {a : Nat} (h : a < 159) : (((UInt8.ofNat (97 + a)).toNat : Nat) : Int) = 97 + (a : Int) := by
  rw [UInt8.toNat_ofNat_of_lt' (by have : UInt8.size = 256 := rfl; omega)]; omega
theorem mm_conv3 (w : World) (i : Nat) : (convert 28 9 (.slice (some ⟨w.heap.size, 0, none⟩) 3 3)).run Tryd.prog (w.alloc (.cells #[.int .u8 (97 + (i : Int) % 16), .int .u8 47, .int .u8 (97 + (i : Int) / 16 % 16)] 5)) = .ok (.string (str (mnF i))) (w.alloc (.cells #[.int .u8 (97 + (i : Int) % 16), .int .u8 47, .int .u8 (97 + (i : Int) / 16 % 16)] 5)) := by
  have h := conv_at (w.alloc (.cells #[.int .u8 (97 + (i : Int) % 16), .int .u8 47, .int .u8 (97 + (i : Int) / 16 % 16)] 5)) (some ⟨w.heap.size, 0, none⟩) (mnF i) 3 _ (mm_row (World.alloc_heap_new w _) (fun j hj => by
    have h1 := mm_byte (a := i % 16) (by omega)
    have h2 := mm_byte (a := i / 16 % 16) (by omega)
    have hj' : j < 3 := hj
    have : j = 0 ∨ j = 1 ∨ j = 2 := by omega
    rcases this with rfl | rfl | rfl
    · show some (Value.int .u8 (97 + (i : Int) % 16)) = some (Value.int .u8 (((UInt8.ofNat (97 + i % 16)).toNat : Nat) : Int))
      rw [h1]; rfl
    · rfl
    · show some (Value.int .u8 (97 + (i : Int) / 16 % 16)) = some (Value.int .u8 (((UInt8.ofNat (97 + i / 16 % 16)).toNat : Nat) : Int))
      rw [h2]; rfl))
  exact h
theorem mm_conv2 (w : World) (i : Nat) (hi : i ≤ 4100) : (convert 28 9 (.slice (some ⟨w.heap.size, 0, none⟩) 2 2)).run Tryd.prog (w.alloc (.cells #[.int .u8 99, .int .u8 (97 + (i : Int) / 256)] 5)) = .ok (.string (str (mnC i))) (w.alloc (.cells #[.int .u8 99, .int .u8 (97 + (i : Int) / 256)] 5)) := by
  have h := conv_at (w.alloc (.cells #[.int .u8 99, .int .u8 (97 + (i : Int) / 256)] 5)) (some ⟨w.heap.size, 0, none⟩) (mnC i) 2 _ (mm_row (World.alloc_heap_new w _) (fun j hj => by
    have h1 := mm_byte (a := i / 256) (by omega)
    have hj' : j < 2 := hj
    have : j = 0 ∨ j = 1 := by omega
    rcases this with rfl | rfl
    · rfl
    · show some (Value.int .u8 (97 + (i : Int) / 256)) = some (Value.int .u8 (((UInt8.ofNat (97 + i / 256)).toNat : Nat) : Int))
      rw [h1]; rfl))
  exact h
theorem mm_conv2' (w : World) (o : Obj) (i : Nat) (hi : i ≤ 4100) : (convert 28 9 (.slice (some ⟨w.heap.size + 1, 0, none⟩) 2 2)).run Tryd.prog ((w.alloc o).alloc (.cells #[.int .u8 99, .int .u8 (97 + (i : Int) / 256)] 5)) = .ok (.string (str (mnC i))) ((w.alloc o).alloc (.cells #[.int .u8 99, .int .u8 (97 + (i : Int) / 256)] 5)) := by
  have h := mm_conv2 (w.alloc o) i hi
  have e : (w.alloc o).heap.size = w.heap.size + 1 := by simp
  rw [e] at h
  exact h
/-- The last one is there. -/
theorem mn_last {n : Nat} (h1 : 4090 ≤ n) (h2 : n ≤ 4100) : ∃ g, setP (mnG n) [97, 47, 97] [99, 97] 2 = (g, false, 0) ∧ g.length = min n 4096 := by
  obtain ⟨m, hm, hm0, hmG, hmn⟩ : ∃ m, m ≤ 4096 ∧ 0 < m ∧ mnG n = mnG m ∧ min n 4096 = m := by
    rcases Nat.le_total n 4096 with h | h
    · exact ⟨n, h, by omega, rfl, by omega⟩
    · exact ⟨4096, Nat.le_refl _, by omega, by rw [show n = 4096 + (n - 4096) by omega]; exact mnG_top _, by omega⟩
  rw [hmG, hmn]
  obtain ⟨r1, r2, r3⟩ := mnG_in m hm
  have hk : hasK (entry [97, 47, 97] [99, 97] 2) (mnG m) = true := hasK_iff.2 ⟨mnE 0, (r3 _).2 ⟨0, hm0, rfl⟩, ⟨rfl, rfl⟩⟩
  have hs : subE [97, 47, 97] [99, 97] 2 = 0 := subE_c (mn_filt 0) rfl (by decide) (by decide)
  refine ⟨insG (entry [97, 47, 97] [99, 97] 2) (mnG m), ?_, ?_⟩
  · rw [setP_ok hs (by rw [hk]; rfl), hk]; rfl
  · rw [len_insG r1, hk, r2]; simp
def ManyPost (w : World) (e : Ending) (w' : World) : Prop := e = .returned (.bool true) ∧ Below w.heap.size w w'
set_option maxRecDepth 100000 in
set_option maxHeartbeats 1000000 in
theorem many_out (z : Int) (w : World) (ht : Tabs w) (h : z < 4090 ∨ 4100 < z) :
    Calls Tryd.prog 3 #[.int .i64 z] w fun e w' => ManyPost w e w' := by
  have HK := Lib.hid (knownM_any w ht)
  clear ht
  rcases h with h | h
  · go_enter Tryd.func3, Tryd.ntmps3
    go_wp2_with (go_at_call 4; refine HK.out.mono ?_; rintro e w' ⟨rfl, hb⟩; have HB := Lib.hid hb; clear hb)
    go_ret
    exact ⟨rfl, HB.out⟩
  · have h2 : ¬ z < 4090 := by omega
    go_enter Tryd.func3, Tryd.ntmps3
    go_wp2_with (go_at_call 4; refine HK.out.mono ?_; rintro e w' ⟨rfl, hb⟩; have HB := Lib.hid hb; clear hb)
    go_ret
    exact ⟨rfl, HB.out⟩
set_option maxRecDepth 100000 in
set_option maxHeartbeats 2000000 in
theorem many_in (n : Nat) (h1 : 4090 ≤ n) (h2 : n ≤ 4100) (w : World) (ht : Tabs w) :
    Calls Tryd.prog 3 #[.int .i64 n] w fun e w' => ManyPost w e w' := by
  have HT := Lib.hid ht
  have d1 : ¬ (n : Int) < 4090 := by omega
  have d2 : ¬ (4100 : Int) < n := by omega
  clear ht
  go_enter Tryd.func3, Tryd.ntmps3
  go_wp2_with fail
  refine (new_any w).mono ?_
  rintro e w0 ⟨Bk, t0, rfl, hB0, hn0, hb0⟩
  have F0 := Lib.hid (Fresh.mk hB0 hn0 hb0)
  clear hB0 hn0 hb0
  go_wp2
  go_loopw [2, 4, 5, 6, 17, 18, 19, 20, 21, 22, 23, 24, 25, 26, 27, 28, 29, 30, 31, 32, 33, 34, 35, 36, 37, 38, 39, 40, 41, 42, 43, 44, 45, 46, 47, 48, 49, 50, 51, 52, 53, 54, 55, 56, 57, 58, 59, 60, 61, 62, 63] (fun _ x _ _ _ _ _ _ _ _ _ _ _ _ _ _ _ _ _ _ _ _ _ _ _ _ _ _ _ _ _ _ _ _ _ _ _ _ _ _ _ _ _ _ _ _ _ _ _ _ _ wr => ∃ (i : Nat) (t : Tr), x = .int .i64 i ∧ i ≤ n ∧ Fresh w Bk (mnG i) t wr) (fun _ x _ _ _ _ _ _ _ _ _ _ _ _ _ _ _ _ _ _ _ _ _ _ _ _ _ _ _ _ _ _ _ _ _ _ _ _ _ _ _ _ _ _ _ _ _ _ _ _ _ _ => n - (intOf x).toNat)
  case atStart => exact ⟨0, t0, rfl, Nat.zero_le _, F0.out⟩
  case round =>
    obtain ⟨i, t, rfl, hi, hF⟩ := hrel
    by_cases hlt : i < n
    · have hic : (i : Int) < n := by omega
      have hu1 : IntKind.u8.wrap (97 + (i : Int) % 16) = 97 + (i : Int) % 16 := wraps_u8 _ (by omega) (by omega)
      have hu2 : IntKind.u8.wrap (97 + (i : Int) / 16 % 16) = 97 + (i : Int) / 16 % 16 := wraps_u8 _ (by omega) (by omega)
      have hu3 : IntKind.u8.wrap (97 + (i : Int) / 256) = 97 + (i : Int) / 256 := wraps_u8 _ (by omega) (by omega)
      have k1 := mm_conv3 wr i
      obtain ⟨wa, hwa⟩ : ∃ wa, wr.alloc (.cells #[.int .u8 (97 + (i : Int) % 16), .int .u8 47, .int .u8 (97 + (i : Int) / 16 % 16)] 5) = wa := ⟨_, rfl⟩
      have k2 := mm_conv2' wr (.cells #[.int .u8 (97 + (i : Int) % 16), .int .u8 47, .int .u8 (97 + (i : Int) / 16 % 16)] 5) i (by omega)
      have hFb := Lib.hid (((Below.refl wr.heap.size wr).alloc (Nat.le_refl _) (.cells #[.int .u8 (97 + (i : Int) % 16), .int .u8 47, .int .u8 (97 + (i : Int) / 16 % 16)] 5)).alloc (by simp) (.cells #[.int .u8 99, .int .u8 (97 + (i : Int) / 256)] 5))
      have HF := Lib.hid hF
      clear hF hwa
      go_wp2_with fail
      by_cases hsm : i < 4096
      · have hic2 : (i : Int) < 4096 := by omega
        have hic3 : ¬ (4096 : Int) ≤ i := by omega
        refine (set_fresh (HF.out.below hFb.out) HT.out (mnF i) (mnC i) 0 (by show 3 ≤ 1000; decide) (by show 2 ≤ 1000; decide) (mn_set hsm)).mono ?_
        rintro e w1 ⟨rfl, t1, h1⟩
        have F1 := Lib.hid h1
        clear h1 HF hFb
        go_wp2
        all_goals first
          | exact ⟨⟨i + 1, t1, rfl, by omega, F1.out⟩, by show n - ((i : Int) + 1).toNat < n - (i : Int).toNat; omega⟩
          | (exfalso; omega)
      · have hic2 : ¬ (i : Int) < 4096 := by omega
        have hic3 : (4096 : Int) ≤ i := by omega
        refine (set_fresh (HF.out.below hFb.out) HT.out (mnF i) (mnC i) 0 (by show 3 ≤ 1000; decide) (by show 2 ≤ 1000; decide) (mn_full (by omega) (by omega))).mono ?_
        rintro e w1 ⟨rfl, t1, h1⟩
        have F1 := Lib.hid h1
        clear h1 HF hFb
        go_wp2
        all_goals first
          | exact ⟨⟨i + 1, t1, rfl, by omega, F1.out⟩, by show n - ((i : Int) + 1).toNat < n - (i : Int).toNat; omega⟩
          | (exfalso; omega)
    · obtain rfl : i = n := by omega
      have hic : ¬ (i : Int) < i := by omega
      obtain ⟨g, hg, hgl⟩ := mn_last h1 h2
      have HF := Lib.hid hF
      clear hF
      go_wp2_with fail
      refine (set_fresh HF.out HT.out [97, 47, 97] [99, 97] 2 (by decide) (by decide) hg).mono ?_
      rintro e w1 ⟨rfl, t1, h1⟩
      have F1 := Lib.hid h1
      clear h1 HF
      go_wp2_with fail
      refine (len_any F1.out.book).mono ?_
      rintro e w2 ⟨rfl, rfl⟩
      have K := Lib.hid (knownM_any w1 (F1.out.tabs HT.out))
      have hl : (g.length : Int) = min (i : Int) 4096 := by omega
      clear hgl
      go_wp2_with (go_at_call 4; refine K.out.mono ?_; rintro e w' ⟨rfl, hb⟩; have HB := Lib.hid hb; clear hb)
      go_ret
      exact ⟨rfl, F1.out.low.trans (HB.out.mono F1.out.low.size)⟩
/-- What the law asks of any number. -/
theorem many_any (z : Int) (w : World) (ht : Tabs w) :
    Calls Tryd.prog 3 #[.int .i64 z] w fun e w' => ManyPost w e w' := by
  by_cases h : z < 4090 ∨ 4100 < z
  · exact many_out z w ht h
  · have e : z = ((z.toNat : Nat) : Int) := by omega
    rw [e]
    exact many_in z.toNat (by omega) (by omega) w ht
end Go.Proofs.YtjedffjfjgffeaaDoor
/- What the row's list gives of MatchMany (the bounds of runes, the first bytes' marks), and a world that holds both. -/
namespace Go.Proofs.YtjedffjfjgffeaaDoor
open Go.ChangeShapes Go.WideShapes Go.ChangeAt Go.RowKit

theorem own : ownKnob Tryd.prog.godebug = none := by kernel_rfl
theorem laidOut : laidOutB Tryd.prog = true := by kernel_rfl
theorem gBd : Tryd.prog.globalNamed "pigeonry/utf.bounds" = some 2 := by kernel_rfl
theorem gBdType : (Tryd.prog.globals[2]?).map (·.type) = some 142 := by kernel_rfl
theorem gLd : Tryd.prog.globalNamed "pigeonry/utf.leads" = some 1 := by kernel_rfl
theorem gLdType : (Tryd.prog.globals[1]?).map (·.type) = some 140 := by kernel_rfl
theorem cellsBd : Tryd.prog.cellsOf 142 = 3 := by kernel_rfl
theorem cellsLd : Tryd.prog.cellsOf 140 = 4 := by kernel_rfl
theorem cellsI32 : Tryd.prog.cellsOf 21 = 1 := by kernel_rfl
theorem cellsU8 : Tryd.prog.cellsOf 5 = 1 := by kernel_rfl
theorem tab_of_second {P : Program} {W : World} {first : String × DataW Unit} {name : String} {k : IntKind} {zs : List Int} {rest : List (String × DataW Unit)} {g : Nat} {t e : TypeId} {n : Nat}
    (hg : P.globalNamed name = some g) (hty : (P.globals[g]?).map (·.type) = some t) (ht : P.underlying t = some (.array n e)) (he : P.underlying e = some (.int k)) (hce : P.cellsOf e = 1) (hct : P.cellsOf t = n)
    (h : laidMet P (first :: (name, Lib.tabData k zs) :: rest) W) : Lib.TabIs P W name k zs := by
  obtain ⟨ps, ⟨_, _, _, _, _, _, _, _, _, _, hr, _⟩, _⟩ := h
  obtain ⟨g', t', cs, fuel, p, q, hg', ht', hvar, hd, _, _⟩ := hr
  obtain rfl := Option.some.inj (hg.symm.trans hg')
  obtain rfl := Option.some.inj (hty.symm.trans ht')
  unfold Lib.TabIs
  rw [hvar, ← Lib.cells_of_tab ht he hce hct hd]
def bdTab : List Int := [128, 2048, 65536]
def ldTab : List Int := [0, 192, 224, 240]
/-- WHAT THE ROW's LIST GIVES. -/
theorem given {W : World} (h : laidMetH Tryd.prog [("pigeonry/utf.bounds", Rows.laid_pigeonry_utf_bounds), ("pigeonry/utf.leads", Rows.laid_pigeonry_utf_leads)] W) : Tabs W := by
  have h1 : Lib.TabIs Tryd.prog W "pigeonry/utf.bounds" .i32 bdTab := Lib.tabIs_of_head (rest := [("pigeonry/utf.leads", Rows.laid_pigeonry_utf_leads)]) gBd gBdType Tryd.underlying142 Tryd.underlying21 cellsI32 cellsBd h
  have h2 : Lib.TabIs Tryd.prog W "pigeonry/utf.leads" .u8 ldTab := tab_of_second (first := ("pigeonry/utf.bounds", Rows.laid_pigeonry_utf_bounds)) (rest := []) gLd gLdType Tryd.underlying140 Tryd.underlying5 cellsU8 cellsLd h
  exact ⟨h1.cell gBd 0 (by decide), h1.cell gBd 1 (by decide), h1.cell gBd 2 (by decide), h2.cell gLd 0 (by decide), h2.cell gLd 1 (by decide), h2.cell gLd 2 (by decide), h2.cell gLd 3 (by decide)⟩
noncomputable def fillBd : Obj → Obj
  | .cells _ t frozen => .cells (bdTab.map fun z => Value.int .i32 z).toArray t frozen
  | o => o
noncomputable def fillLd : Obj → Obj
  | .cells _ t frozen => .cells (ldTab.map fun z => Value.int .u8 z).toArray t frozen
  | o => o
/-- A WORLD FOR THE WITNESS: the settled one, both tables holding what their initialisers lay. -/
noncomputable def laidWorld (os : Os) : World :=
  { World.holding Tryd.prog os ⟨#[], #[], []⟩ with heap := ((World.holding Tryd.prog os ⟨#[], #[], []⟩).heap.modify 2 fillBd).modify 1 fillLd }
/-- The types that these laws take read whole. -/
theorem types_ok : ∀ t ∈ [3], Tryd.prog.readableRec t = true ∧ t < Tryd.prog.types.size := by
  intro t ht
  have h : ([3].all fun t => Tryd.prog.readableRec t && decide (t < Tryd.prog.types.size)) = true := by kernel_rfl
  have := List.all_eq_true.1 h t ht
  simpa using this
end Go.Proofs.YtjedffjfjgffeaaDoor
/- MatchMany: of any number of entries, each of another filter and holder: the book takes 4096 of them, refuses one more by its limit, answers as before at one that is there, and counts them. Below 4090 and above 4100 it asks only what is known. No condition but both tables. -/
namespace Go.Proofs.YtjedffjfjgffeaaDoor.matchMany
open Go.ChangeShapes Go.WideShapes Go.ChangeAt Go.RowKit

theorem laid_met (os : Os) : laidMet Tryd.prog Rows.matchManyRow.laid ((laidWorld os).forCall (fun _ _ => 0) ⟨#[], #[.int .i64 0], []⟩).memory :=
  laidMet_of_run' 8 (by kernel_rfl) (by kernel_rfl)
theorem reads (os : Os) {H : Type} (enc : TypeId × Value → H) : ∃ places, DataW.whole enc Tryd.prog ((laidWorld os).forCall (fun _ _ => 0) ⟨#[], #[.int .i64 0], []⟩).memory Tryd.f3.params.toList Rows.matchManySpec.vars false (#[.int .i64 0] : Array Value).toList 8 = some ([.lit (.int .i64 0)], [], places) :=
  ⟨[], by kernel_rfl⟩

set_option maxRecDepth 100000 in
theorem contract (H : Type) (enc : TypeId × Value → H) (W : World) (base : Nat) (args : Array Value) (ds gs : List (DataW H)) (before : List MemPlace)
    (hval : ∀ (j : Nat) t v, Tryd.f3.params[j]? = some t → args[j]? = some v → Value.okWide Tryd.prog W .any base t v)
    (hW : DataW.Whole enc Tryd.prog Tryd.f3.params.toList Rows.matchManySpec.vars false W args.toList ds gs before) (hL : laidMetH Tryd.prog Rows.matchManyRow.laid W) :
    Calls Tryd.prog 3 args W fun e W' => ∃ v, e = .returned v ∧ Rows.matchManySpec.post enc Tryd.prog Tryd.f3 false true false false W args v W' := by
  have hW' := hW
  obtain ⟨p, q, hA0, hV, rfl, hfz, hnd⟩ := hW
  have hA : DataW.TrodAll enc Tryd.prog W 0 (fun _ => true) true Tryd.f3.params.toList args.toList ds p := hA0
  rw [Tryd.params3] at hA hval
  obtain ⟨rfl, rfl⟩ := trodVars_none hV
  obtain ⟨v0, vs0, d0, ds0, p0, q0, hargs, rfl, rfl, h0, r0⟩ := trodAll_cons hA
  obtain ⟨rfl, rfl, rfl⟩ := trodAll_nil r0
  obtain rfl : args = #[v0] := by cases args; simp_all
  obtain ⟨n, rfl, -, -, -⟩ := open_int Tryd.underlying3 (hval 0 3 v0 rfl rfl) h0
  refine (many_any n W (given hL)).mono fun e W' ⟨he, hb⟩ => ?_
  subst he
  exact ⟨_, rfl, law_post laidOut (fun t ht => types_ok t (by rw [Tryd.params3] at ht; revert ht; decide +revert)) rfl hW' rfl rfl rfl Tryd.underlying4 (by kernel_rfl) hb⟩

set_option maxRecDepth 100000 in
theorem lifted (os : Os) (started : os.Started) (H : Type) (enc : TypeId × Value → H) (F : Stop.Interp) :
    ReturnsInHanded {} Tryd.checked os 3 .any ((OpenSpec.ofChange Rows.matchManySpec).preRow enc Tryd.prog Tryd.f3 Rows.matchManyRow.domain false Rows.matchManyRow.laid) (((OpenSpec.ofChange Rows.matchManySpec).at F).post enc Tryd.prog Tryd.f3 false true false false) := by
  obtain ⟨places, hx⟩ := reads os enc
  refine returnsInHanded_of_row (C := Tryd.checked) (s := OpenSpec.ofChange Rows.matchManySpec) own started (by kernel_rfl) Tryd.func3
    (witness_row_at (enc := enc) (C := Tryd.checked) false (laidWorld os) #[.int .i64 0] rfl (by kernel_rfl) (by kernel_rfl) (by kernel_rfl)
      (OpenSpec.preRow_of_cond 8 hx (by kernel_rfl) (fun k hk => by cases hk) (by kernel_rfl) (laid_met os))) ?_
  intro W base args ds gs before hval hW _ _ _ hL _ _
  exact contract H enc W base args ds gs before hval hW hL

theorem said : Rows.MatchManySaid :=
  OpenClaim.holds_of_cond 3 Tryd.f3 rfl rfl rfl rfl rfl rfl rfl ⟨rfl, rfl, rfl, rfl, rfl⟩ rfl rfl rfl rfl rfl (by kernel_rfl) Tryd.func3 (by kernel_rfl)
    (of_decide_eq_true (by kernel_rfl)) (by unfold Func.isWrapper; first | (rw [if_pos (by decide +kernel)]; kernel_rfl) | (rw [if_neg (by decide +kernel)]; exact ⟨rfl, rfl⟩))
    (fun os started H enc _ F => by rw [OpenClaim.pre_eq_preRow]; exact lifted os started H enc F)

theorem plain (f : FuncId) (fn : Func) (hf : Tryd.pinned.checked.prog.funcNamed "pigeonry/pigeonrylaw14.MatchMany" = some f) (hfn : Tryd.pinned.checked.prog.funcs[f]? = some fn) :
    false = Tryd.pinned.checked.prog.looks [] ∧ ∀ (j : Nat) t, fn.params[j]? = some t → Tryd.pinned.checked.prog.wantsStandIn t = false := by
  obtain rfl : f = 3 := Option.some.inj ((show Tryd.prog.funcNamed "pigeonry/pigeonrylaw14.MatchMany" = some 3 by kernel_rfl).symm.trans hf) |>.symm
  obtain rfl : fn = Tryd.f3 := (Option.some.inj (Tryd.func3.symm.trans hfn)).symm
  refine ⟨by kernel_rfl, fun j t ht => ?_⟩
  rw [Tryd.params3] at ht
  have h : ∀ t ∈ Tryd.f3.params.toList, Tryd.prog.wantsStandIn t = false := by
    have h : ((Tryd.f3.params.toList).all fun t => !Tryd.prog.wantsStandIn t) = true := by kernel_rfl
    intro t ht
    simpa using List.all_eq_true.1 h t ht
  exact h t (by rw [Tryd.params3]; exact Array.mem_toList_iff.2 (Array.mem_of_getElem? ht))

/-- THE CARD. -/
theorem card : Rows.MatchManyCardSaid :=
  Claim7.holds_tied_plain_at .later [] _ _ _ _ said (fun _ h => by cases h) (by kernel_rfl) (fun _ h => by cases h) matchMany_row_tie rfl ⟨rfl, rfl⟩ (by kernel_rfl) rfl plain (by kernel_rfl)
end Go.Proofs.YtjedffjfjgffeaaDoor.matchMany
