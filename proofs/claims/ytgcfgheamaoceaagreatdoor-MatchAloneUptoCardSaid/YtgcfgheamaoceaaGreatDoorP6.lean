/- Texts of the proof in one file, in build order: MatFF, MatGG, MatHH, MatNil, MatLaid, MatII, MatJJ, MatSubs. -/
import Derived.Test.YtgcfgheamaoceaaGreatDoorP5
import Derived.LoopNIn
import Derived.Test.YtgcfgheamaoceaaGreatDoorCards
import Derived.Test.YtgcfgheamaoceaaGreatDoorTie
import Derived.ProofKit
import Derived.OpenShut
import Derived.ChangeArms
import Derived.Deep.DeepHandedRow
import Derived.Lib.LaidTab
import Derived.ChangeMaps5
import Derived.Lib.SmallJoins
import Derived.Test.YtgcfgheamaoceaaGreatDoorKit
import Derived.Test.YtgcfgheamaoceaaGreatDoorUtfI
import Derived.Deep.MidRow
import Derived.Test.YtgcfgheamaoceaaGreatDoorTopH
import Derived.Maps.AppendAt
import Derived.Great.FillDense
import Derived.Great.BuildSlice
import Derived.Deep.Slices
import Derived.Deep.Fields
import Derived.ChangeSame
/- Layer 14: the law's known. -/
namespace Go.Proofs.YtgcfgheamaoceaaGreatDoor
open Go.RowKit Go.MapKept Go.ChangeMaps Go.Maps

/-- A book that is all new since w. -/
structure Fresh (w : World) (Bk : Nat) (g : List Sb) (t : Tr) (W : World) : Prop where
  book : BookAt W Bk g t
  new : ∀ k, BkF Bk t k → w.heap.size ≤ k
  low : Below w.heap.size w W
section
variable {w W W' : World} {Bk : Nat} {g g' : List Sb} {t t' : Tr}
theorem Fresh.below (h : Fresh w Bk g t W) (hb : Below W.heap.size W W') : Fresh w Bk g t W' := ⟨h.book.below hb, h.new, h.low.trans (hb.mono h.low.size)⟩
theorem Fresh.lay (h : Fresh w Bk g t W) (hl : LayTree W Bk g' t t' W') : Fresh w Bk g' t' W' :=
  ⟨hl.book, fun k hk => (hl.foot k hk).elim (h.new k) (Nat.le_trans h.low.size), h.low.trans (hl.kp.below h.low.size h.new)⟩
theorem Fresh.tabs (h : Fresh w Bk g t W) (ht : Tabs w) : Tabs W := ht.below h.low ht.two
theorem set_fresh (h : Fresh w Bk g t W) (ht : Tabs w) (f c : List UInt8) (q : Int) (hf : f.length ≤ 1000) (hc : c.length ≤ 1000) {r : Bool} {no : Nat} (hs : setP g f c q = (g', r, no)) :
    Calls Tryz.prog 16 #[.pointer (some ⟨Bk, 0, none⟩), .agg #[.string (str f), .string (str c), .int .i64 q]] W fun e W' => e = .returned (.tuple #[.bool r, .int .i64 (no : Int)]) ∧ ∃ t', Fresh w Bk g' t' W' := by
  have h1 := set_any h.book (h.tabs ht) (str f) (str c) (by have : (str f).size = f.length := rfl; omega) (by have : (str c).size = c.length := rfl; omega) q
  rw [str_toList, str_toList, hs] at h1
  refine h1.mono ?_
  rintro e W' ⟨rfl, t', hl⟩
  exact ⟨rfl, t', h.lay hl⟩
theorem drop_fresh (h : Fresh w Bk g t W) (ht : Tabs w) (f c : List UInt8) (hf : f.length ≤ 1000) (hc : c.length ≤ 1000) {r : Bool} {no : Nat} (hs : dropP g f c = (g', r, no)) :
    Calls Tryz.prog 21 #[.pointer (some ⟨Bk, 0, none⟩), .string (str f), .string (str c)] W fun e W' => e = .returned (.tuple #[.bool r, .int .i64 (no : Int)]) ∧ (∃ t', Fresh w Bk g' t' W') ∧ ∀ k, k < W.heap.size → ¬ BkF Bk t k → W'.heap[k]? = W.heap[k]? := by
  have h1 := bdrop_any h.book (h.tabs ht) (str f) (str c) (by have : (str f).size = f.length := rfl; omega) (by have : (str c).size = c.length := rfl; omega)
  rw [str_toList, str_toList, hs] at h1
  refine h1.mono ?_
  rintro e W' ⟨rfl, t', hl⟩
  exact ⟨rfl, ⟨t', h.lay hl⟩, hl.kp.block⟩
/-- The beginnings of entries' levels. -/
def begs (g : List Sb) : List Pth := g.flatMap fun s => (List.range ((lv s.f).length + 1)).map fun i => (lv s.f).take i
theorem under_beg {g : List Sb} {s : Sb} (hs : s ∈ g) {q : Pth} (hu : under q s = true) : q ∈ begs g := by
  unfold under at hu
  have hpre : q <+: lv s.f := by simpa using hu
  exact List.mem_flatMap.2 ⟨s, hs, List.mem_map.2 ⟨q.length, by rw [List.mem_range]; have := List.IsPrefix.length_le hpre; omega, (List.prefix_iff_eq_take.1 hpre).symm⟩⟩
theorem nodes_len (h : BookAt W Bk g t) {ps K : List Pth} (hn : ps.Nodup) (hp : ∀ q, q ∈ ps ↔ (t q).isSome = true) (hK : K.Nodup) (h0 : [] ∈ K) (h1 : ∀ q ∈ begs g, q ∈ K) (h2 : ∀ q ∈ K, q = [] ∨ ∃ s ∈ g, under q s = true) : ps.length = K.length := by
  refine Nat.le_antisymm (nodup_le ps K hn fun q hq => ?_) (nodup_le K ps hK fun q hq => (hp q).2 ((h.dom q).2 (h2 q hq)))
  rcases (h.dom q).1 ((hp q).1 hq) with rfl | ⟨s, hs, hu⟩
  · exact h0
  · exact h1 q (under_beg hs hu)
theorem nodes_fresh (h : Fresh w Bk g t W) (K : List Pth) (hK : K.Nodup) (h0 : [] ∈ K) (h1 : ∀ q ∈ begs g, q ∈ K) (h2 : ∀ q ∈ K, q = [] ∨ ∃ s ∈ g, under q s = true) :
    Calls Tryz.prog 20 #[.pointer (some ⟨Bk, 0, none⟩)] W fun e W' => e = .returned (.int .i64 ((K.length : Int) - 1)) ∧ Fresh w Bk g t W' ∧ Below W.heap.size W W' := by
  refine (nodes_any h.book).mono ?_
  rintro e W' ⟨ps, ⟨hn, hp⟩, rfl, hb⟩
  exact ⟨by rw [nodes_len h.book hn hp hK h0 h1 h2], h.below hb, hb⟩
end
/-- Keys in order. -/
theorem sort_of {ks K : List Txt} (hp : ks.Perm K) (hK : K.Pairwise (· < ·)) : (ks.mergeSort fun x y => decide (x ≤ y)) = K := by
  have e : (fun x y : Txt => decide (x ≤ y)) = Go.leB := rfl
  rw [e, Go.mergeSort_of_perm hp]
  exact List.mergeSort_of_pairwise (hK.imp fun h => by simp only [Go.leB, decide_eq_true_eq]; exact List.le_of_lt h)
theorem setP_ok {g : List Sb} {f c : List UInt8} {q : Int} (h : subE f c q = 0) (h2 : (!hasK (entry f c q) g && decide (g.length = 4096)) = false) : setP g f c q = (insG (entry f c q) g, !hasK (entry f c q) g, 0) := by
  unfold setP
  rw [if_neg (by rw [h]; decide), if_neg (by rw [h2]; decide)]
theorem dropP_ok {g : List Sb} {f c : List UInt8} (h : subE f c 0 = 0) : dropP g f c = (delG (entry f c 0) g, hasK (entry f c 0) g, 0) := by
  unfold dropP
  rw [if_neg (by rw [h]; decide)]
theorem subE_c {f c : List UInt8} {q : Int} (hf : filtL f = true) (hc : cliL c = true) (h0 : 0 ≤ q) (h2 : q ≤ 2) : subE f c q = 0 := by
  unfold subE
  rw [hf, hc]
  exact subZ_no (by omega) (by omega)
def sbA : Sb := ⟨[97, 47, 43], [120], 1⟩
def sbB : Sb := ⟨[97, 47, 35], [120], 2⟩
def sbC : Sb := ⟨[35], [121], 0⟩
theorem knA : setP [] [97, 47, 43] [120] 1 = ([sbA], true, 0) := by
  rw [setP_ok (subE_c (filtL_c (by decide) (by decide)) (by decide) (by decide) (by decide)) (by decide)]; decide
theorem knB : setP [sbA] [97, 47, 35] [120] 2 = ([sbB, sbA], true, 0) := by
  rw [setP_ok (subE_c (filtL_c (by decide) (by decide)) (by decide) (by decide) (by decide)) (by decide)]; decide
theorem knC : setP [sbB, sbA] [35] [121] 0 = ([sbC, sbB, sbA], true, 0) := by
  rw [setP_ok (subE_c (filtL_c (by decide) (by decide)) (by decide) (by decide) (by decide)) (by decide)]; decide
theorem knD : dropP [sbC, sbB, sbA] [97, 47, 35] [120] = ([sbC, sbA], true, 0) := by
  rw [dropP_ok (subE_c (filtL_c (by decide) (by decide)) (by decide) (by decide) (by decide))]; decide
theorem knE : ([sbC, sbB, sbA].filter fun s => meetsL s.f [97, 47, 98]) = [sbC, sbB, sbA] := by decide
def toldKn : List (Txt × Nat) := [([120], 2), ([121], 0)]
theorem told_kn {ks : List Txt} {Mp : Txt → Option Nat} (hn : ks.Nodup) (hm : ∀ c, c ∈ ks ↔ (Mp c).isSome = true) (hG : GreatOf [sbC, sbB, sbA] Mp) : ((ks.mergeSort fun x y => decide (x ≤ y)).map fun c => (c, (Mp c).getD 0)) = toldKn := by
  have hx : Mp [120] = some 2 := by
    obtain ⟨h1, h2⟩ := hG [120]
    cases hM : Mp [120] with
    | none => exact absurd rfl (h1.1 hM sbA (by decide))
    | some q =>
      obtain ⟨⟨s, hs, hc, hq⟩, hmx⟩ := h2 q hM
      have h3 : 2 ≤ q := hmx sbB (by decide) rfl
      simp only [List.mem_cons, List.not_mem_nil, or_false] at hs
      rcases hs with rfl | rfl | rfl
      · exact absurd hc (by decide)
      · rw [← hq]; rfl
      · have : q = 1 := hq.symm
        omega
  have hy : Mp [121] = some 0 := by
    obtain ⟨h1, h2⟩ := hG [121]
    cases hM : Mp [121] with
    | none => exact absurd rfl (h1.1 hM sbC (by decide))
    | some q =>
      obtain ⟨⟨s, hs, hc, hq⟩, hmx⟩ := h2 q hM
      simp only [List.mem_cons, List.not_mem_nil, or_false] at hs
      rcases hs with rfl | rfl | rfl
      · rw [← hq]; rfl
      · exact absurd hc (by decide)
      · exact absurd hc (by decide)
  have hp : ks.Perm [[120], [121]] := perm_of_nodup hn (by decide) fun c => by
    rw [hm]
    constructor
    · intro h
      obtain ⟨q, hq⟩ := Option.isSome_iff_exists.1 h
      obtain ⟨⟨s, hs, hc, -⟩, -⟩ := (hG c).2 q hq
      simp only [List.mem_cons, List.not_mem_nil, or_false] at hs
      rcases hs with rfl | rfl | rfl <;> rw [← hc] <;> decide
    · intro h
      simp only [List.mem_cons, List.not_mem_nil, or_false] at h
      rcases h with rfl | rfl
      · rw [hx]; rfl
      · rw [hy]; rfl
  rw [sort_of hp (by decide)]
  simp only [List.map_cons, List.map_nil, hx, hy]
  rfl
set_option maxRecDepth 100000 in
set_option maxHeartbeats 8000000 in
theorem knownM_any (w : World) (ht : Tabs w) : Calls Tryz.prog 9 #[] w fun e w' => e = .returned (.bool true) ∧ Below w.heap.size w w' := by
  go_enter Tryz.func9, Tryz.ntmps9
  go_wp2_with fail
  refine (new_any w).mono ?_
  rintro e w0 ⟨Bk, t0, rfl, hB0, hn0, hb0⟩
  have F0 := Lib.hid (Fresh.mk hB0 hn0 hb0)
  clear hB0 hn0 hb0
  go_wp2_with fail
  refine (set_fresh F0.out ht [97, 47, 43] [120] 1 (by decide) (by decide) knA).mono ?_
  rintro e w1 ⟨rfl, t1, h1⟩
  have F1 := Lib.hid h1
  clear h1 F0
  go_wp2_with fail
  refine (set_fresh F1.out ht [97, 47, 35] [120] 2 (by decide) (by decide) knB).mono ?_
  rintro e w2 ⟨rfl, t2, h2⟩
  have F2 := Lib.hid h2
  clear h2 F1
  go_wp2_with fail
  refine (set_fresh F2.out ht [35] [121] 0 (by decide) (by decide) knC).mono ?_
  rintro e w3 ⟨rfl, t3, h3⟩
  have F3 := Lib.hid h3
  clear h3 F2
  go_wp2_with fail
  refine (bmeets_yes F3.out.book (F3.out.tabs ht) ⟨#[97, 47, 98]⟩ (by decide) (nameL_c (by decide) (by decide))).mono ?_
  rintro e w4 ⟨v4, ks, Mp, rfl, hn4, hm4, hG4, hO4, hb4⟩
  rw [show (⟨#[97, 47, 98]⟩ : ByteArray).data.toList = [97, 47, 98] from rfl, knE] at hG4
  rw [told_kn hn4 hm4 hG4] at hO4
  have F4 := Lib.hid (F3.out.below hb4)
  have HLT := Lib.hid (fun k (hk : BkF Bk t3 k) => F3.out.book.lt hk)
  obtain ⟨va, vc, rfl⟩ := ownTd_slice hO4
  have HO4 := Lib.hid hO4
  clear hn4 hm4 hG4 hO4 hb4 F3
  go_wp2_with fail
  refine (nodes_fresh F4.out [[], [[97]], [[97], [43]], [[97], [35]], [[35]]] (by decide) (by decide) (by decide) (by decide)).mono ?_
  rintro e w5 ⟨rfl, h5, hb5⟩
  have F5 := Lib.hid h5
  have HO5 := Lib.hid (HO4.out.below hb5)
  clear h5 hb5 F4 HO4
  go_wp2_with fail
  refine (drop_fresh F5.out ht [97, 47, 35] [120] (by decide) (by decide) knD).mono ?_
  rintro e w6 ⟨rfl, ⟨t6, h6⟩, hk6⟩
  have F6 := Lib.hid h6
  have HO6 := Lib.hid (HO5.out.kept fun g hg => hk6 g (ownTd_lt HO5.out g hg).2 fun hF => by have := HLT.out g hF; have := (ownTd_lt HO5.out g hg).1; omega)
  clear h6 hk6 F5 HO5 HLT
  have hlen : toldKn.length = 2 := rfl
  go_wp2_with fail
  have hba : Below w6.heap.size w6 (w6.alloc (.cells #[.string ⟨#[120]⟩, .int .i64 2, .string ⟨#[121]⟩, .int .i64 0] 65)) := (Below.refl _ w6).alloc (Nat.le_refl _) _
  have hA2 : OwnTd (w6.alloc (.cells #[.string ⟨#[120]⟩, .int .i64 2, .string ⟨#[121]⟩, .int .i64 0] 65)) w6.heap.size (.slice (some ⟨w6.heap.size, 0, none⟩) 2 2) toldKn :=
    ⟨rfl, .inr ⟨w6.heap.size, 2, _, rfl, Nat.le_refl _, (MapKept.heap_alloc w6 _).1, by decide, by decide, rfl, rfl⟩⟩
  refine (same_told _ w3.heap.size w6.heap.size _ _ toldKn toldKn (HO6.out.below hba) hA2 (by decide)).mono ?_
  rintro e w7 ⟨rfl, hb7⟩
  rw [show (toldKn == toldKn) = true by decide]
  have F7 := Lib.hid ((F6.out.below hba).below hb7)
  clear hba hA2 hb7 F6 HO6 hlen
  go_wp2_with fail
  refine (nodes_fresh F7.out [[], [[97]], [[97], [43]], [[35]]] (by decide) (by decide) (by decide) (by decide)).mono ?_
  rintro e w8 ⟨rfl, h8, -⟩
  have F8 := Lib.hid h8
  clear h8 F7
  go_wp2_with fail
  refine (len_any F8.out.book).mono ?_
  rintro e w9 ⟨rfl, rfl⟩
  go_wp2
  go_ret
  exact ⟨rfl, F8.out.low⟩
end Go.Proofs.YtgcfgheamaoceaaGreatDoor
/- Layer 14: the calls of a book that is not there. -/
namespace Go.Proofs.YtgcfgheamaoceaaGreatDoor
open Go.RowKit Go.MapKept Go.ChangeMaps Go.Maps

/-- No book: nil, or one that no call made. -/
def Abs (w : World) (v : Value) : Prop := v = .pointer none ∨ ∃ Bk, v = .pointer (some ⟨Bk, 0, none⟩) ∧ w.cell? ⟨Bk, 0, none⟩ = some (.pointer none)
theorem Abs.below {w w' : World} {v : Value} (h : Abs w v) (hb : Below w.heap.size w w') : Abs w' v := by
  rcases h with h | ⟨Bk, h, hc⟩
  · exact .inl h
  · exact .inr ⟨Bk, h, (hb.cell (p := ⟨Bk, 0, none⟩) (cell_lt hc)).trans hc⟩
theorem abs_there {w : World} {v : Value} (h : Abs w v) : Calls Tryz.prog 41 #[v] w fun e w' => e = .returned (.bool false) ∧ w = w' := by
  rcases h with rfl | ⟨Bk, rfl, hc⟩
  · exact there_nil w
  · exact there_zero w Bk hc
set_option maxRecDepth 100000 in
theorem abs_may {w : World} {v : Value} (h : Abs w v) (f c : ByteArray) (q : Int) : Calls Tryz.prog 37 #[v, .agg #[.string f, .string c, .int .i64 q]] w fun e w' => e = .returned (.int .i64 1) ∧ Below w.heap.size w w' := by
  have hb : Below w.heap.size w (w.alloc (.cells #[.string f, .string c, .int .i64 q] 31)) := (Below.refl _ w).alloc (Nat.le_refl _) _
  have HT := Lib.hid (abs_there (h.below hb))
  have HB := Lib.hid hb
  clear h hb
  go_enter Tryz.func37, Tryz.ntmps37
  go_wp2_with (go_at_call 41; refine HT.out.mono ?_; rintro e w0 ⟨rfl, rfl⟩)
  go_ret
  exact ⟨rfl, HB.out⟩
set_option maxRecDepth 100000 in
theorem abs_set {w : World} {v : Value} (h : Abs w v) (f c : ByteArray) (q : Int) : Calls Tryz.prog 16 #[v, .agg #[.string f, .string c, .int .i64 q]] w fun e w' => e = .returned (.tuple #[.bool false, .int .i64 1]) ∧ Below w.heap.size w w' := by
  have hb : Below w.heap.size w (w.alloc (.cells #[.string f, .string c, .int .i64 q] 31)) := (Below.refl _ w).alloc (Nat.le_refl _) _
  have HT := Lib.hid (abs_may (h.below hb) f c q)
  have HB := Lib.hid hb
  clear h hb
  go_enter Tryz.func16, Tryz.ntmps16
  go_wp2_with (go_at_call 37; refine HT.out.mono ?_; rintro e w1 ⟨rfl, hb1⟩; have HB1 := Lib.hid (HB.out.trans (hb1.mono HB.out.size)); clear hb1)
  refine bodyPost_ret (results_tmp2 rfl _ _ _) rfl ?_
  exact ⟨rfl, HB1.out⟩
set_option maxRecDepth 100000 in
theorem abs_drop {w : World} {v : Value} (h : Abs w v) (f c : ByteArray) : Calls Tryz.prog 21 #[v, .string f, .string c] w fun e w' => e = .returned (.tuple #[.bool false, .int .i64 1]) ∧ Below w.heap.size w w' := by
  have HT := Lib.hid (abs_may h f c 0)
  clear h
  go_enter Tryz.func21, Tryz.ntmps21
  go_wp2_with (go_at_call 37; refine HT.out.mono ?_; rintro e w1 ⟨rfl, hb1⟩; have HB1 := Lib.hid hb1; clear hb1)
  refine bodyPost_ret (results_tmp2 rfl _ _ _) rfl ?_
  exact ⟨rfl, HB1.out⟩
set_option maxRecDepth 100000 in
theorem abs_leave {w : World} {v : Value} (h : Abs w v) (c : ByteArray) : Calls Tryz.prog 24 #[v, .string c] w fun e w' => e = .returned (.tuple #[.int .i64 0, .int .i64 1]) ∧ Below w.heap.size w w' := by
  have HT := Lib.hid (abs_there h)
  clear h
  go_enter Tryz.func24, Tryz.ntmps24
  go_wp2_with (go_at_call 41; refine HT.out.mono ?_; rintro e w1 ⟨rfl, rfl⟩)
  refine bodyPost_ret (results_tmp2 rfl _ _ _) rfl ?_
  exact ⟨rfl, Below.refl _ _⟩
set_option maxRecDepth 100000 in
theorem abs_meets {w : World} {v : Value} (h : Abs w v) (c : ByteArray) : Calls Tryz.prog 17 #[v, .string c] w fun e w' => e = .returned (.tuple #[.slice none 0 0, .int .i64 1]) ∧ Below w.heap.size w w' := by
  have HT := Lib.hid (abs_there h)
  clear h
  go_enter Tryz.func17, Tryz.ntmps17
  go_wp2_with (go_at_call 41; refine HT.out.mono ?_; rintro e w1 ⟨rfl, rfl⟩)
  refine bodyPost_ret (results_tmp2 rfl _ _ _) rfl ?_
  exact ⟨rfl, Below.refl _ _⟩
set_option maxRecDepth 100000 in
theorem abs_len {w : World} {v : Value} (h : Abs w v) : Calls Tryz.prog 26 #[v] w fun e w' => e = .returned (.int .i64 0) ∧ Below w.heap.size w w' := by
  have HT := Lib.hid (abs_there h)
  clear h
  go_enter Tryz.func26, Tryz.ntmps26
  go_wp2_with (go_at_call 41; refine HT.out.mono ?_; rintro e w1 ⟨rfl, rfl⟩)
  go_ret
  exact ⟨rfl, Below.refl _ _⟩
set_option maxRecDepth 100000 in
theorem abs_nodes {w : World} {v : Value} (h : Abs w v) : Calls Tryz.prog 20 #[v] w fun e w' => e = .returned (.int .i64 0) ∧ Below w.heap.size w w' := by
  have HT := Lib.hid (abs_there h)
  clear h
  go_enter Tryz.func20, Tryz.ntmps20
  go_wp2_with (go_at_call 41; refine HT.out.mono ?_; rintro e w1 ⟨rfl, rfl⟩)
  go_ret
  exact ⟨rfl, Below.refl _ _⟩
set_option maxRecDepth 100000 in
theorem abs_copy {w : World} {v : Value} (h : Abs w v) : Calls Tryz.prog 22 #[v] w fun e w' => e = .returned (.pointer none) ∧ Below w.heap.size w w' := by
  have HT := Lib.hid (abs_there h)
  clear h
  go_enter Tryz.func22, Tryz.ntmps22
  go_wp2_with (go_at_call 41; refine HT.out.mono ?_; rintro e w1 ⟨rfl, rfl⟩)
  go_ret
  exact ⟨rfl, Below.refl _ _⟩
set_option maxRecDepth 100000 in
theorem abs_sieved {w : World} {v : Value} (h : Abs w v) (f : Fn) (lb : Array Value) : Calls Tryz.prog 35 #[v, .func f #[] lb] w fun e w' => e = .returned (.slice none 0 0) ∧ Below w.heap.size w w' := by
  obtain ⟨w1, hw1⟩ : ∃ w1, w.alloc (.cells #[.func f #[] lb] 60) = w1 := ⟨_, rfl⟩
  obtain ⟨w2, hw2⟩ : ∃ w2, w1.alloc (.cells #[.slice none 0 0] 27) = w2 := ⟨_, rfl⟩
  have hb1 : Below w.heap.size w w1 := by rw [← hw1]; exact (Below.refl _ w).alloc (Nat.le_refl _) _
  have hb2 : Below w.heap.size w w2 := by rw [← hw2]; exact hb1.alloc hb1.size _
  have hr2 : Boxed w2 w1.heap.size 27 (.slice none 0 0) := by rw [← hw2]; exact Boxed.new w1 _ _
  have hc2 := hr2.cell
  have hf2 := hr2.frozen
  have hs1 : w1.heap.size = w.heap.size + 1 := by rw [← hw1]; simp
  rw [hs1] at hr2 hc2 hf2
  have HB := Lib.hid (And.intro hb2 hr2)
  clear hb1 hb2 hr2
  go_enter Tryz.func35, Tryz.ntmps35
  go_wp2_with fail
  refine (abs_there (h.below HB.out.1)).mono ?_
  rintro e w3 ⟨rfl, rfl⟩
  clear hw1 hw2 h hs1
  go_wp2
  refine bodyPost_ret (results_box rfl _ _ _ _ rfl (HB.out.2.set _)) rfl ?_
  exact ⟨rfl, HB.out.1.setCell (p := ⟨w.heap.size + 1, 0, none⟩) (Nat.le_succ _) _⟩
set_option maxRecDepth 100000 in
theorem abs_of {w : World} {v : Value} (h : Abs w v) (c : ByteArray) : Calls Tryz.prog 14 #[v, .string c] w fun e w' => e = .returned (.slice none 0 0) ∧ Below w.heap.size w w' := by
  have hb : Below w.heap.size w (w.alloc (.cells #[.string c] 9)) := (Below.refl _ w).alloc (Nat.le_refl _) _
  have HS := Lib.hid (fun f lb => abs_sieved (h.below hb) f lb)
  have HB := Lib.hid hb
  clear h hb
  go_enter Tryz.func14, Tryz.ntmps14
  go_wp2_with (go_at_call 35; refine (HS.out _ _).mono ?_; rintro e w1 ⟨rfl, hb1⟩; have HB1 := Lib.hid (HB.out.trans (hb1.mono HB.out.size)); clear hb1)
  go_ret
  exact ⟨rfl, HB1.out⟩
theorem valuesS_any (w : World) (a : Option Addr) (n c : Nat) : Calls Tryz.prog 51 #[.slice a n c] w fun e w' => e = .returned (.func (.func 83) #[] #[.pointer (some ⟨w.heap.size, 0, none⟩)]) ∧ w' = w.alloc (.cells #[.slice a n c] 27) := by
  go_enter Tryz.func51, Tryz.ntmps51
  go_wp2
  go_ret
  exact ⟨rfl, rfl⟩
set_option maxRecDepth 100000 in
theorem abs_all {w : World} {v : Value} (h : Abs w v) : Calls Tryz.prog 23 #[v] w fun e w' => ∃ Bm, e = .returned (.func (.func 83) #[] #[.pointer (some ⟨Bm, 0, none⟩)]) ∧ w'.cell? ⟨Bm, 0, none⟩ = some (.slice none 0 0) ∧ Bm < w'.heap.size ∧ Below w.heap.size w w' := by
  have HS := Lib.hid (fun f lb => abs_sieved h f lb)
  clear h
  go_enter Tryz.func23, Tryz.ntmps23
  go_wp2_with (first
    | (go_at_call 35; refine (HS.out _ _).mono ?_; rintro e w1 ⟨rfl, hb1⟩; have HB1 := Lib.hid hb1; clear hb1)
    | (go_at_call 51; refine (valuesS_any _ _ _ _).mono ?_; rintro e w2 ⟨rfl, rfl⟩))
  go_ret
  exact ⟨_, rfl, cell_alloc_new _ _ _, by simp, HB1.out.alloc HB1.out.size _⟩
/-- slices.Values of nothing. -/
theorem values_nil (n : Nat) (Bm : Nat) (w : World) (hBm : Bm < w.heap.size) (hc : w.cell? ⟨Bm, 0, none⟩ = some (.slice none 0 0)) : SeqStopsK (α := Sb) Fence.wide n Tryz.prog 83 #[.pointer (some ⟨Bm, 0, none⟩)] (fun s => #[sbV s]) KeepsWalks (fun xs => xs = []) (fun _ => False) 0 w := by
  intro l J Jx W hW hJ hJx hY h0
  have hc2 := (hW.cell (p := ⟨Bm, 0, none⟩) hBm).trans hc
  have HJ := Lib.hid h0
  clear hJ hJx hY h0
  refine callsIn_of_wp Tryz.func83 rfl trivial ?_ rfl
  simp only [Tryz.ntmps83, List.size_toArray, List.length_cons, List.length_nil, Nat.reduceAdd, Nat.reduceSub, Array.replicate_succ, Array.replicate_zero, List.push_toArray, List.append_toArray, List.nil_append, List.cons_append]
  gi_wp2
  refine wpIn_loop_rounds 1 ?_
  rw [roundsIn_succ]
  gi_wp2
  go_end0
  exact ⟨⟨_, rfl⟩, .inl ⟨[], rfl, HJ.out⟩⟩
theorem results_boxB {fn : Func} {p : Tmp} (h : fn.results = #[.cell p 4]) (tmps : Array Value) (w : World) (B : Nat) (v : Value) (hp : tmps.getD p undef = .pointer (some ⟨B, 0, none⟩)) (hb : Boxed w B 4 v) : (results fn tmps).run Tryz.prog w = .ok v w := by
  have hp' : tmps[p]?.getD undef = .pointer (some ⟨B, 0, none⟩) := by simpa using hp
  have hc := hb.cell
  simp [results, h, hp', asAddr, loadVar, hc, go_sem, Result.andThen]
def SmI (W0 W1 : World) (l : Array Bool) (W : World) : Prop := (l.getD 5 false = false → W = W0) ∧ (l.getD 5 false = true → W = W1)
theorem SmI.still {W0 W1 W : World} {l : Array Bool} (h : SmI W0 W1 l W) {i : Nat} (hi : i ≠ 5) : SmI W0 W1 (l.setIfInBounds i true) W := by
  unfold SmI at h ⊢
  rwa [getD_set_ne hi]
theorem SmI.done {W0 W1 : World} {l : Array Bool} (h5 : 5 < l.size) : SmI W0 W1 (l.setIfInBounds 5 true) W1 := ⟨fun e => by simp [h5] at e, fun _ => rfl⟩
theorem store_b {w : World} {C : Nat} {u : Value} (h : w.cell? ⟨C, 0, none⟩ = some u) (hf : w.frozen? ⟨C, 0, none⟩ = false) (b : Bool) : (Instr.storeAt 4 (.pointer (some ⟨C, 0, none⟩)) (.bool b)).run Tryz.prog w = .ok () (w.setCell ⟨C, 0, none⟩ (.bool b)) := by
  have hz : (sizeOf 4).run Tryz.prog w = .ok 1 w := by kernel_rfl
  simp [Instr.storeAt, Instr.sureAddr, storeVar, storeCells, hz, go_sem, Result.andThen, h, hf]
def SmA (u : Value) (a0 : Option Addr) : Nat → Value → World → Prop
  | 0, v, _ => v = u
  | 1, v, _ => v = .bool false
  | 2, v, _ => v = .pointer a0
  | 3, v, _ => v = .bool false
  | 4, v, _ => v = .bool true
  | _, _, _ => True
theorem SmA.any {u : Value} {a0 : Option Addr} {w w' : World} : ∀ j x, SmA u a0 j x w → SmA u a0 j x w' := by
  intro j x h
  unfold SmA at h ⊢
  split at h <;> first | exact h | trivial
set_option maxRecDepth 100000 in
theorem abs_same {w : World} {u : Value} {a0 : Option Addr} (h : Abs w u) (k : Abs w (.pointer a0)) : Calls Tryz.prog 19 #[u, .pointer a0] w fun e w' => e = .returned (.bool true) ∧ Below w.heap.size w w' := by
  obtain ⟨w1, hw1⟩ : ∃ w1, w.alloc (.cells #[.pointer a0] 25) = w1 := ⟨_, rfl⟩
  obtain ⟨w2, hw2⟩ : ∃ w2, w1.alloc (.cells #[.bool false] 4) = w2 := ⟨_, rfl⟩
  have hb1 : Below w.heap.size w w1 := by rw [← hw1]; exact (Below.refl _ w).alloc (Nat.le_refl _) _
  have hb2 : Below w.heap.size w w2 := by rw [← hw2]; exact hb1.alloc hb1.size _
  have hs1 : w1.heap.size = w.heap.size + 1 := by rw [← hw1]; simp
  have hr2 : Boxed w2 (w.heap.size + 1) 4 (.bool false) := by rw [← hw2, ← hs1]; exact Boxed.new w1 _ _
  have hx1 : w2.cell? ⟨w.heap.size, 0, none⟩ = some (.pointer a0) := by
    rw [← hw2]
    refine (World.cell?_of_block (a := ⟨w.heap.size, 0, none⟩) ((World.grownBy_alloc w1 _ none).block _ (show w.heap.size < w1.heap.size by omega) (by simp))).trans ?_
    rw [← hw1]; exact cell_alloc_new _ _ _
  have hc2 := hr2.cell
  have hf2 := hr2.frozen
  have HB := Lib.hid (And.intro hb2 hr2)
  have HT : Hid (∀ W, Below w.heap.size w W → ∀ x, (x = u ∨ x = .pointer a0) → Calls Tryz.prog 41 #[x] W fun e w' => e = .returned (.bool false) ∧ W = w') := Lib.hid fun W hb x hx => by
    rcases hx with rfl | rfl
    · exact abs_there (h.below hb)
    · exact abs_there (k.below hb)
  have HD := Lib.hid hb2.drew
  clear hb1 hb2 hr2 h k
  go_enter Tryz.func19, Tryz.ntmps19
  go_wp2_with fail
  refine (HT.out _ HB.out.1 _ (.inl rfl)).mono ?_
  rintro e w3 ⟨rfl, rfl⟩
  clear hw1 hw2
  go_wp2_with fail
  refine wp_region_m (SmI w2.drew (w2.drew.setCell ⟨w.heap.size + 1, 0, none⟩ (.bool true))) (SmA u a0) (by kernel_rfl) (by kernel_rfl) (by kernel_rfl) (by kernel_rfl) ⟨fun _ => rfl, fun h => by cases h⟩ ?step ?fin
  case step =>
    intro i o ho listed a w' hI hn' hpre
    have hJ := hI.inv
    have hi : i < 6 := (Array.getElem?_eq_some_iff.1 ho).1
    match i, hi with
    | 0, _ =>
      cases ho
      exact wpOp_move rfl rfl (.inl rfl) (hI.kept (t := 0) (by kernel_rfl)) ⟨_, rfl, (SmI.still hJ (by decide)), fun _ => rfl, fun _ _ _ h => h⟩
    | 1, _ =>
      cases ho
      refine wpOp_callFn rfl rfl rfl (vs := #[u]) (by simp only [List.map_toArray, List.map_cons, List.map_nil, (show a.eval (.tmp 16) = u from (hI.slot 0 16 rfl (hpre ⟨0, .data⟩ (by simp) rfl) rfl))]) (fun _ _ => by kernel_rfl) ((HT.out w' (by rw [hJ.1 (hI.notyet (hI.notyet hn' 4 (by kernel_rfl)) 5 (by kernel_rfl))]; exact HD.out) _ (.inl rfl)).mono ?_)
      rintro e' w9 ⟨rfl, rfl⟩
      exact ⟨_, rfl, _, rfl, SmI.still hJ (by decide), fun _ => rfl, fun _ _ _ h => h⟩
    | 2, _ =>
      cases ho
      exact wpOp_load rfl rfl rfl (hI.kept (t := 3) (by kernel_rfl)) (load_c (Tryz.isAgg25 w') (by rw [hJ.1 (hI.notyet (hI.notyet (hI.notyet hn' 3 (by kernel_rfl)) 4 (by kernel_rfl)) 5 (by kernel_rfl))]; exact hx1)) ⟨_, rfl, (SmI.still hJ (by decide)), fun _ => rfl, fun _ _ _ h => h⟩
    | 3, _ =>
      cases ho
      refine wpOp_callFn rfl rfl rfl (vs := #[.pointer a0]) (by simp only [List.map_toArray, List.map_cons, List.map_nil, (show a.eval (.tmp 18) = .pointer a0 from (hI.slot 2 18 rfl (hpre ⟨2, .data⟩ (by simp) rfl) rfl))]) (fun _ _ => by kernel_rfl) ((HT.out w' (by rw [hJ.1 (hI.notyet (hI.notyet hn' 4 (by kernel_rfl)) 5 (by kernel_rfl))]; exact HD.out) _ (.inr rfl)).mono ?_)
      rintro e' w9 ⟨rfl, rfl⟩
      exact ⟨_, rfl, _, rfl, SmI.still hJ (by decide), fun _ => rfl, fun _ _ _ h => h⟩
    | 4, _ =>
      cases ho
      exact wpOp_bin rfl rfl rfl (hI.slot 1 17 rfl (hpre ⟨1, .data⟩ (by simp) rfl) rfl) (hI.slot 3 19 rfl (hpre ⟨3, .data⟩ (by simp) rfl) rfl) (by simp [go_sem]) (by simp [go_sem]) ⟨_, rfl, (SmI.still hJ (by decide)), fun _ => rfl, fun _ _ _ h => h⟩
    | 5, _ =>
      cases ho
      have e9 := hJ.1 hn'
      subst e9
      exact wpOp_store rfl rfl rfl (show a.eval (.tmp 4) = .pointer (some ⟨w.heap.size + 1, 0, none⟩) from hI.kept (t := 4) (by kernel_rfl)) (hI.slot 4 20 rfl (hpre ⟨4, .data⟩ (by simp) rfl) rfl) (store_b (w := w2.drew) hc2 hf2 true) ⟨_, rfl, SmI.done (by rw [hI.size]; decide), fun _ => trivial, fun j x _ h => SmA.any j x h⟩
  case fin =>
    intro listed a w' hI hall
    have hJ := hI.inv
    obtain ⟨vs, hvl, hvs, e⟩ := hI.frame 16 5 (Nat.le_of_ble_eq_true (by kernel_rfl)) (by kernel_rfl)
    have hJ := hJ.2 (hall 5 (by decide))
    subst hJ
    clear hI hall hvs
    match vs, hvl with
    | [x0, x1, x2, x3, x4], _ =>
    simp only [List.take_succ_cons, List.take_zero, List.drop_succ_cons, List.drop_zero, List.cons_append, List.nil_append, Nat.reduceAdd] at e
    subst e
    clear HT
    go_wp2
    refine bodyPost_ret (results_boxB rfl _ _ _ _ rfl ((show Boxed w2.drew (w.heap.size + 1) 4 (.bool false) from HB.out.2).set _)) rfl ?_
    exact ⟨rfl, HD.out.setCell (p := ⟨w.heap.size + 1, 0, none⟩) (Nat.le_succ _) _⟩
end Go.Proofs.YtgcfgheamaoceaaGreatDoor
/- Layer 14: the law's list of a book that is not there; its few, of one act. -/
namespace Go.Proofs.YtgcfgheamaoceaaGreatDoor
open Go.RowKit Go.MapKept Go.ChangeMaps Go.Maps

theorem eq_nilF (f : Nat) (lb : Array Value) (w : World) : (binOp .eql 51 (.func (.func f) #[] lb) .nilFunc).run Tryz.prog w = .ok (.bool false) w := by
  first | kernel_rfl | simp [go_sem]
attribute [local go_sem] Oper.semAt_some
set_option maxRecDepth 100000 in
set_option maxHeartbeats 4000000 in
theorem abs_list {w : World} {v : Value} (h : Abs w v) : Calls Tryz.prog 25 #[v] w fun e w' => e = .returned (.slice none 0 0) ∧ Below w.heap.size w w' := by
  obtain ⟨w1, hw1⟩ : ∃ w1, w.alloc (.cells #[.slice none 0 0] 27) = w1 := ⟨_, rfl⟩
  have hb1 : Below w.heap.size w w1 := by rw [← hw1]; exact (Below.refl _ w).alloc (Nat.le_refl _) _
  have hr1 : Boxed w1 w.heap.size 27 (.slice none 0 0) := by rw [← hw1]; exact Boxed.new w _ _
  have HA := Lib.hid (abs_all (h.below hb1))
  have HB := Lib.hid (And.intro hb1 hr1)
  clear hb1 hr1 h
  refine (callsIn_wide (n := 9)).1 ?_
  refine callsIn_of_wp_marks Tryz.func25 rfl trivial ?_ rfl
  simp only [Tryz.ntmps25, List.size_toArray, List.length_cons, List.length_nil, Nat.reduceAdd, Nat.reduceSub, Array.replicate_succ, Array.replicate_zero, List.push_toArray, List.append_toArray, List.nil_append, List.cons_append]
  gi_wp2_with fail
  try rw [hw1]
  refine ⟨trivial, (callsIn_wide.2 HA.out).mono ?_⟩
  rintro en w2 ⟨Bm, rfl, hBc, hBl, hb2⟩
  have hnl := eq_nilF 83 #[.pointer (some ⟨Bm, 0, none⟩)] w2
  have HV := values_nil 8 Bm w2 hBl hBc
  have HX := Lib.hid (And.intro HV hb2)
  clear HV hb2 HA hw1 hBc
  gi_wp2
  obtain ⟨HV, hb2⟩ := HX.out
  obtain ⟨hb1, hr1⟩ := HB.out
  have hl1 : w.heap.size < w1.heap.size := hr1.lt
  have hb12 : Below w.heap.size w w2 := hb1.trans (hb2.mono hb1.size)
  refine wpIn_rangeFunc_ownH (n := 9) (ps := #[11]) rfl (Nat.le_of_ble_eq_true rfl) (gf := 83) (lb := #[.pointer (some ⟨Bm, 0, none⟩)]) rfl trivial (enters_of Tryz.func83 (by kernel_rfl) rfl) HV walksK_t walksK_b (Below.refl _ _) (fun _ => rfl)
    (fun pre W => pre = [] ∧ Below w2.heap.size w2 W) (fun _ _ _ => False)
    (fun pre A B row hs hg hr => ⟨hs.1, hs.2.trans ⟨hg.os, hg.tape, hg.output, hg.size, fun i hi => hg.block i (Nat.lt_of_lt_of_le hi hs.2.size) fun e => by have := (hr _ e.symm).1; omega⟩⟩)
    (fun _ _ _ _ _ hs _ _ => hs) ⟨rfl, Below.refl _ _⟩ (fun _ _ _ => True) (fun _ _ _ _ _ _ _ _ _ => trivial) ?assign ?body ?done ?stop
  case assign =>
    rintro l pre x W K ⟨rfl, hbW⟩ hK
    obtain ⟨f, c, q⟩ := x
    unfold sbV at *
    gi_wp2
    exact hK _ _ ((KeepsOthers.alloc W _).from _) (KeepsOthers.alloc W _).walks ⟨trivial, hbW.alloc hbW.size _⟩ trivial
  case body =>
    rintro l pre x a' W hl - ⟨rfl, hbW⟩ - hlen
    exact absurd hlen (by simp)
  case done =>
    rintro D xs W hD hS ⟨rfl, hbW⟩ hK
    have hrW : Boxed W w.heap.size 27 (.slice none 0 0) := (hbW.block _ (Nat.lt_of_lt_of_le hl1 hb2.size)).trans ((hb2.block _ hl1).trans hr1)
    have hcW := hrW.cell
    have HZ := Lib.hid (hb12.trans (hbW.mono hb12.size))
    have HD := Lib.hid (Nat.le_trans hb12.size hD)
    clear hbW hrW hb1 hr1 hb2 hb12 HB HX HV hl1 hD
    gi_wp2
    refine ⟨by simp, .inl ⟨_, _, rfl, run_takeDeferred hK, ?_⟩⟩
    refine ⟨_, results_tmp rfl _ _ _, ?_⟩
    exact ⟨rfl, HZ.out.grown (grownBy_putObj' W D _) HZ.out.size (fun k e => by cases e; have := HD.out; omega)⟩
  case stop =>
    rintro D c pre W _ _ h _
    exact h.elim
set_option maxRecDepth 100000 in
set_option maxHeartbeats 4000000 in
theorem few_one (w : World) (B : Nat) (k q : Int) (f c : ByteArray) (hf : f.size ≤ maxLen) (h : w.heap[B]? = some (.cells #[.int .i64 k, .string f, .string c, .int .i64 q] 33 (0, 0))) :
    Calls Tryz.prog 8 #[.slice (some ⟨B, 0, none⟩) 1 1, .int .i64 1] w fun e w' => e = .returned (.bool (decide (f.size ≤ 300) && decide (c.size ≤ 300))) ∧ Below w.heap.size w w' := by
  have c1 : w.cell? ⟨B, 1, none⟩ = some (.string f) := by rw [cell_of_row _ _ _ _ _ _ h]; rfl
  have c2 : w.cell? ⟨B, 2, none⟩ = some (.string c) := by rw [cell_of_row _ _ _ _ _ _ h]; rfl
  clear h
  have hwi : IntKind.i64.wrap ((f.size : Nat) : Int) = f.size := by rw [IntKind.wrap_i64]; unfold maxLen at hf; omega
  by_cases hF : f.size ≤ 300
  case neg =>
    have hF2 : (300 : Int) < (f.size : Int) := by omega
    rw [show (decide (f.size ≤ 300) && decide (c.size ≤ 300)) = false by simp [hF]]
    go_enter Tryz.func8, Tryz.ntmps8
    go_wp2
    refine wp_loop_rounds 2 ?_
    rw [rounds_succ]
    go_wp2
    go_ret
    exact ⟨rfl, Below.refl _ _⟩
  case pos =>
    have hF2 : ¬ (300 : Int) < (f.size : Int) := by omega
    by_cases hC : c.size ≤ 300
    case neg =>
      have hC2 : (300 : Int) < (c.size : Int) := by omega
      rw [show (decide (f.size ≤ 300) && decide (c.size ≤ 300)) = false by simp [hC]]
      go_enter Tryz.func8, Tryz.ntmps8
      go_wp2
      refine wp_loop_rounds 2 ?_
      rw [rounds_succ]
      go_wp2
      go_ret
      exact ⟨rfl, Below.refl _ _⟩
    case pos =>
      have hC2 : ¬ (300 : Int) < (c.size : Int) := by omega
      rw [show (decide (f.size ≤ 300) && decide (c.size ≤ 300)) = true by simp [hF, hC]]
      have hF3 : ((f.size : Int) ≤ 300) := by omega
      have hC3 : ((c.size : Int) ≤ 300) := by omega
      have hF4 : (decide ((300 : Int) < (f.size : Int))) = false := by simp; omega
      have hC4 : (decide ((300 : Int) < (c.size : Int))) = false := by simp; omega
      clear hF hC
      go_enter Tryz.func8, Tryz.ntmps8
      go_wp2
      refine wp_loop_rounds 2 ?_
      rw [rounds_succ]
      go_wp2
      rw [rounds_succ]
      go_wp2
      go_ret
      exact ⟨rfl, Below.refl _ _⟩
end Go.Proofs.YtgcfgheamaoceaaGreatDoor
/- Layer 14: the law MatchNil (its drawn region's text: wip/tools/mkmatnil.py). -/
namespace Go.Proofs.YtgcfgheamaoceaaGreatDoor
open Go.RowKit Go.MapKept Go.ChangeMaps Go.Maps

section
variable {P : Program} {ops : Array Oper} {Q : Exit → Act → World → Prop} {i : Nat} {o : Oper} {a : Act} {w : World} {K : Act → World → Prop}
theorem wpOp_pick3 {c x y : Operand} {b : Bool} {v u : Value} (ho : ops[i]? = some o) (hg : Region.wanted o (yielded ops a.tmps) = true) (hop : o.op = .pick c x y) (hc : a.eval c = .bool b) (hx : b = true → a.eval x = v) (hy : b = false → a.eval y = u) (hK : K (a.put o.dst (if b then v else u)) w) : wpOp P ops Q i K a w := by
  cases b with
  | true => exact wpOp_val (v := v) (w' := w) ho hg (by simp [execOp, hop, hc, hx rfl, asBool]) hK
  | false => exact wpOp_val (v := u) (w' := w) ho hg (by simp [execOp, hop, hc, hy rfl, asBool]) hK
end
theorem pick_and (c d : Bool) : (if c then Value.bool d else .bool false) = .bool (c && d) := by cases c <;> rfl
def NiV (A Z : Nat) (c : ByteArray) : Nat → Value → World → Prop
  | 0, v, _ => v = .int .i64 1
  | 1, v, _ => v = .bool true
  | 2, v, _ => v = .bool true
  | 3, v, _ => (true) = true → v = .int .i64 1
  | 4, v, _ => (true) = true → v = .bool true
  | 5, v, _ => v = .bool true
  | 6, v, _ => v = .bool true
  | 7, v, _ => (true) = true → v = .int .i64 1
  | 8, v, _ => (true) = true → v = .bool true
  | 9, v, _ => v = .bool true
  | 10, v, _ => v = .bool true
  | 11, v, _ => (true) = true → v = .int .i64 1
  | 12, v, _ => (true) = true → v = .bool true
  | 13, v, _ => v = .bool true
  | 14, v, _ => v = .bool true
  | 15, v, _ => (true) = true → v = .pointer none
  | 16, v, _ => (true) = true → v = .slice none 0 0
  | 17, v, _ => (true) = true → v = .int .i64 0
  | 18, v, _ => (true) = true → v = .pointer (some ⟨Z, 0, none⟩)
  | 19, v, _ => (true) = true → v = .pointer (some ⟨A, 1, none⟩)
  | 20, v, _ => (true) = true → v = .string c
  | 21, v, _ => (true) = true → v = .slice none 0 0
  | 22, v, _ => (true) = true → v = .int .i64 0
  | 23, v, _ => (true) = true → v = .int .i64 0
  | 24, v, _ => (true) = true → v = .bool true
  | 25, v, _ => v = .bool true
  | 26, v, _ => v = .bool true
  | 27, v, _ => (true) = true → v = .pointer none
  | 28, v, _ => (true) = true → v = .int .i64 0
  | 29, v, _ => (true) = true → v = .pointer (some ⟨Z, 0, none⟩)
  | 30, v, _ => (true) = true → v = .int .i64 0
  | 31, v, _ => (true) = true → v = .int .i64 0
  | 32, v, _ => (true) = true → v = .bool true
  | 33, v, _ => v = .bool true
  | 34, v, _ => v = .bool true
  | 35, v, _ => (true) = true → v = .pointer (some ⟨Z, 0, none⟩)
  | 36, v, _ => (true) = true → v = .pointer none
  | 37, v, _ => (true) = true → v = .bool true
  | 38, v, _ => v = .bool true
  | 39, v, _ => v = .bool true
  | 40, v, _ => (true) = true → v = .pointer none
  | 41, v, _ => (true) = true → v = .pointer (some ⟨Z, 0, none⟩)
  | 42, v, _ => (true) = true → v = .bool true
  | 43, v, _ => v = .bool true
  | 44, v, _ => v = .bool true
  | 45, v, _ => (true) = true → v = .bool true
  | 46, v, _ => v = .bool true
  | 47, v, _ => v = .bool true
  | _, _, _ => True
theorem NiV.any {A Z : Nat} {c : ByteArray} {w w' : World} : ∀ j x, NiV A Z c j x w → NiV A Z c j x w' := by
  intro j x h
  unfold NiV at h ⊢
  split at h <;> first | exact h | trivial
set_option maxRecDepth 100000 in
set_option maxHeartbeats 8000000 in
theorem matchNil_any (f c : ByteArray) (q : Int) (hf : f.size ≤ maxLen) (w : World) (ht : Tabs w) : Calls Tryz.prog 6 #[.agg #[.string f, .string c, .int .i64 q]] w fun e w' => e = .returned (.bool true) ∧ Below w.heap.size w w' := by
  have h2 := ht.two
  obtain ⟨w1, hw1⟩ : ∃ w1, w.alloc (.cells #[.string f, .string c, .int .i64 q] 31) = w1 := ⟨_, rfl⟩
  obtain ⟨w2, hw2⟩ : ∃ w2, w1.alloc (.cells #[.int .i64 1, .string f, .string c, .int .i64 q] 33) = w2 := ⟨_, rfl⟩
  obtain ⟨A, hA⟩ : ∃ A, w.heap.size = A := ⟨_, rfl⟩
  have hb1 : Below w.heap.size w w1 := by rw [← hw1]; exact (Below.refl _ w).alloc (Nat.le_refl _) _
  have hb2 : Below w.heap.size w w2 := by rw [← hw2]; exact hb1.alloc hb1.size _
  have rA : w1.heap[A]? = some (.cells #[.string f, .string c, .int .i64 q] 31 (0, 0)) := by rw [← hw1, ← hA]; exact (MapKept.heap_alloc w _).1
  have hAl : A < w1.heap.size := (Array.getElem?_eq_some_iff.1 rA).1
  have rA2 : w2.heap[A]? = some (.cells #[.string f, .string c, .int .i64 q] 31 (0, 0)) := by rw [← hw2]; exact ((World.grownBy_alloc w1 _ none).block _ hAl (by simp)).trans rA
  have rB : w2.heap[w1.heap.size]? = some (.cells #[.int .i64 1, .string f, .string c, .int .i64 q] 33 (0, 0)) := by rw [← hw2]; exact (MapKept.heap_alloc w1 _).1
  have HF := Lib.hid (few_one w2 w1.heap.size 1 q f c hf rB)
  have HB := Lib.hid (And.intro hb2 rA2)
  obtain ⟨-, a0, a1, a2, -, -, -⟩ := box3 rA
  clear hb1 hb2 rA rA2 rB
  go_enter Tryz.func6, Tryz.ntmps6
  go_wp2_with fail
  cases hD : (decide (f.size ≤ 300) && decide (c.size ≤ 300)) with
  | false =>
    rw [hD] at HF
    refine HF.out.mono ?_
    rintro e w3 ⟨rfl, hb3⟩
    have HB3 := Lib.hid (HB.out.1.trans (hb3.mono HB.out.1.size))
    clear hb3 HF HB hD hw1 hw2
    go_wp2_with fail
    refine (knownM_any w3 (ht.below HB3.out h2)).mono ?_
    rintro e w4 ⟨rfl, hb4⟩
    have HB4 := Lib.hid (HB3.out.trans (hb4.mono HB3.out.size))
    clear hb4 HB3
    go_wp2
    go_ret
    exact ⟨rfl, hA ▸ HB4.out⟩
  | true =>
    rw [hD] at HF
    refine HF.out.mono ?_
    rintro e w3 ⟨rfl, hb3⟩
    obtain ⟨w4, hw4⟩ : ∃ w4, w3.alloc (.cells #[.pointer none] 56) = w4 := ⟨_, rfl⟩
    obtain ⟨Z, hZ⟩ : ∃ Z, w3.heap.size = Z := ⟨_, rfl⟩
    have HS4 : Hid (Below w.heap.size w w4 ∧ w4.heap[A]? = some (.cells #[.string f, .string c, .int .i64 q] 31 (0, 0)) ∧ Abs w4 (.pointer (some ⟨Z, 0, none⟩))) := by
      have hb4 : Below w3.heap.size w3 w4 := by rw [← hw4]; exact (Below.refl _ w3).alloc (Nat.le_refl _) _
      have r2 := HB.out.2
      have l2 : A < w2.heap.size := (Array.getElem?_eq_some_iff.1 r2).1
      have r3 := (hb3.block A l2).trans r2
      refine Lib.hid ⟨(HB.out.1.trans (hb3.mono HB.out.1.size)).trans (hb4.mono (Nat.le_trans HB.out.1.size hb3.size)), (hb4.block A (Nat.lt_of_lt_of_le l2 hb3.size)).trans r3, .inr ⟨Z, rfl, ?_⟩⟩
      rw [← hw4, ← hZ]; exact cell_alloc_new _ _ _
    clear hb3 HF HB hD hw1 hw2 a0 a1 a2 hAl
    obtain ⟨-, p0, p1, p2, -, -, -⟩ := box3 HS4.out.2.1
    go_wp2_with fail
    refine (abs_set (w := w4) (.inl rfl) f c q).mono ?_
    rintro e w5 ⟨rfl, hb5⟩
    have HS5 := Lib.hid (And.intro (HS4.out.1.trans (hb5.mono HS4.out.1.size)) (And.intro ((hb5.block A (Array.getElem?_eq_some_iff.1 HS4.out.2.1).1).trans HS4.out.2.1) (HS4.out.2.2.below hb5)))
    clear hb5 HS4 p0 p1 p2 hw4 hZ
    obtain ⟨-, p0, p1, p2, -, -, -⟩ := box3 HS5.out.2.1
    go_wp2_with fail
    refine (abs_drop HS5.out.2.2 f c).mono ?_
    rintro e w6 ⟨rfl, hb6⟩
    have HS6 := Lib.hid (And.intro (HS5.out.1.trans (hb6.mono HS5.out.1.size)) (And.intro ((hb6.block A (Array.getElem?_eq_some_iff.1 HS5.out.2.1).1).trans HS5.out.2.1) (HS5.out.2.2.below hb6)))
    clear hb6 HS5 p0 p1 p2
    obtain ⟨-, p0, p1, p2, -, -, -⟩ := box3 HS6.out.2.1
    go_wp2_with fail
    refine (abs_leave (w := w6) (.inl rfl) c).mono ?_
    rintro e w7 ⟨rfl, hb7⟩
    have HS7 := Lib.hid (And.intro (HS6.out.1.trans (hb7.mono HS6.out.1.size)) (And.intro ((hb7.block A (Array.getElem?_eq_some_iff.1 HS6.out.2.1).1).trans HS6.out.2.1) (HS6.out.2.2.below hb7)))
    clear hb7 HS6 p0 p1 p2
    obtain ⟨-, p0, p1, p2, -, -, -⟩ := box3 HS7.out.2.1
    go_wp2_with fail
    refine (abs_meets HS7.out.2.2 f).mono ?_
    rintro e w8 ⟨rfl, hb8⟩
    have HS8 := Lib.hid (And.intro (HS7.out.1.trans (hb8.mono HS7.out.1.size)) (And.intro ((hb8.block A (Array.getElem?_eq_some_iff.1 HS7.out.2.1).1).trans HS7.out.2.1) (HS7.out.2.2.below hb8)))
    clear hb8 HS7 p0 p1 p2
    obtain ⟨hAl, hA0, hA1, hA2, -, -, -⟩ := box3 HS8.out.2.1
    have AZ := Lib.hid HS8.out.2.2
    have HT8 := Lib.hid (ht.below HS8.out.1 h2)
    have HL8 := Lib.hid HS8.out.1
    clear HS8
    go_wp2_with fail
    refine wp_region_m (fun _ W => Below w8.heap.size w8 W) (NiV A Z c) (by kernel_rfl) (by kernel_rfl) (by kernel_rfl) (by kernel_rfl) (Below.refl _ _).drew ?step ?fin
    case step =>
      intro i o ho listed a w' hI hn' hpre
      have hJ := hI.inv
      have hi : i < 48 := (Array.getElem?_eq_some_iff.1 ho).1
      match i, hi with
      | 0, _ =>
        cases ho
        exact wpOp_move rfl rfl (.inl rfl) (hI.kept (t := 6) (by kernel_rfl)) ⟨_, rfl, hJ, fun _ => rfl, fun _ _ _ h => h⟩
      | 1, _ =>
        cases ho
        exact wpOp_bin rfl rfl rfl (hI.slot 0 50 rfl (hpre ⟨0, .data⟩ (by simp) rfl) rfl) rfl (by simp [go_sem]) (by simp [go_sem]) ⟨_, rfl, hJ, fun _ => rfl, fun _ _ _ h => h⟩
      | 2, _ =>
        cases ho
        exact wpOp_move rfl rfl (.inl rfl) (hI.slot 1 51 rfl (hpre ⟨1, .data⟩ (by simp) rfl) rfl) ⟨_, rfl, hJ, fun _ => rfl, fun _ _ _ h => h⟩
      | 3, _ =>
        cases ho
        have eg := (hI.slot 2 52 rfl (hpre ⟨2, .guard⟩ (by simp) rfl) rfl)
        by_cases hg : (true) = true
        case neg =>
          exact wpOp_off rfl (wantedOff (j := 2) (b := true) (b' := true) rfl rfl rfl (by rw [hI.len]; show _ < 97; decide) eg hg) ⟨_, rfl, hJ, fun _ h => absurd h hg, fun _ _ _ h => h⟩
        exact wpOp_move rfl (wantedOf (j := 2) (b := true) rfl rfl rfl (by rw [hI.len]; show _ < 97; decide) (eg.trans (congrArg Value.bool hg))) (.inl rfl) (hI.kept (t := 8) (by kernel_rfl)) ⟨_, rfl, hJ, fun _ _ => rfl, fun _ _ _ h => h⟩
      | 4, _ =>
        cases ho
        have eg := (hI.slot 2 52 rfl (hpre ⟨2, .guard⟩ (by simp) rfl) rfl)
        by_cases hg : (true) = true
        case neg =>
          exact wpOp_off rfl (wantedOff (j := 2) (b := true) (b' := true) rfl rfl rfl (by rw [hI.len]; show _ < 97; decide) eg hg) ⟨_, rfl, hJ, fun _ h => absurd h hg, fun _ _ _ h => h⟩
        exact wpOp_bin rfl (wantedOf (j := 2) (b := true) rfl rfl rfl (by rw [hI.len]; show _ < 97; decide) (eg.trans (congrArg Value.bool hg))) rfl ((hI.slot 3 53 rfl (hpre ⟨3, .data⟩ (by simp) rfl) rfl) hg) rfl (by simp [go_sem]) (by simp [go_sem]) ⟨_, rfl, hJ, fun _ _ => rfl, fun _ _ _ h => h⟩
      | 5, _ =>
        cases ho
        exact wpOp_pick3 (v := .bool (true)) (u := .bool false) rfl rfl rfl (hI.slot 2 52 rfl (hpre ⟨2, .data⟩ (by simp) rfl) rfl) (fun h => ((hI.slot 4 54 rfl (hpre ⟨4, .data⟩ (by simp) rfl) rfl) h)) (fun h => rfl) ⟨_, rfl, hJ, fun _ => pick_and (true) (true), fun _ _ _ h => h⟩
      | 6, _ =>
        cases ho
        exact wpOp_move rfl rfl (.inl rfl) (hI.slot 5 55 rfl (hpre ⟨5, .data⟩ (by simp) rfl) rfl) ⟨_, rfl, hJ, fun _ => rfl, fun _ _ _ h => h⟩
      | 7, _ =>
        cases ho
        have eg := (hI.slot 6 56 rfl (hpre ⟨6, .guard⟩ (by simp) rfl) rfl)
        by_cases hg : (true) = true
        case neg =>
          exact wpOp_off rfl (wantedOff (j := 6) (b := true) (b' := true) rfl rfl rfl (by rw [hI.len]; show _ < 97; decide) eg hg) ⟨_, rfl, hJ, fun _ h => absurd h hg, fun _ _ _ h => h⟩
        exact wpOp_move rfl (wantedOf (j := 6) (b := true) rfl rfl rfl (by rw [hI.len]; show _ < 97; decide) (eg.trans (congrArg Value.bool hg))) (.inl rfl) (hI.kept (t := 10) (by kernel_rfl)) ⟨_, rfl, hJ, fun _ _ => rfl, fun _ _ _ h => h⟩
      | 8, _ =>
        cases ho
        have eg := (hI.slot 6 56 rfl (hpre ⟨6, .guard⟩ (by simp) rfl) rfl)
        by_cases hg : (true) = true
        case neg =>
          exact wpOp_off rfl (wantedOff (j := 6) (b := true) (b' := true) rfl rfl rfl (by rw [hI.len]; show _ < 97; decide) eg hg) ⟨_, rfl, hJ, fun _ h => absurd h hg, fun _ _ _ h => h⟩
        exact wpOp_bin rfl (wantedOf (j := 6) (b := true) rfl rfl rfl (by rw [hI.len]; show _ < 97; decide) (eg.trans (congrArg Value.bool hg))) rfl ((hI.slot 7 57 rfl (hpre ⟨7, .data⟩ (by simp) rfl) rfl) hg) rfl (by simp [go_sem]) (by simp [go_sem]) ⟨_, rfl, hJ, fun _ _ => rfl, fun _ _ _ h => h⟩
      | 9, _ =>
        cases ho
        exact wpOp_pick3 (v := .bool (true)) (u := .bool false) rfl rfl rfl (hI.slot 6 56 rfl (hpre ⟨6, .data⟩ (by simp) rfl) rfl) (fun h => ((hI.slot 8 58 rfl (hpre ⟨8, .data⟩ (by simp) rfl) rfl) h)) (fun h => rfl) ⟨_, rfl, hJ, fun _ => pick_and (true) (true), fun _ _ _ h => h⟩
      | 10, _ =>
        cases ho
        exact wpOp_move rfl rfl (.inl rfl) (hI.slot 9 59 rfl (hpre ⟨9, .data⟩ (by simp) rfl) rfl) ⟨_, rfl, hJ, fun _ => rfl, fun _ _ _ h => h⟩
      | 11, _ =>
        cases ho
        have eg := (hI.slot 10 60 rfl (hpre ⟨10, .guard⟩ (by simp) rfl) rfl)
        by_cases hg : (true) = true
        case neg =>
          exact wpOp_off rfl (wantedOff (j := 10) (b := true) (b' := true) rfl rfl rfl (by rw [hI.len]; show _ < 97; decide) eg hg) ⟨_, rfl, hJ, fun _ h => absurd h hg, fun _ _ _ h => h⟩
        exact wpOp_move rfl (wantedOf (j := 10) (b := true) rfl rfl rfl (by rw [hI.len]; show _ < 97; decide) (eg.trans (congrArg Value.bool hg))) (.inl rfl) (hI.kept (t := 12) (by kernel_rfl)) ⟨_, rfl, hJ, fun _ _ => rfl, fun _ _ _ h => h⟩
      | 12, _ =>
        cases ho
        have eg := (hI.slot 10 60 rfl (hpre ⟨10, .guard⟩ (by simp) rfl) rfl)
        by_cases hg : (true) = true
        case neg =>
          exact wpOp_off rfl (wantedOff (j := 10) (b := true) (b' := true) rfl rfl rfl (by rw [hI.len]; show _ < 97; decide) eg hg) ⟨_, rfl, hJ, fun _ h => absurd h hg, fun _ _ _ h => h⟩
        exact wpOp_bin rfl (wantedOf (j := 10) (b := true) rfl rfl rfl (by rw [hI.len]; show _ < 97; decide) (eg.trans (congrArg Value.bool hg))) rfl ((hI.slot 11 61 rfl (hpre ⟨11, .data⟩ (by simp) rfl) rfl) hg) rfl (by simp [go_sem]) (by simp [go_sem]) ⟨_, rfl, hJ, fun _ _ => rfl, fun _ _ _ h => h⟩
      | 13, _ =>
        cases ho
        exact wpOp_pick3 (v := .bool (true)) (u := .bool false) rfl rfl rfl (hI.slot 10 60 rfl (hpre ⟨10, .data⟩ (by simp) rfl) rfl) (fun h => ((hI.slot 12 62 rfl (hpre ⟨12, .data⟩ (by simp) rfl) rfl) h)) (fun h => rfl) ⟨_, rfl, hJ, fun _ => pick_and (true) (true), fun _ _ _ h => h⟩
      | 14, _ =>
        cases ho
        exact wpOp_move rfl rfl (.inl rfl) (hI.slot 13 63 rfl (hpre ⟨13, .data⟩ (by simp) rfl) rfl) ⟨_, rfl, hJ, fun _ => rfl, fun _ _ _ h => h⟩
      | 15, _ =>
        cases ho
        have eg := (hI.slot 14 64 rfl (hpre ⟨14, .guard⟩ (by simp) rfl) rfl)
        by_cases hg : (true) = true
        case neg =>
          exact wpOp_off rfl (wantedOff (j := 14) (b := true) (b' := true) rfl rfl rfl (by rw [hI.len]; show _ < 97; decide) eg hg) ⟨_, rfl, hJ, fun _ h => absurd h hg, fun _ _ _ h => h⟩
        exact wpOp_move rfl (wantedOf (j := 14) (b := true) rfl rfl rfl (by rw [hI.len]; show _ < 97; decide) (eg.trans (congrArg Value.bool hg))) (.inl rfl) (hI.kept (t := 3) (by kernel_rfl)) ⟨_, rfl, hJ, fun _ _ => rfl, fun _ _ _ h => h⟩
      | 16, _ =>
        cases ho
        have eg := (hI.slot 14 64 rfl (hpre ⟨14, .chain⟩ (by simp) rfl) rfl)
        by_cases hg : (true) = true
        case neg =>
          exact wpOp_off rfl (wantedOff (j := 14) (b := true) (b' := true) rfl rfl rfl (by rw [hI.len]; show _ < 97; decide) eg hg) ⟨_, rfl, hJ, fun _ h => absurd h hg, fun _ _ _ h => h⟩
        refine wpOp_callFn rfl (wantedOf (j := 14) (b := true) rfl rfl rfl (by rw [hI.len]; show _ < 97; decide) (eg.trans (congrArg Value.bool hg))) rfl (vs := #[.pointer none]) (by simp only [List.map_toArray, List.map_cons, List.map_nil, (show a.eval (.tmp 65) = .pointer none from ((hI.slot 15 65 rfl (hpre ⟨15, .data⟩ (by simp) rfl) rfl) hg))]) (fun _ _ => by kernel_rfl) ((abs_list (w := w') (.inl rfl)).mono ?_)
        rintro e' w9 ⟨rfl, hb9⟩
        exact ⟨_, rfl, _, rfl, hJ.trans (hb9.mono hJ.size), fun _ _ => rfl, fun j u _ h => NiV.any j u h⟩
      | 17, _ =>
        cases ho
        have eg := (hI.slot 14 64 rfl (hpre ⟨14, .guard⟩ (by simp) rfl) rfl)
        by_cases hg : (true) = true
        case neg =>
          exact wpOp_off rfl (wantedOff (j := 14) (b := true) (b' := true) rfl rfl rfl (by rw [hI.len]; show _ < 97; decide) eg hg) ⟨_, rfl, hJ, fun _ h => absurd h hg, fun _ _ _ h => h⟩
        exact wpOp_lenSb rfl (wantedOf (j := 14) (b := true) rfl rfl rfl (by rw [hI.len]; show _ < 97; decide) (eg.trans (congrArg Value.bool hg))) rfl (show a.eval (.tmp 66) = .slice none 0 0 from ((hI.slot 16 66 rfl (hpre ⟨16, .data⟩ (by simp) rfl) rfl) hg)) ⟨_, rfl, hJ, fun _ _ => rfl, fun _ _ _ h => h⟩
      | 18, _ =>
        cases ho
        have eg := (hI.slot 14 64 rfl (hpre ⟨14, .guard⟩ (by simp) rfl) rfl)
        by_cases hg : (true) = true
        case neg =>
          exact wpOp_off rfl (wantedOff (j := 14) (b := true) (b' := true) rfl rfl rfl (by rw [hI.len]; show _ < 97; decide) eg hg) ⟨_, rfl, hJ, fun _ h => absurd h hg, fun _ _ _ h => h⟩
        exact wpOp_move rfl (wantedOf (j := 14) (b := true) rfl rfl rfl (by rw [hI.len]; show _ < 97; decide) (eg.trans (congrArg Value.bool hg))) (.inl rfl) (hI.kept (t := 4) (by kernel_rfl)) ⟨_, rfl, hJ, fun _ _ => rfl, fun _ _ _ h => h⟩
      | 19, _ =>
        cases ho
        have eg := (hI.slot 14 64 rfl (hpre ⟨14, .guard⟩ (by simp) rfl) rfl)
        by_cases hg : (true) = true
        case neg =>
          exact wpOp_off rfl (wantedOff (j := 14) (b := true) (b' := true) rfl rfl rfl (by rw [hI.len]; show _ < 97; decide) eg hg) ⟨_, rfl, hJ, fun _ h => absurd h hg, fun _ _ _ h => h⟩
        exact wpOp_field rfl (wantedOf (j := 14) (b := true) rfl rfl rfl (by rw [hI.len]; show _ < 97; decide) (eg.trans (congrArg Value.bool hg))) rfl (hI.kept (t := 1) (by kernel_rfl)) (by simp [go_sem]) ⟨_, rfl, hJ, fun _ _ => rfl, fun _ _ _ h => h⟩
      | 20, _ =>
        cases ho
        have eg := (hI.slot 14 64 rfl (hpre ⟨14, .guard⟩ (by simp) rfl) rfl)
        by_cases hg : (true) = true
        case neg =>
          exact wpOp_off rfl (wantedOff (j := 14) (b := true) (b' := true) rfl rfl rfl (by rw [hI.len]; show _ < 97; decide) eg hg) ⟨_, rfl, hJ, fun _ h => absurd h hg, fun _ _ _ h => h⟩
        exact wpOp_load rfl (wantedOf (j := 14) (b := true) rfl rfl rfl (by rw [hI.len]; show _ < 97; decide) (eg.trans (congrArg Value.bool hg))) rfl ((hI.slot 19 69 rfl (hpre ⟨19, .data⟩ (by simp) rfl) rfl) hg) (load_c (Tryz.isAgg9 w') ((hJ.cell (p := ⟨A, 1, none⟩) hAl).trans hA1)) ⟨_, rfl, hJ, fun _ _ => rfl, fun _ _ _ h => h⟩
      | 21, _ =>
        cases ho
        have eg := (hI.slot 14 64 rfl (hpre ⟨14, .guard⟩ (by simp) rfl) rfl)
        by_cases hg : (true) = true
        case neg =>
          exact wpOp_off rfl (wantedOff (j := 14) (b := true) (b' := true) rfl rfl rfl (by rw [hI.len]; show _ < 97; decide) eg hg) ⟨_, rfl, hJ, fun _ h => absurd h hg, fun _ _ _ h => h⟩
        refine wpOp_callFn rfl (wantedOf (j := 14) (b := true) rfl rfl rfl (by rw [hI.len]; show _ < 97; decide) (eg.trans (congrArg Value.bool hg))) rfl (vs := #[.pointer (some ⟨Z, 0, none⟩), .string c]) (by simp only [List.map_toArray, List.map_cons, List.map_nil, (show a.eval (.tmp 68) = .pointer (some ⟨Z, 0, none⟩) from ((hI.slot 18 68 rfl (hpre ⟨18, .data⟩ (by simp) rfl) rfl) hg)), (show a.eval (.tmp 70) = .string c from ((hI.slot 20 70 rfl (hpre ⟨20, .data⟩ (by simp) rfl) rfl) hg))]) (fun _ _ => by kernel_rfl) ((abs_of (AZ.out.below hJ) c).mono ?_)
        rintro e' w9 ⟨rfl, hb9⟩
        exact ⟨_, rfl, _, rfl, hJ.trans (hb9.mono hJ.size), fun _ _ => rfl, fun j u _ h => NiV.any j u h⟩
      | 22, _ =>
        cases ho
        have eg := (hI.slot 14 64 rfl (hpre ⟨14, .guard⟩ (by simp) rfl) rfl)
        by_cases hg : (true) = true
        case neg =>
          exact wpOp_off rfl (wantedOff (j := 14) (b := true) (b' := true) rfl rfl rfl (by rw [hI.len]; show _ < 97; decide) eg hg) ⟨_, rfl, hJ, fun _ h => absurd h hg, fun _ _ _ h => h⟩
        exact wpOp_lenSb rfl (wantedOf (j := 14) (b := true) rfl rfl rfl (by rw [hI.len]; show _ < 97; decide) (eg.trans (congrArg Value.bool hg))) rfl (show a.eval (.tmp 71) = .slice none 0 0 from ((hI.slot 21 71 rfl (hpre ⟨21, .data⟩ (by simp) rfl) rfl) hg)) ⟨_, rfl, hJ, fun _ _ => rfl, fun _ _ _ h => h⟩
      | 23, _ =>
        cases ho
        have eg := (hI.slot 14 64 rfl (hpre ⟨14, .guard⟩ (by simp) rfl) rfl)
        by_cases hg : (true) = true
        case neg =>
          exact wpOp_off rfl (wantedOff (j := 14) (b := true) (b' := true) rfl rfl rfl (by rw [hI.len]; show _ < 97; decide) eg hg) ⟨_, rfl, hJ, fun _ h => absurd h hg, fun _ _ _ h => h⟩
        exact wpOp_bin rfl (wantedOf (j := 14) (b := true) rfl rfl rfl (by rw [hI.len]; show _ < 97; decide) (eg.trans (congrArg Value.bool hg))) rfl ((hI.slot 17 67 rfl (hpre ⟨17, .data⟩ (by simp) rfl) rfl) hg) ((hI.slot 22 72 rfl (hpre ⟨22, .data⟩ (by simp) rfl) rfl) hg) (by simp [go_sem]) (by simp [go_sem]; rfl) ⟨_, rfl, hJ, fun _ _ => rfl, fun _ _ _ h => h⟩
      | 24, _ =>
        cases ho
        have eg := (hI.slot 14 64 rfl (hpre ⟨14, .guard⟩ (by simp) rfl) rfl)
        by_cases hg : (true) = true
        case neg =>
          exact wpOp_off rfl (wantedOff (j := 14) (b := true) (b' := true) rfl rfl rfl (by rw [hI.len]; show _ < 97; decide) eg hg) ⟨_, rfl, hJ, fun _ h => absurd h hg, fun _ _ _ h => h⟩
        exact wpOp_bin rfl (wantedOf (j := 14) (b := true) rfl rfl rfl (by rw [hI.len]; show _ < 97; decide) (eg.trans (congrArg Value.bool hg))) rfl ((hI.slot 23 73 rfl (hpre ⟨23, .data⟩ (by simp) rfl) rfl) hg) rfl (by simp [go_sem]) (by simp [go_sem]) ⟨_, rfl, hJ, fun _ _ => rfl, fun _ _ _ h => h⟩
      | 25, _ =>
        cases ho
        exact wpOp_pick3 (v := .bool (true)) (u := .bool false) rfl rfl rfl (hI.slot 14 64 rfl (hpre ⟨14, .data⟩ (by simp) rfl) rfl) (fun h => ((hI.slot 24 74 rfl (hpre ⟨24, .data⟩ (by simp) rfl) rfl) h)) (fun h => rfl) ⟨_, rfl, hJ, fun _ => pick_and (true) (true), fun _ _ _ h => h⟩
      | 26, _ =>
        cases ho
        exact wpOp_move rfl rfl (.inl rfl) (hI.slot 25 75 rfl (hpre ⟨25, .data⟩ (by simp) rfl) rfl) ⟨_, rfl, hJ, fun _ => rfl, fun _ _ _ h => h⟩
      | 27, _ =>
        cases ho
        have eg := (hI.slot 26 76 rfl (hpre ⟨26, .guard⟩ (by simp) rfl) rfl)
        by_cases hg : (true) = true
        case neg =>
          exact wpOp_off rfl (wantedOff (j := 26) (b := true) (b' := true) rfl rfl rfl (by rw [hI.len]; show _ < 97; decide) eg hg) ⟨_, rfl, hJ, fun _ h => absurd h hg, fun _ _ _ h => h⟩
        exact wpOp_move rfl (wantedOf (j := 26) (b := true) rfl rfl rfl (by rw [hI.len]; show _ < 97; decide) (eg.trans (congrArg Value.bool hg))) (.inl rfl) (hI.kept (t := 3) (by kernel_rfl)) ⟨_, rfl, hJ, fun _ _ => rfl, fun _ _ _ h => h⟩
      | 28, _ =>
        cases ho
        have eg := (hI.slot 26 76 rfl (hpre ⟨26, .chain⟩ (by simp) rfl) rfl)
        by_cases hg : (true) = true
        case neg =>
          exact wpOp_off rfl (wantedOff (j := 26) (b := true) (b' := true) rfl rfl rfl (by rw [hI.len]; show _ < 97; decide) eg hg) ⟨_, rfl, hJ, fun _ h => absurd h hg, fun _ _ _ h => h⟩
        refine wpOp_callFn rfl (wantedOf (j := 26) (b := true) rfl rfl rfl (by rw [hI.len]; show _ < 97; decide) (eg.trans (congrArg Value.bool hg))) rfl (vs := #[.pointer none]) (by simp only [List.map_toArray, List.map_cons, List.map_nil, (show a.eval (.tmp 77) = .pointer none from ((hI.slot 27 77 rfl (hpre ⟨27, .data⟩ (by simp) rfl) rfl) hg))]) (fun _ _ => by kernel_rfl) ((abs_len (w := w') (.inl rfl)).mono ?_)
        rintro e' w9 ⟨rfl, hb9⟩
        exact ⟨_, rfl, _, rfl, hJ.trans (hb9.mono hJ.size), fun _ _ => rfl, fun j u _ h => NiV.any j u h⟩
      | 29, _ =>
        cases ho
        have eg := (hI.slot 26 76 rfl (hpre ⟨26, .guard⟩ (by simp) rfl) rfl)
        by_cases hg : (true) = true
        case neg =>
          exact wpOp_off rfl (wantedOff (j := 26) (b := true) (b' := true) rfl rfl rfl (by rw [hI.len]; show _ < 97; decide) eg hg) ⟨_, rfl, hJ, fun _ h => absurd h hg, fun _ _ _ h => h⟩
        exact wpOp_move rfl (wantedOf (j := 26) (b := true) rfl rfl rfl (by rw [hI.len]; show _ < 97; decide) (eg.trans (congrArg Value.bool hg))) (.inl rfl) (hI.kept (t := 4) (by kernel_rfl)) ⟨_, rfl, hJ, fun _ _ => rfl, fun _ _ _ h => h⟩
      | 30, _ =>
        cases ho
        have eg := (hI.slot 26 76 rfl (hpre ⟨26, .guard⟩ (by simp) rfl) rfl)
        by_cases hg : (true) = true
        case neg =>
          exact wpOp_off rfl (wantedOff (j := 26) (b := true) (b' := true) rfl rfl rfl (by rw [hI.len]; show _ < 97; decide) eg hg) ⟨_, rfl, hJ, fun _ h => absurd h hg, fun _ _ _ h => h⟩
        refine wpOp_callFn rfl (wantedOf (j := 26) (b := true) rfl rfl rfl (by rw [hI.len]; show _ < 97; decide) (eg.trans (congrArg Value.bool hg))) rfl (vs := #[.pointer (some ⟨Z, 0, none⟩)]) (by simp only [List.map_toArray, List.map_cons, List.map_nil, (show a.eval (.tmp 79) = .pointer (some ⟨Z, 0, none⟩) from ((hI.slot 29 79 rfl (hpre ⟨29, .data⟩ (by simp) rfl) rfl) hg))]) (fun _ _ => by kernel_rfl) ((abs_nodes (AZ.out.below hJ)).mono ?_)
        rintro e' w9 ⟨rfl, hb9⟩
        exact ⟨_, rfl, _, rfl, hJ.trans (hb9.mono hJ.size), fun _ _ => rfl, fun j u _ h => NiV.any j u h⟩
      | 31, _ =>
        cases ho
        have eg := (hI.slot 26 76 rfl (hpre ⟨26, .guard⟩ (by simp) rfl) rfl)
        by_cases hg : (true) = true
        case neg =>
          exact wpOp_off rfl (wantedOff (j := 26) (b := true) (b' := true) rfl rfl rfl (by rw [hI.len]; show _ < 97; decide) eg hg) ⟨_, rfl, hJ, fun _ h => absurd h hg, fun _ _ _ h => h⟩
        exact wpOp_bin rfl (wantedOf (j := 26) (b := true) rfl rfl rfl (by rw [hI.len]; show _ < 97; decide) (eg.trans (congrArg Value.bool hg))) rfl ((hI.slot 28 78 rfl (hpre ⟨28, .data⟩ (by simp) rfl) rfl) hg) ((hI.slot 30 80 rfl (hpre ⟨30, .data⟩ (by simp) rfl) rfl) hg) (by simp [go_sem]) (by simp [go_sem]; rfl) ⟨_, rfl, hJ, fun _ _ => rfl, fun _ _ _ h => h⟩
      | 32, _ =>
        cases ho
        have eg := (hI.slot 26 76 rfl (hpre ⟨26, .guard⟩ (by simp) rfl) rfl)
        by_cases hg : (true) = true
        case neg =>
          exact wpOp_off rfl (wantedOff (j := 26) (b := true) (b' := true) rfl rfl rfl (by rw [hI.len]; show _ < 97; decide) eg hg) ⟨_, rfl, hJ, fun _ h => absurd h hg, fun _ _ _ h => h⟩
        exact wpOp_bin rfl (wantedOf (j := 26) (b := true) rfl rfl rfl (by rw [hI.len]; show _ < 97; decide) (eg.trans (congrArg Value.bool hg))) rfl ((hI.slot 31 81 rfl (hpre ⟨31, .data⟩ (by simp) rfl) rfl) hg) rfl (by simp [go_sem]) (by simp [go_sem]) ⟨_, rfl, hJ, fun _ _ => rfl, fun _ _ _ h => h⟩
      | 33, _ =>
        cases ho
        exact wpOp_pick3 (v := .bool (true)) (u := .bool false) rfl rfl rfl (hI.slot 26 76 rfl (hpre ⟨26, .data⟩ (by simp) rfl) rfl) (fun h => ((hI.slot 32 82 rfl (hpre ⟨32, .data⟩ (by simp) rfl) rfl) h)) (fun h => rfl) ⟨_, rfl, hJ, fun _ => pick_and (true) (true), fun _ _ _ h => h⟩
      | 34, _ =>
        cases ho
        exact wpOp_move rfl rfl (.inl rfl) (hI.slot 33 83 rfl (hpre ⟨33, .data⟩ (by simp) rfl) rfl) ⟨_, rfl, hJ, fun _ => rfl, fun _ _ _ h => h⟩
      | 35, _ =>
        cases ho
        have eg := (hI.slot 34 84 rfl (hpre ⟨34, .guard⟩ (by simp) rfl) rfl)
        by_cases hg : (true) = true
        case neg =>
          exact wpOp_off rfl (wantedOff (j := 34) (b := true) (b' := true) rfl rfl rfl (by rw [hI.len]; show _ < 97; decide) eg hg) ⟨_, rfl, hJ, fun _ h => absurd h hg, fun _ _ _ h => h⟩
        exact wpOp_move rfl (wantedOf (j := 34) (b := true) rfl rfl rfl (by rw [hI.len]; show _ < 97; decide) (eg.trans (congrArg Value.bool hg))) (.inl rfl) (hI.kept (t := 4) (by kernel_rfl)) ⟨_, rfl, hJ, fun _ _ => rfl, fun _ _ _ h => h⟩
      | 36, _ =>
        cases ho
        have eg := (hI.slot 34 84 rfl (hpre ⟨34, .chain⟩ (by simp) rfl) rfl)
        by_cases hg : (true) = true
        case neg =>
          exact wpOp_off rfl (wantedOff (j := 34) (b := true) (b' := true) rfl rfl rfl (by rw [hI.len]; show _ < 97; decide) eg hg) ⟨_, rfl, hJ, fun _ h => absurd h hg, fun _ _ _ h => h⟩
        refine wpOp_callFn rfl (wantedOf (j := 34) (b := true) rfl rfl rfl (by rw [hI.len]; show _ < 97; decide) (eg.trans (congrArg Value.bool hg))) rfl (vs := #[.pointer (some ⟨Z, 0, none⟩)]) (by simp only [List.map_toArray, List.map_cons, List.map_nil, (show a.eval (.tmp 85) = .pointer (some ⟨Z, 0, none⟩) from ((hI.slot 35 85 rfl (hpre ⟨35, .data⟩ (by simp) rfl) rfl) hg))]) (fun _ _ => by kernel_rfl) ((abs_copy (AZ.out.below hJ)).mono ?_)
        rintro e' w9 ⟨rfl, hb9⟩
        exact ⟨_, rfl, _, rfl, hJ.trans (hb9.mono hJ.size), fun _ _ => rfl, fun j u _ h => NiV.any j u h⟩
      | 37, _ =>
        cases ho
        have eg := (hI.slot 34 84 rfl (hpre ⟨34, .guard⟩ (by simp) rfl) rfl)
        by_cases hg : (true) = true
        case neg =>
          exact wpOp_off rfl (wantedOff (j := 34) (b := true) (b' := true) rfl rfl rfl (by rw [hI.len]; show _ < 97; decide) eg hg) ⟨_, rfl, hJ, fun _ h => absurd h hg, fun _ _ _ h => h⟩
        exact wpOp_bin rfl (wantedOf (j := 34) (b := true) rfl rfl rfl (by rw [hI.len]; show _ < 97; decide) (eg.trans (congrArg Value.bool hg))) rfl ((hI.slot 36 86 rfl (hpre ⟨36, .data⟩ (by simp) rfl) rfl) hg) rfl (by simp [go_sem]) (by simp [go_sem]) ⟨_, rfl, hJ, fun _ _ => rfl, fun _ _ _ h => h⟩
      | 38, _ =>
        cases ho
        exact wpOp_pick3 (v := .bool (true)) (u := .bool false) rfl rfl rfl (hI.slot 34 84 rfl (hpre ⟨34, .data⟩ (by simp) rfl) rfl) (fun h => ((hI.slot 37 87 rfl (hpre ⟨37, .data⟩ (by simp) rfl) rfl) h)) (fun h => rfl) ⟨_, rfl, hJ, fun _ => pick_and (true) (true), fun _ _ _ h => h⟩
      | 39, _ =>
        cases ho
        exact wpOp_move rfl rfl (.inl rfl) (hI.slot 38 88 rfl (hpre ⟨38, .data⟩ (by simp) rfl) rfl) ⟨_, rfl, hJ, fun _ => rfl, fun _ _ _ h => h⟩
      | 40, _ =>
        cases ho
        have eg := (hI.slot 39 89 rfl (hpre ⟨39, .guard⟩ (by simp) rfl) rfl)
        by_cases hg : (true) = true
        case neg =>
          exact wpOp_off rfl (wantedOff (j := 39) (b := true) (b' := true) rfl rfl rfl (by rw [hI.len]; show _ < 97; decide) eg hg) ⟨_, rfl, hJ, fun _ h => absurd h hg, fun _ _ _ h => h⟩
        exact wpOp_move rfl (wantedOf (j := 39) (b := true) rfl rfl rfl (by rw [hI.len]; show _ < 97; decide) (eg.trans (congrArg Value.bool hg))) (.inl rfl) (hI.kept (t := 3) (by kernel_rfl)) ⟨_, rfl, hJ, fun _ _ => rfl, fun _ _ _ h => h⟩
      | 41, _ =>
        cases ho
        have eg := (hI.slot 39 89 rfl (hpre ⟨39, .guard⟩ (by simp) rfl) rfl)
        by_cases hg : (true) = true
        case neg =>
          exact wpOp_off rfl (wantedOff (j := 39) (b := true) (b' := true) rfl rfl rfl (by rw [hI.len]; show _ < 97; decide) eg hg) ⟨_, rfl, hJ, fun _ h => absurd h hg, fun _ _ _ h => h⟩
        exact wpOp_move rfl (wantedOf (j := 39) (b := true) rfl rfl rfl (by rw [hI.len]; show _ < 97; decide) (eg.trans (congrArg Value.bool hg))) (.inl rfl) (hI.kept (t := 4) (by kernel_rfl)) ⟨_, rfl, hJ, fun _ _ => rfl, fun _ _ _ h => h⟩
      | 42, _ =>
        cases ho
        have eg := (hI.slot 39 89 rfl (hpre ⟨39, .chain⟩ (by simp) rfl) rfl)
        by_cases hg : (true) = true
        case neg =>
          exact wpOp_off rfl (wantedOff (j := 39) (b := true) (b' := true) rfl rfl rfl (by rw [hI.len]; show _ < 97; decide) eg hg) ⟨_, rfl, hJ, fun _ h => absurd h hg, fun _ _ _ h => h⟩
        refine wpOp_callFn rfl (wantedOf (j := 39) (b := true) rfl rfl rfl (by rw [hI.len]; show _ < 97; decide) (eg.trans (congrArg Value.bool hg))) rfl (vs := #[.pointer none, .pointer (some ⟨Z, 0, none⟩)]) (by simp only [List.map_toArray, List.map_cons, List.map_nil, (show a.eval (.tmp 90) = .pointer none from ((hI.slot 40 90 rfl (hpre ⟨40, .data⟩ (by simp) rfl) rfl) hg)), (show a.eval (.tmp 91) = .pointer (some ⟨Z, 0, none⟩) from ((hI.slot 41 91 rfl (hpre ⟨41, .data⟩ (by simp) rfl) rfl) hg))]) (fun _ _ => by kernel_rfl) ((abs_same (w := w') (.inl rfl) (AZ.out.below hJ)).mono ?_)
        rintro e' w9 ⟨rfl, hb9⟩
        exact ⟨_, rfl, _, rfl, hJ.trans (hb9.mono hJ.size), fun _ _ => rfl, fun j u _ h => NiV.any j u h⟩
      | 43, _ =>
        cases ho
        exact wpOp_pick3 (v := .bool (true)) (u := .bool false) rfl rfl rfl (hI.slot 39 89 rfl (hpre ⟨39, .data⟩ (by simp) rfl) rfl) (fun h => ((hI.slot 42 92 rfl (hpre ⟨42, .data⟩ (by simp) rfl) rfl) h)) (fun h => rfl) ⟨_, rfl, hJ, fun _ => pick_and (true) (true), fun _ _ _ h => h⟩
      | 44, _ =>
        cases ho
        exact wpOp_move rfl rfl (.inl rfl) (hI.slot 43 93 rfl (hpre ⟨43, .data⟩ (by simp) rfl) rfl) ⟨_, rfl, hJ, fun _ => rfl, fun _ _ _ h => h⟩
      | 45, _ =>
        cases ho
        have eg := (hI.slot 44 94 rfl (hpre ⟨44, .chain⟩ (by simp) rfl) rfl)
        by_cases hg : (true) = true
        case neg =>
          exact wpOp_off rfl (wantedOff (j := 44) (b := true) (b' := true) rfl rfl rfl (by rw [hI.len]; show _ < 97; decide) eg hg) ⟨_, rfl, hJ, fun _ h => absurd h hg, fun _ _ _ h => h⟩
        refine wpOp_callFn rfl (wantedOf (j := 44) (b := true) rfl rfl rfl (by rw [hI.len]; show _ < 97; decide) (eg.trans (congrArg Value.bool hg))) rfl (vs := #[]) (by simp) (fun _ _ => by kernel_rfl) ((knownM_any w' (HT8.out.below hJ HT8.out.two)).mono ?_)
        rintro e' w9 ⟨rfl, hb9⟩
        exact ⟨_, rfl, _, rfl, hJ.trans (hb9.mono hJ.size), fun _ _ => rfl, fun j u _ h => NiV.any j u h⟩
      | 46, _ =>
        cases ho
        exact wpOp_pick3 (v := .bool (true)) (u := .bool false) rfl rfl rfl (hI.slot 44 94 rfl (hpre ⟨44, .data⟩ (by simp) rfl) rfl) (fun h => ((hI.slot 45 95 rfl (hpre ⟨45, .data⟩ (by simp) rfl) rfl) h)) (fun h => rfl) ⟨_, rfl, hJ, fun _ => pick_and (true) (true), fun _ _ _ h => h⟩
      | 47, _ =>
        cases ho
        exact wpOp_move rfl rfl (.inr rfl) (hI.slot 46 96 rfl (hpre ⟨46, .data⟩ (by simp) rfl) rfl) ⟨_, rfl, hJ, fun _ => rfl, fun _ _ _ h => h⟩
    case fin =>
      intro listed a w' hI hall
      have hJ := hI.inv
      have eS2 : a.tmps.getD 2 undef = .bool true := hI.slot 47 2 rfl (hall 47 (by decide)) rfl
      obtain ⟨vs, us, hvl, hul, hvs, hus, e⟩ := hI.frame2 2 1 50 47 (by decide) (Nat.le_of_ble_eq_true (by kernel_rfl)) (by kernel_rfl)
      have vS2 := hvs 0 (by decide)
      clear hI hall hvs hus
      match vs, us, hvl, hul with
      | [x0], y0 :: y1 :: y2 :: y3 :: y4 :: y5 :: y6 :: y7 :: y8 :: y9 :: y10 :: y11 :: y12 :: y13 :: y14 :: y15 :: y16 :: y17 :: y18 :: y19 :: y20 :: y21 :: y22 :: y23 :: y24 :: y25 :: y26 :: y27 :: y28 :: y29 :: y30 :: y31 :: y32 :: y33 :: y34 :: y35 :: y36 :: y37 :: y38 :: y39 :: y40 :: y41 :: y42 :: y43 :: y44 :: y45 :: y46 :: [], _, _ =>
      simp only [List.getElem?_cons_zero, Option.some.injEq] at vS2
      rw [show 2 + 0 = 2 from rfl, eS2] at vS2
      subst vS2
      simp only [List.take_succ_cons, List.take_zero, List.drop_succ_cons, List.drop_zero, List.cons_append, List.nil_append, Nat.reduceAdd, Nat.reduceSub] at e
      subst e
      clear eS2
      have HQ := Lib.hid (HL8.out.trans (hJ.mono HL8.out.size))
      clear hJ HT8 AZ HL8
      go_wp2
      go_ret
      exact ⟨rfl, hA ▸ HQ.out⟩
end Go.Proofs.YtgcfgheamaoceaaGreatDoor
/- What the rows' list gives of layer 14's statements (the bounds of runes, the first bytes' marks), and a world that holds both. -/
namespace Go.Proofs.YtgcfgheamaoceaaGreatDoor
open Go.ChangeShapes Go.WideShapes Go.ChangeAt Go.RowKit

theorem own : ownKnob Tryz.prog.godebug = none := by kernel_rfl
theorem laidOut : laidOutB Tryz.prog = true := by kernel_rfl
theorem gBd : Tryz.prog.globalNamed "pigeonry/utf.bounds" = some 2 := by kernel_rfl
theorem gBdType : (Tryz.prog.globals[2]?).map (·.type) = some 191 := by kernel_rfl
theorem gLd : Tryz.prog.globalNamed "pigeonry/utf.leads" = some 1 := by kernel_rfl
theorem gLdType : (Tryz.prog.globals[1]?).map (·.type) = some 189 := by kernel_rfl
theorem cellsBd : Tryz.prog.cellsOf 191 = 3 := by kernel_rfl
theorem cellsLd : Tryz.prog.cellsOf 189 = 4 := by kernel_rfl
theorem cellsI32 : Tryz.prog.cellsOf 21 = 1 := by kernel_rfl
theorem cellsU8 : Tryz.prog.cellsOf 5 = 1 := by kernel_rfl
theorem tab_of_second {P : Program} {W : World} {first : String × DataW Unit} {name : String} {k : IntKind} {zs : List Int} {rest : List (String × DataW Unit)} {g : Nat} {t e : TypeId} {n : Nat}
    (hg : P.globalNamed name = some g) (hty : (P.globals[g]?).map (·.type) = some t) (ht : P.underlying t = some (.array n e)) (he : P.underlying e = some (.int k)) (hce : P.cellsOf e = 1) (hct : P.cellsOf t = n)
    (h : laidMet P (first :: (name, Lib.tabData k zs) :: rest) W) : Lib.TabIs P W name k zs := by
  obtain ⟨ps, ⟨_, _, _, _, _, _, _, _, _, _, hr, _⟩, _⟩ := h
  obtain ⟨g', t', cs, fuel, p, q, hg', ht', hvar, hd, _, _⟩ := hr
  obtain rfl := Option.some.inj (hg.symm.trans hg')
  obtain rfl := Option.some.inj (hty.symm.trans ht')
  unfold Lib.TabIs
  rw [hvar, ← Lib.cells_of_tab ht he hce hct hd]
def bdTab : List Int := [128, 2048, 65536]
def ldTab : List Int := [0, 192, 224, 240]
/-- WHAT THE ROW's LIST GIVES. -/
theorem given {W : World} (h : laidMetH Tryz.prog [("pigeonry/utf.bounds", Rows.laid_pigeonry_utf_bounds), ("pigeonry/utf.leads", Rows.laid_pigeonry_utf_leads)] W) : Tabs W := by
  have h1 : Lib.TabIs Tryz.prog W "pigeonry/utf.bounds" .i32 bdTab := Lib.tabIs_of_head (rest := [("pigeonry/utf.leads", Rows.laid_pigeonry_utf_leads)]) gBd gBdType Tryz.underlying191 Tryz.underlying21 cellsI32 cellsBd h
  have h2 : Lib.TabIs Tryz.prog W "pigeonry/utf.leads" .u8 ldTab := tab_of_second (first := ("pigeonry/utf.bounds", Rows.laid_pigeonry_utf_bounds)) (rest := []) gLd gLdType Tryz.underlying189 Tryz.underlying5 cellsU8 cellsLd h
  exact ⟨h1.cell gBd 0 (by decide), h1.cell gBd 1 (by decide), h1.cell gBd 2 (by decide), h2.cell gLd 0 (by decide), h2.cell gLd 1 (by decide), h2.cell gLd 2 (by decide), h2.cell gLd 3 (by decide)⟩
noncomputable def fillBd : Obj → Obj
  | .cells _ t frozen => .cells (bdTab.map fun z => Value.int .i32 z).toArray t frozen
  | o => o
noncomputable def fillLd : Obj → Obj
  | .cells _ t frozen => .cells (ldTab.map fun z => Value.int .u8 z).toArray t frozen
  | o => o
/-- A WORLD FOR THE WITNESS: the settled one, both tables holding what their initialisers lay. -/
noncomputable def laidWorld (os : Os) : World :=
  { World.holding Tryz.prog os ⟨#[], #[], []⟩ with heap := ((World.holding Tryz.prog os ⟨#[], #[], []⟩).heap.modify 2 fillBd).modify 1 fillLd }
/-- The types that these laws take read whole. -/
theorem types_ok : ∀ t ∈ [9, 3, 31, 22, 27], Tryz.prog.readableRec t = true ∧ t < Tryz.prog.types.size := by
  intro t ht
  have h : ([9, 3, 31, 22, 27].all fun t => Tryz.prog.readableRec t && decide (t < Tryz.prog.types.size)) = true := by kernel_rfl
  have := List.all_eq_true.1 h t ht
  simpa using this
section
variable {H : Type} {enc : TypeId × Value → H}
set_option maxRecDepth 100000 in
/-- An entry, as an argument. -/
theorem open_sub {base : Nat} {W : World} {v : Value} {d : DataW H} {ps : List MemPlace} (hok : Value.okWide Tryz.prog W .any base 31 v) (h : DataW.Trod enc Tryz.prog W 0 (fun _ => true) true 31 v d ps) :
    ∃ (f c : ByteArray) (q : Int), v = .agg #[.string f, .string c, .int .i64 q] ∧ f.size ≤ maxLen ∧ c.size ≤ maxLen := by
  obtain ⟨v0, v1, v2, y0, y1, y2, n, rfl, -, -, h0, h1, h2⟩ := Joins.open_agg3 Tryz.underlying31 (by kernel_rfl) (by kernel_rfl) hok h
  obtain ⟨f, e0, -, hf⟩ := DataW.trod_string Tryz.underlying9 h0
  obtain ⟨c, e1, -, hc⟩ := DataW.trod_string Tryz.underlying9 h1
  obtain ⟨q, e2, -, -⟩ := DataW.trod_int Tryz.underlying3 h2
  cases e0; cases e1; cases e2
  exact ⟨f, c, q, rfl, hf, hc⟩
end
end Go.Proofs.YtgcfgheamaoceaaGreatDoor
/- Layer 14: the law's few, of any acts. -/
namespace Go.Proofs.YtgcfgheamaoceaaGreatDoor
open Go.RowKit Go.MapKept Go.ChangeMaps Go.Maps

/-- A call of the law's. -/
structure Do where
  k : Int
  f : ByteArray
  c : ByteArray
  q : Int
/-- Acts that lie at a place. -/
def ActsAt (w : World) (a : Option Addr) (L : List Do) : Prop := ∀ i s, L[i]? = some s → ∃ B o, a = some ⟨B, o, none⟩ ∧ B < w.heap.size ∧ w.cell? ⟨B, o + i * 4, none⟩ = some (.int .i64 s.k) ∧ w.cell? ⟨B, o + i * 4 + 1, none⟩ = some (.string s.f) ∧ w.cell? ⟨B, o + i * 4 + 2, none⟩ = some (.string s.c) ∧ w.cell? ⟨B, o + i * 4 + 3, none⟩ = some (.int .i64 s.q)
theorem ActsAt.below {w w' : World} {a : Option Addr} {L : List Do} (h : ActsAt w a L) (hb : Below w.heap.size w w') : ActsAt w' a L := fun i s hs => by
  obtain ⟨B, o, e, hB, h0, h1, h2, h3⟩ := h i s hs
  have hc : ∀ k, w'.cell? ⟨B, k, none⟩ = w.cell? ⟨B, k, none⟩ := fun k => hb.cell (p := ⟨B, k, none⟩) hB
  exact ⟨B, o, e, Nat.lt_of_lt_of_le hB hb.size, (hc _).trans h0, (hc _).trans h1, (hc _).trans h2, (hc _).trans h3⟩
/-- No more than is done here. -/
def short (s : Do) : Bool := decide (s.f.size ≤ 300) && decide (s.c.size ≤ 300)
def fewL (L : List Do) (m : Nat) : Bool := decide (L.length ≤ m) && L.all short
theorem index_act (w : World) (b o n cap i : Nat) (hi : i < n) : (Instr.indexAt 22 (.slice (some ⟨b, o, none⟩) n cap) (.int .i64 i)).run Tryz.prog w = .ok (.pointer (some ⟨b, o + i * 4, none⟩)) w := by
  have he : Tryz.prog.elem 22 = 33 := by kernel_rfl
  have hs : (sizeOf 33).run Tryz.prog w = .ok 4 w := by kernel_rfl
  refine (run_indexAt_slice (P := Tryz.prog) (w := w) 22 ⟨b, o, none⟩ n cap .i64 i (by rw [he]; exact Tryz.underlying22)).trans ?_
  rw [if_pos (by omega), he, hs]
  simp only [Result.andThen_ok, addr_add, Int.toNat_natCast]
set_option maxRecDepth 100000 in
set_option maxHeartbeats 2000000 in
theorem few_any (w : World) (a : Option Addr) (L : List Do) (cap m : Nat) (hm1 : m ≤ 1000000) (h : ActsAt w a L) (hs : ∀ s ∈ L, s.f.size ≤ maxLen ∧ s.c.size ≤ maxLen) :
    Calls Tryz.prog 8 #[.slice a L.length cap, .int .i64 m] w fun e w' => e = .returned (.bool (fewL L m)) ∧ w' = w := by
  by_cases hm : L.length ≤ m
  case neg =>
    have hm2 : (m : Int) < (L.length : Int) := by omega
    have e : fewL L m = false := by unfold fewL; simp [hm]
    rw [e]
    go_enter Tryz.func8, Tryz.ntmps8
    go_wp2
    go_ret
    exact ⟨rfl, rfl⟩
  case pos =>
    have hm2 : ¬ (m : Int) < (L.length : Int) := by omega
    have e : fewL L m = L.all short := by unfold fewL; simp [hm]
    rw [e]
    have hm3 : L.length ≤ 1000000 := by omega
    clear e hm hm1
    have HA := Lib.hid h
    clear h
    go_enter Tryz.func8, Tryz.ntmps8
    go_wp2
    go_loopw [4, 5, 10, 11, 12, 13, 14, 15, 16, 17, 18, 19, 20, 21, 22, 23, 24, 25, 26, 27, 28, 29, 30, 31, 32, 33] (fun _ x _ _ _ _ _ _ _ _ _ _ _ _ _ _ _ _ _ _ _ _ _ _ _ _ wr => ∃ i : Nat, x = .int .i64 i ∧ i ≤ L.length ∧ wr = w ∧ ∀ j s, j < i → L[j]? = some s → short s = true) (fun _ x _ _ _ _ _ _ _ _ _ _ _ _ _ _ _ _ _ _ _ _ _ _ _ _ _ => L.length - (intOf x).toNat)
    case atStart => exact ⟨0, rfl, Nat.zero_le _, rfl, fun j s hj => absurd hj (Nat.not_lt_zero _)⟩
    case round =>
      obtain ⟨i, rfl, hi, rfl, hb⟩ := hrel
      by_cases hlt : i < L.length
      · have hic : (i : Int) < L.length := by omega
        obtain ⟨s, hsi⟩ : ∃ s, L[i]? = some s := ⟨L[i], List.getElem?_eq_getElem hlt⟩
        obtain ⟨B, o, rfl, -, -, c1, c2, -⟩ := HA.out i s hsi
        obtain ⟨m1, m2⟩ := hs s (List.mem_of_getElem? hsi)
        have hw1 : IntKind.i64.wrap ((s.f.size : Nat) : Int) = s.f.size := by rw [IntKind.wrap_i64]; unfold maxLen at m1; omega
        have hw2 : IntKind.i64.wrap ((s.c.size : Nat) : Int) = s.c.size := by rw [IntKind.wrap_i64]; unfold maxLen at m2; omega
        have hx := index_act wr B o L.length cap i hlt
        have hwi : IntKind.i64.wrap ((i : Int) + 1) = (i : Int) + 1 := by rw [IntKind.wrap_i64]; omega
        by_cases hF : s.f.size ≤ 300
        · have hF2 : ¬ (300 : Int) < (s.f.size : Int) := by omega
          by_cases hC : s.c.size ≤ 300
          · have hC2 : ¬ (300 : Int) < (s.c.size : Int) := by omega
            have hsh : short s = true := by unfold short; simp [hF, hC]
            go_wp2
            refine ⟨⟨i + 1, rfl, by omega, trivial, fun j t hj ht => ?_⟩, by show L.length - ((i : Int) + 1).toNat < L.length - (i : Int).toNat; omega⟩
            by_cases hji : j = i
            · subst hji
              rw [hsi] at ht
              cases ht
              exact hsh
            · exact hb j t (by omega) ht
          · have hC2 : (300 : Int) < (s.c.size : Int) := by omega
            have hsh : L.all short = false := List.all_eq_false.2 ⟨s, List.mem_of_getElem? hsi, by unfold short; simp [hC]⟩
            go_wp2
            go_ret
            first | exact ⟨rfl, rfl⟩ | exact ⟨by rw [hsh]; rfl, rfl⟩
        · have hF2 : (300 : Int) < (s.f.size : Int) := by omega
          have hsh : L.all short = false := List.all_eq_false.2 ⟨s, List.mem_of_getElem? hsi, by unfold short; simp [hF]⟩
          go_wp2
          go_ret
          first | exact ⟨rfl, rfl⟩ | exact ⟨by rw [hsh]; rfl, rfl⟩
      · have hic : ¬ (i : Int) < L.length := by omega
        have hsh : L.all short = true := List.all_eq_true.2 fun s hsm => by
          obtain ⟨j, hj, rfl⟩ := List.getElem_of_mem hsm
          exact hb j _ (by omega) (List.getElem?_eq_getElem hj)
        go_wp2
        go_ret
        first | exact ⟨rfl, rfl⟩ | exact ⟨by rw [hsh]; rfl, rfl⟩
end Go.Proofs.YtgcfgheamaoceaaGreatDoor
/- Layer 14: rows of acts that a call made; entries that lie at a place (an argument's). -/
namespace Go.Proofs.YtgcfgheamaoceaaGreatDoor
open Go.RowKit Go.MapKept Go.ChangeMaps Go.Maps

def doL (s : Do) : List Value := [.int .i64 s.k, .string s.f, .string s.c, .int .i64 s.q]
def dosL (L : List Do) : List Value := L.flatMap doL
theorem dosL_app (L M : List Do) : dosL (L ++ M) = dosL L ++ dosL M := by simp [dosL]
theorem dosL_len (L : List Do) : (dosL L).length = L.length * 4 := by
  induction L with
  | nil => rfl
  | cons c L ih => rw [show dosL (c :: L) = doL c ++ dosL L from rfl, List.length_append, ih]; simp [doL]; omega
/-- A slice that the call made, of these acts. -/
def OwnA (w : World) (base : Nat) (v : Value) (L : List Do) : Prop := w.ownsRow base 33 4 v L.length (dosL L)
theorem OwnA.nil (w : World) (base : Nat) : OwnA w base (.slice none 0 0) [] := World.ownsRow_nil w base _ _
theorem ownA_lt {w : World} {base : Nat} {v : Value} {L : List Do} (h : OwnA w base v L) (g : Nat) (hg : v.ownBlock = some g) : base ≤ g ∧ g < w.heap.size := by
  rcases h.2 with ⟨rfl, _⟩ | ⟨g', cap, cur, rfl, hb, hh, _⟩
  · cases hg
  · cases hg; exact ⟨hb, (Array.getElem?_eq_some_iff.1 hh).1⟩
theorem ownA_slice {w : World} {base : Nat} {v : Value} {L : List Do} (h : OwnA w base v L) : ∃ a cap, v = .slice a L.length cap := by
  rcases h.2 with ⟨rfl, h0⟩ | ⟨g', cap, cur, rfl, _⟩
  · exact ⟨none, 0, by rw [h0]⟩
  · exact ⟨_, cap, rfl⟩
theorem OwnA.kept {w w' : World} {base : Nat} {v : Value} {L : List Do} (h : OwnA w base v L) (hg : ∀ g, v.ownBlock = some g → w'.heap[g]? = w.heap[g]?) : OwnA w' base v L := by
  rcases h with ⟨hl, e | ⟨g, cp, cur, rfl, hb, hh, r⟩⟩
  · exact ⟨hl, .inl e⟩
  · exact ⟨hl, .inr ⟨g, cp, cur, rfl, hb, (hg g rfl).trans hh, r⟩⟩
theorem OwnA.below {w w' : World} {base : Nat} {v : Value} {L : List Do} (h : OwnA w base v L) (hb : Below w.heap.size w w') : OwnA w' base v L := h.kept fun g hg => hb.block g (ownA_lt h g hg).2
theorem OwnA.mono {w : World} {b b' : Nat} {v : Value} {L : List Do} (h : OwnA w b v L) (hn : b' ≤ b) : OwnA w b' v L := by
  rcases h with ⟨hl, e | ⟨g, cp, cur, rfl, hb, r⟩⟩
  · exact ⟨hl, .inl e⟩
  · exact ⟨hl, .inr ⟨g, cp, cur, rfl, Nat.le_trans hn hb, r⟩⟩
/-- They lie where the slice says. -/
theorem ownA_at {w : World} {base : Nat} {v : Value} {L : List Do} (h : OwnA w base v L) : ∃ a cap, v = .slice a L.length cap ∧ ActsAt w a L := by
  obtain ⟨hl, ⟨rfl, h0⟩ | ⟨g, cap, cur, rfl, hb, hh, hn, hcap, hcs, htk⟩⟩ := h
  · refine ⟨none, 0, by rw [h0], fun i s hs => ?_⟩
    have := (List.getElem?_eq_some_iff.1 hs).1
    omega
  · refine ⟨_, cap, rfl, fun i s hs => ?_⟩
    have hi := (List.getElem?_eq_some_iff.1 hs).1
    have key : ∀ j u, j < 4 → (doL s)[j]? = some u → w.cell? ⟨g, 0 + i * 4 + j, none⟩ = some u := fun j u hj hu => by
      rw [cell_of_row w g (0 + i * 4 + j) _ _ _ hh]
      have h1 : (cur.toList.take (L.length * 4))[0 + i * 4 + j]? = some u := by
        rw [htk]
        obtain ⟨A, C, rfl, hA⟩ : ∃ A C, L = A ++ s :: C ∧ A.length = i := ⟨L.take i, L.drop (i + 1), by rw [(List.getElem?_eq_some_iff.1 hs).2.symm]; simp, by simp; omega⟩
        rw [dosL_app, List.getElem?_append_right (by rw [dosL_len]; omega), dosL_len, hA, show dosL (s :: C) = doL s ++ dosL C from rfl, show 0 + i * 4 + j - i * 4 = j by omega, List.getElem?_append_left (by simp [doL]; omega)]
        exact hu
      rw [List.getElem?_take, if_pos (by omega), Array.getElem?_toList] at h1
      exact h1
    exact ⟨g, 0, rfl, (Array.getElem?_eq_some_iff.1 hh).1, key 0 _ (by decide) rfl, key 1 _ (by decide) rfl, key 2 _ (by decide) rfl, key 3 _ (by decide) rfl⟩
theorem infoAct : (Tryz.prog.info? 33).map (fun i => (i.zero, i.size, i.bytes)) = some (some (.agg #[.int .i64 0, .string ⟨#[]⟩, .string ⟨#[]⟩, .int .i64 0]), 4, 48) := by kernel_rfl
/-- append of acts that lie at a place. -/
theorem run_append_acts (w : World) (base ty : Nat) (v : Value) (L M : List Do) (hown : OwnA w base v L) (B o cap : Nat) (hM : ∀ j u, (dosL M)[j]? = some u → w.cell? ⟨B, o + j, none⟩ = some u) (hL : L.length + M.length ≤ 2000000) (hbase : base ≤ w.heap.size) :
    ∃ v' w', (Builtin.append_ #[22, 22] ty #[v, .slice (some ⟨B, o, none⟩) M.length cap]).run Tryz.prog w = .ok v' w' ∧ OwnA w' base v' (L ++ M) ∧ w.grownBy w' v.ownBlock ∧ (v'.ownBlock = v.ownBlock ∨ v'.ownBlock = some w.heap.size) := by
  obtain ⟨i0, hi, hz0, hz1, hz2⟩ := info_parts infoAct
  obtain ⟨v', w', h1, h2, h3, -, h5⟩ := run_append_own_at (P := Tryz.prog) (w := w) base 22 ty 33 i0 _ 4 48 Tryz.underlying22 hi hz0 hz1 hz2 rfl (by decide) v L.length (dosL L) hown ⟨B, o, none⟩ M.length cap (dosL M) (dosL_len M) (fun j u hu => by
      rw [addr_add]
      exact hM j u hu) (fun u hu => by
      simp only [dosL, List.mem_flatMap] at hu
      obtain ⟨s, -, hu⟩ := hu
      simp [doL] at hu
      rcases hu with rfl | rfl | rfl | rfl <;> rfl) (by unfold maxLen; omega) (by omega) hbase
  refine ⟨v', w', h1, ?_, h3, h5⟩
  unfold OwnA
  rw [dosL_app, List.length_append]
  exact h2
/-- Entries, as an argument holds them. -/
structure En where
  f : ByteArray
  c : ByteArray
  q : Int
def enV (s : En) : Value := .agg #[.string s.f, .string s.c, .int .i64 s.q]
def EnsAt (w : World) (a : Option Addr) (L : List En) : Prop := ∀ i s, L[i]? = some s → ∃ B o, a = some ⟨B, o, none⟩ ∧ B < w.heap.size ∧ w.cell? ⟨B, o + i * 3, none⟩ = some (.string s.f) ∧ w.cell? ⟨B, o + i * 3 + 1, none⟩ = some (.string s.c) ∧ w.cell? ⟨B, o + i * 3 + 2, none⟩ = some (.int .i64 s.q)
theorem EnsAt.below {w w' : World} {a : Option Addr} {L : List En} (h : EnsAt w a L) (hb : Below w.heap.size w w') : EnsAt w' a L := fun i s hs => by
  obtain ⟨B, o, e, hB, h0, h1, h2⟩ := h i s hs
  have hc : ∀ k, w'.cell? ⟨B, k, none⟩ = w.cell? ⟨B, k, none⟩ := fun k => hb.cell (p := ⟨B, k, none⟩) hB
  exact ⟨B, o, e, Nat.lt_of_lt_of_le hB hb.size, (hc _).trans h0, (hc _).trans h1, (hc _).trans h2⟩
theorem index_en (w : World) (b o n cap i : Nat) (hi : i < n) : (Instr.indexAt 27 (.slice (some ⟨b, o, none⟩) n cap) (.int .i64 i)).run Tryz.prog w = .ok (.pointer (some ⟨b, o + i * 3, none⟩)) w := by
  have he : Tryz.prog.elem 27 = 31 := by kernel_rfl
  have hs : (sizeOf 31).run Tryz.prog w = .ok 3 w := by kernel_rfl
  refine (run_indexAt_slice (P := Tryz.prog) (w := w) 27 ⟨b, o, none⟩ n cap .i64 i (by rw [he]; exact Tryz.underlying27)).trans ?_
  rw [if_pos (by omega), he, hs]
  simp only [Result.andThen_ok, addr_add, Int.toNat_natCast]
theorem load_en {w : World} {b o : Nat} {s : En} (h0 : w.cell? ⟨b, o, none⟩ = some (.string s.f)) (h1 : w.cell? ⟨b, o + 1, none⟩ = some (.string s.c)) (h2 : w.cell? ⟨b, o + 2, none⟩ = some (.int .i64 s.q)) : (Instr.loadAt 31 (.pointer (some ⟨b, o, none⟩))).run Tryz.prog w = .ok (.agg #[.string s.f, .string s.c, .int .i64 s.q]) w :=
  run_loadAt_mid w b o _ [.string s.f, .string s.c, .int .i64 s.q] _ (fun j v hv => by
    match j, hv with
    | 0, hv => cases hv; exact h0
    | 1, hv => cases hv; exact h1
    | 2, hv => cases hv; exact h2
    | j + 3, hv => cases hv) Tryz.underlying31 rfl (by kernel_rfl)
end Go.Proofs.YtgcfgheamaoceaaGreatDoor
/- Layer 14: an argument of entries, opened; how many there are where what is read is of little bulk. -/
namespace Go.Proofs.YtgcfgheamaoceaaGreatDoor
open Go.ChangeShapes Go.WideShapes Go.RowKit Go.Deep

section
variable {H : Type} {enc : TypeId × Value → H}
theorem bulk_pos (d : DataW H) : 0 < Rows.uptoBulk d := by
  cases d with
  | lit l => cases l <;> simp [Rows.uptoBulk]
  | _ => simp [Rows.uptoBulk]
theorem bulk_len : ∀ l : List (DataW H), l.length ≤ Rows.uptoBulkAll l
  | [] => Nat.zero_le _
  | d :: r => by
    have h1 := bulk_pos d
    have h2 := bulk_len r
    simp only [Rows.uptoBulkAll, List.length_cons]
    omega
theorem fields_sub : ∃ fs : Array Field, Tryz.prog.underlying 31 = some (.struct fs) ∧ oneCellFields Tryz.prog fs = true ∧ fs.toList.map (·.type) = [9, 9, 3] :=
  ⟨_, Tryz.underlying31, by kernel_rfl, by kernel_rfl⟩
instance : Inhabited En := ⟨⟨⟨#[]⟩, ⟨#[]⟩, 0⟩⟩
set_option maxRecDepth 100000 in
/-- Entries, as an argument. -/
theorem open_subs {base : Nat} {W : World} {v : Value} {d : DataW H} {ps : List MemPlace} (hok : Value.okWide Tryz.prog W .any base 27 v) (h : DataW.Trod enc Tryz.prog W 0 (fun _ => true) true 27 v d ps) :
    ∃ (a : Option Addr) (L : List En) (cap : Nat), v = .slice a L.length cap ∧ EnsAt W a L ∧ (∀ e ∈ L, e.f.size ≤ maxLen ∧ e.c.size ≤ maxLen) ∧ L.length < Rows.uptoBulk d ∧ cap ≤ maxLen := by
  have ht : Tryz.prog.underlying 27 = some (.slice 31) := Tryz.underlying27
  have hC : Tryz.prog.cellsOf 31 = 3 := by kernel_rfl
  obtain ⟨fs, he, hone, htys⟩ := fields_sub
  have hn : fs.size = 3 := by have := congrArg List.length htys; simpa using this
  obtain ⟨a0, len, cap, rfl⟩ := okWide_slice ht hok
  obtain ⟨fuel, hf⟩ := h
  rcases open_slice ht hf with ⟨hcs, hx⟩ | ⟨a, len', cap', m, n, D, Pl, hcs, _, hl, hm, hmm, hx, hi⟩
  · simp [Value.cells] at hcs
    obtain ⟨rfl, rfl, rfl⟩ := hcs
    exact ⟨none, [], 0, rfl, fun i s hs => by simp at hs, fun e he => by simp at he, bulk_pos _, Nat.zero_le _⟩
  · simp [Value.cells] at hcs
    obtain ⟨rfl, rfl, rfl⟩ := hcs
    simp only [if_true] at hmm
    have hd : d = .slice ((List.range len).map D) ((List.range (m - len)).map fun j => D (len + j)) := congrArg Prod.fst hx
    have hbulk : len < Rows.uptoBulk d := by
      rw [hd]
      have h1 := bulk_len ((List.range len).map D)
      simp only [List.length_map, List.length_range] at h1
      simp only [Rows.uptoBulk]
      omega
    have key : ∀ i, i < len → ∃ e : En, W.cell? (a.add (i * 3)) = some (.string e.f) ∧ W.cell? ((a.add (i * 3)).add 1) = some (.string e.c) ∧ W.cell? ((a.add (i * 3)).add 2) = some (.int .i64 e.q) ∧ e.f.size ≤ maxLen ∧ e.c.size ≤ maxLen := fun i hil => by
      obtain ⟨cs', hc, ht'⟩ := hi i (by omega)
      rw [hC] at hc
      obtain ⟨_, hcl, hat⟩ := World.cells?_some hc
      match cs', hcl with
      | [c0, c1, c2], _ =>
        have hfld : ∀ (j : Nat) (f : Field) (c : Value), fs[j]? = some f → [c0, c1, c2][j]? = some c → ∃ n y, DataW.trod enc Tryz.prog W 0 (fun _ => true) true n f.type [c] = some y := by
          intro j f c hj hcj
          obtain ⟨ys, n', _, _, _, hyl, hfj⟩ := DataW.trod_struct he ht'
          obtain ⟨ho, hk⟩ := hone_of hone j f hj
          have hjl : j < fs.size := (Array.getElem?_eq_some_iff.1 hj).1
          have h1 := hfj j f hj
          rw [ho, hk] at h1
          have e1 : ([c0, c1, c2].drop j).take 1 = [c] := by
            match j, hn ▸ hjl with
            | 0, _ => simp at hcj; subst hcj; rfl
            | 1, _ => simp at hcj; subst hcj; rfl
            | 2, _ => simp at hcj; subst hcj; rfl
          rw [e1] at h1
          exact ⟨n', _, h1.trans (List.getElem?_eq_getElem (by omega))⟩
        have hty : ∀ (j : Nat) (t : TypeId), [9, 9, 3][j]? = some t → ∃ f : Field, fs[j]? = some f ∧ f.type = t := fun j t h => by
          rw [← htys, List.getElem?_map] at h
          obtain ⟨f, hf1, hf2⟩ := Option.map_eq_some_iff.1 h
          exact ⟨f, by rw [← Array.getElem?_toList]; exact hf1, hf2⟩
        obtain ⟨f0, g0, e0⟩ := hty 0 _ rfl
        obtain ⟨f1, g1, e1⟩ := hty 1 _ rfl
        obtain ⟨f2, g2, e2⟩ := hty 2 _ rfl
        obtain ⟨n0, y0, k0⟩ := hfld 0 f0 c0 g0 rfl
        obtain ⟨n1, y1, k1⟩ := hfld 1 f1 c1 g1 rfl
        obtain ⟨n2, y2, k2⟩ := hfld 2 f2 c2 g2 rfl
        rw [e0] at k0
        rw [e1] at k1
        rw [e2] at k2
        obtain ⟨s0, q0, -, z0⟩ := DataW.trod_string Tryz.underlying9 k0
        obtain ⟨s1, q1, -, z1⟩ := DataW.trod_string Tryz.underlying9 k1
        obtain ⟨s2, q2, -, -⟩ := DataW.trod_int Tryz.underlying3 k2
        simp at q0 q1 q2
        subst q0
        subst q1
        subst q2
        refine ⟨⟨s0, s1, s2⟩, ?_, hat 1 (by omega), hat 2 (by omega), z0, z1⟩
        have := hat 0 (by omega)
        rw [Go.Deep.add_add, Nat.add_zero] at this
        exact this
    obtain ⟨E, hE⟩ := choose_lt (α := En) (p := fun i e => W.cell? (a.add (i * 3)) = some (.string e.f) ∧ W.cell? ((a.add (i * 3)).add 1) = some (.string e.c) ∧ W.cell? ((a.add (i * 3)).add 2) = some (.int .i64 e.q) ∧ e.f.size ≤ maxLen ∧ e.c.size ≤ maxLen) key
    refine ⟨some a, (List.range len).map E, cap, by rw [List.length_map, List.length_range], fun i s hs => ?_, fun e he => ?_, by rw [List.length_map, List.length_range]; exact hbulk, hm⟩
    · have hil : i < len := by have := (List.getElem?_eq_some_iff.1 hs).1; simpa using this
      have hsE : s = E i := by
        rw [List.getElem?_map, List.getElem?_range hil] at hs
        exact (Option.some.inj hs).symm
      subst hsE
      obtain ⟨h0, h1, h2, -, -⟩ := hE i hil
      obtain ⟨b, off, spot⟩ := a
      have hspot : spot = none := by simpa [Addr.add] using World.cell?_spot (hE 0 (by omega)).1
      subst hspot
      rw [addr_add] at h0 h1 h2
      rw [addr_add] at h1 h2
      exact ⟨b, off, rfl, by have := cell_lt h0; exact this, h0, h1, h2⟩
    · obtain ⟨i, hi2, rfl⟩ := List.mem_map.1 he
      exact (hE i (List.mem_range.1 hi2)).2.2.2
end
end Go.Proofs.YtgcfgheamaoceaaGreatDoor
