/- Layer 5: the document's Parse. -/
import Derived.Deep.RegionWith
import Derived.Deep.QuietTactic
import Derived.BigQuiet
import Derived.WalkSmall
import Derived.Deep.DeepCutAuto
import Derived.Test.YtaceebgcaghocaaSlE
import Derived.Test.YtaceebgcaghocaaRefRead
import Derived.Test.YtaceebgcaghocaaSlTx
import Derived.Test.YtaceebgcaghocaaSlU
import Derived.Test.YtaceebgcaghocaaSlDo
import Derived.Test.YtaceebgcaghocaaSlBk
import Derived.Test.YtaceebgcaghocaaReg3
namespace Go.Proofs.Ytaceebgcaghocaa
open Go.RowKit

theorem ShowsL.below {n₁ : Nat} {w w' : World} {v : Value} {l : List UInt8} (h : ShowsL n₁ w v l) (hb : Below n₁ w w') : ShowsL n₁ w' v l := by
  obtain ⟨a, c, h1, h2, h3, h4, h5⟩ := h; exact ⟨a, c, h1, h2.below hb, h3, h4, h5⟩
def DpInv (w : World) (lf : Bool) (n : Nat) (rem : List UInt8) (lv ov iv : Value) (wr : World) : Prop :=
  Below w.heap.size w wr ∧ ∃ (i : Nat) (L : List Cv) (r : List UInt8), iv = .int .i64 i ∧ i ≤ n ∧ docUpto lf i rem = some (L, r) ∧ L.length = i ∧ OwnC wr w.heap.size ov L ∧ ShowsL w.heap.size wr lv r
theorem stop_here5 {p : Prop} (h : Hid p) : p := h
def NrV (k : Int) (va : Option Addr) (i vc : Nat) : Nat → Value → World → Prop
  | 0, v, _ => v = .int .i64 k
  | 1, v, _ => v = .slice va i vc
  | 2, v, _ => v = .bool false
  | 3, v, _ => v = .bool true
  | 4, v, _ => v = .bool true
  | 12, v, _ => v = .bool true
  | _, _, _ => True
theorem NrV.any {k : Int} {va : Option Addr} {i vc : Nat} {w w' : World} (j : Nat) (u : Value) (h : NrV k va i vc j u w) : NrV k va i vc j u w' := by
  unfold NrV at h ⊢
  split at h
  all_goals exact h
/-- What the document's Parse leaves. -/
def DpPost (w : World) (k : Int) (b : List UInt8) (e : Ending) (w' : World) : Prop := Below w.heap.size w w' ∧
  ((¬ (k = 2 ∨ k = 3) ∧ e = .returned (.tuple #[.slice none 0 0, .int .i64 2])) ∨
   ((k = 2 ∨ k = 3) ∧ ∃ L v, Parsed k b L ∧ e = .returned (.tuple #[v, .int .i64 0]) ∧ OwnC w' w.heap.size v L) ∨
   ((k = 2 ∨ k = 3) ∧ (∀ L, ¬ Parsed k b L) ∧ e = .returned (.tuple #[.slice none 0 0, .int .i64 151])))
theorem tx_small (r : List UInt8) : (txS r).size ≤ 300 := by
  have h1 := numOf_lt (r.take 1)
  have h2 : (r.take 1).length ≤ 1 := by rw [List.length_take]; omega
  have h3 : 256 ^ (r.take 1).length ≤ 256 ^ 1 := Nat.pow_le_pow_right (by decide) h2
  show ((r.drop 1).take (numOf (r.take 1))).toArray.size ≤ 300
  rw [List.size_toArray, List.length_take]
  omega
theorem part_small {leaf : Bool} {r t : List UInt8} {c : Cv} (h : docPart leaf r = some (c, t)) : c.key.size ≤ 300 ∧ c.text.size ≤ 300 := by
  have he : ByteArray.empty.size ≤ 300 := by decide
  cases leaf
  · have h : readBranch r = some (c, t) := h
    unfold readBranch at h
    split at h
    · split at h
      · cases h; exact ⟨tx_small r, he⟩
      · cases h
    · cases h
  · have h : docLeaf r = some (c, t) := h
    unfold docLeaf at h
    split at h
    · split at h
      · cases h
      · split at h
        · unfold readLong at h
          split at h
          · split at h
            · cases h; exact ⟨tx_small r, he⟩
            · cases h
          · cases h
        · unfold readShort at h
          split at h
          · cases h; exact ⟨tx_small r, tx_small _⟩
          · cases h
    · cases h
theorem upto_small {leaf : Bool} {rem : List UInt8} : ∀ {i : Nat} {L : List Cv} {r : List UInt8}, docUpto leaf i rem = some (L, r) → ∀ c ∈ L, c.key.size ≤ 300 ∧ c.text.size ≤ 300 := by
  intro i
  induction i with
  | zero => intro L r h c hc; rw [docUpto] at h; cases h; cases hc
  | succ i ih =>
    intro L r h c hc
    rw [docUpto] at h
    cases hx : docUpto leaf i rem with
    | none => rw [hx] at h; cases h
    | some x =>
      obtain ⟨M, t⟩ := x
      rw [hx] at h
      simp only [Option.bind_some] at h
      cases hy : docPart leaf t with
      | none => rw [hy] at h; cases h
      | some y =>
        obtain ⟨d, t2⟩ := y
        rw [hy] at h
        simp only [Option.map_some, Option.some.injEq, Prod.mk.injEq] at h
        obtain ⟨rfl, rfl⟩ := h
        rcases List.mem_append.1 hc with hc | hc
        · exact ih hx c hc
        · rw [List.mem_singleton.1 hc]; exact part_small hy
theorem sized_of {leaf : Bool} {rem : List UInt8} {i : Nat} {L : List Cv} {r : List UInt8} (h : docUpto leaf i rem = some (L, r)) : Sized L := fun j hj => by
  have e : L.getD j default = L[j] := by simp [List.getD, hj]
  rw [e]
  obtain ⟨a, b⟩ := upto_small h _ (List.getElem_mem hj)
  exact ⟨by omega, by omega⟩
/-- What a slice shows, from a place on. -/
theorem ShowsL.drop {n₁ : Nat} {w : World} {v : Value} {l : List UInt8} (h : ShowsL n₁ w v l) {m : Nat} (hm : l.length = m) (i : Nat) (hi : i ≤ m) : ∃ a c a' c', v = .slice a m c ∧ (∀ w' : World, (Instr.sliceAt 23 (.slice a m c) (some (.int .i64 i)) none none).run Try.prog w' = .ok (.slice a' (m - i) c') w') ∧ ShowsL n₁ w (.slice a' (m - i) c') (l.drop i) ∧ BytesAt n₁ w a l := by
  obtain ⟨a, c, rfl, h2, h3, h4, h5⟩ := h
  rw [hm] at h4 h5 ⊢
  refine ⟨a, c, slFrom a c i, c - i, rfl, fun w' => sliceFrom w' a m c i hi, ⟨slFrom a c i, c - i, by rw [List.length_drop, hm], rest_at h2 (by rw [hm]; exact h4), fun e => slFrom_none h3 e, by rw [List.length_drop, hm]; omega, by rw [List.length_drop, hm]; omega⟩, h2⟩
/-- Ahead of the append: a cell was read. -/
def DpMid (n₁ : Nat) (wr : World) (leaf : Bool) (r : List UInt8) (lv : Value) (wx : World) : Prop :=
  ∃ (c : Cv) (t : List UInt8), docPart leaf r = some (c, t) ∧ Below wr.heap.size wr wx ∧ wx.heap[wr.heap.size]? = some (.cells #[.string c.key, .string c.text, .bool c.long, .int .i64 c.page, .int .i64 c.size] 36 (0, 0)) ∧ ShowsL n₁ wx lv t
theorem cells5 {w : World} {B : Nat} {x0 x1 x2 x3 x4 : Value} {T : TypeId} (h : w.heap[B]? = some (.cells #[x0, x1, x2, x3, x4] T (0, 0))) :
    (w.cell? ⟨B, 0, none⟩ = some x0 ∧ w.cell? ⟨B, 1, none⟩ = some x1 ∧ w.cell? ⟨B, 2, none⟩ = some x2 ∧ w.cell? ⟨B, 3, none⟩ = some x3 ∧ w.cell? ⟨B, 4, none⟩ = some x4) ∧
    (w.frozen? ⟨B, 0, none⟩ = false ∧ w.frozen? ⟨B, 1, none⟩ = false ∧ w.frozen? ⟨B, 2, none⟩ = false ∧ w.frozen? ⟨B, 3, none⟩ = false ∧ w.frozen? ⟨B, 4, none⟩ = false) :=
  ⟨⟨cell_of_row w B 0 _ _ _ h, cell_of_row w B 1 _ _ _ h, cell_of_row w B 2 _ _ _ h, cell_of_row w B 3 _ _ _ h, cell_of_row w B 4 _ _ _ h⟩, frozen_of_row w B 0 _ _ h, frozen_of_row w B 1 _ _ h, frozen_of_row w B 2 _ _ h, frozen_of_row w B 3 _ _ h, frozen_of_row w B 4 _ _ h⟩
theorem readLong_no {key : ByteArray} {r : List UInt8} (h : r.length < 8) : readLong key r = none := by
  unfold readLong
  split
  · rw [if_neg (by rw [List.length_drop]; omega)]
  · rfl
theorem below_set5 {w w2 : World} (h : Below w.heap.size w w2) {B j : Nat} {v : Value} (hB : w.heap.size ≤ B) : Below w.heap.size w (w2.setCell ⟨B, j, none⟩ v) :=
  h.grown (set_grown w2 ⟨B, j, none⟩ v) h.size (fun q e => by cases e; exact hB)
theorem dp_none {w w' : World} {k : Int} {b rem : List UInt8} {n i m : Nat} {L : List Cv} {r : List UInt8} {lf : Bool} (hk : k = 2 ∨ k = 3) (hm : 2 ≤ m ∧ m ≤ 232) (_h22 : ¬ m < 2 + 2 * n) (hcn : countOf b = n) (hrem : b.drop (2 + 2 * n) = rem) (hlf : (k == 2) = lf) (hbl : b.length = m)
    (hu : docUpto lf i rem = some (L, r)) (hlt : i < n) (hd : docPart lf r = none) (hb : Below w.heap.size w w') : DpPost w k b (.returned (.tuple #[.slice none 0 0, .int .i64 151])) w' := by
  refine ⟨hb, .inr (.inr ⟨hk, fun M hM => ?_, rfl⟩)⟩
  obtain ⟨r', hM, -⟩ := (doc_parsed (by omega)).1 hM
  rw [hcn, hrem, hlf] at hM
  have hnn : docUpto lf n rem = none := ?_
  · rw [hnn] at hM; cases hM
  exact docUpto_none (i := i + 1) (by rw [docUpto, hu]; simp only [Option.bind_some]; rw [hd]; rfl) n hlt
set_option maxRecDepth 100000 in
set_option maxHeartbeats 8000000 in
theorem dparse5_two (k : Int) (hsel : k ≠ 3) (b : List UInt8) (ao : Option Addr) (c : Nat) (hlb : b.length ≤ 300) (hc : b.length ≤ c) (hno : ao = none → c = 0) (w : World) (hm : BytesAt w.heap.size w ao b) :
    Calls Try.prog 6 #[.int .i64 k, .slice ao b.length c] w fun e w' => DpPost w k b e w' := by
  obtain ⟨m, hbl⟩ : ∃ m, b.length = m := ⟨_, rfl⟩
  have HM := Lib.hid (And.intro hm (And.intro hno hbl))
  rw [hbl] at hlb hc ⊢
  by_cases hk : k = 2 ∨ k = 3
  case neg =>
    have g2 : (k != 2) = true := by simp; omega
    have g3 : (k != 3) = true := by simp; omega
    have HK := Lib.hid hk
    clear hk hm hno hbl
    go_enter Try.func6, Try.ntmps6
    go_wp2_with fail
    go_ret2
    exact ⟨Below.refl _ _, .inl ⟨HK.out, rfl⟩⟩
  have gk : (k != 2 && k != 3) = false := by rcases hk with rfl | rfl <;> rfl
  by_cases hm2 : 2 ≤ m ∧ m ≤ 232
  case neg =>
    have HK := Lib.hid (show DpPost w k b (.returned (.tuple #[.slice none 0 0, .int .i64 151])) w from ⟨Below.refl _ _, .inr (.inr ⟨hk, fun L h => hm2 (by have := h.1; have := h.2.1; omega), rfl⟩)⟩)
    by_cases h2 : m < 2
    · have g1 : ((m : Int) < 2) := by omega
      clear hm hno hbl hm2 gk
      rcases hk with rfl | rfl
      all_goals
        go_enter Try.func6, Try.ntmps6
        go_wp2_with fail
        go_ret2
        exact HK.out
    · have g1 : ¬ ((m : Int) < 2) := by omega
      have g2 : ((232 : Int) < m) := by omega
      clear hm hno hbl hm2 gk
      rcases hk with rfl | rfl
      all_goals
        go_enter Try.func6, Try.ntmps6
        go_wp2_with fail
        go_ret2
        exact HK.out
  have g1 : ¬ ((m : Int) < 2) := by omega
  have g2 : ¬ ((232 : Int) < m) := by omega
  obtain ⟨g, off, rfl, hg, hcell⟩ := hm (by rintro rfl; simp at hbl; omega)
  have hc0 := hcell 0 (by omega)
  have hc1 := hcell 1 (by omega)
  obtain ⟨x0, hx0⟩ : ∃ x, (b[0]?.getD 0).toNat = x := ⟨_, rfl⟩
  obtain ⟨x1, hx1⟩ : ∃ x, (b[1]?.getD 0).toNat = x := ⟨_, rfl⟩
  rw [hx0, Nat.add_zero] at hc0
  rw [hx1] at hc1
  have hx0b : x0 < 256 := by rw [← hx0]; exact UInt8.toNat_lt _
  have hx1b : x1 < 256 := by rw [← hx1]; exact UInt8.toNat_lt _
  obtain ⟨n, hn⟩ : ∃ n : Nat, 256 * x0 + x1 = n := ⟨_, rfl⟩
  have hcn : countOf b = n := by
    have h1 := numOf_take (l := b) (j := 1) (by omega)
    have h0 := numOf_take (l := b) (j := 0) (by omega)
    rw [hx1] at h1
    rw [hx0] at h0
    have h00 : numOf (b.take 0) = 0 := by simp [numOf]
    unfold countOf
    show numOf (b.take (1 + 1)) = n
    rw [h1, show numOf (b.take 1) = numOf (b.take (0 + 1)) from rfl, h0, h00]
    omega
  have HN := Lib.hid hcn
  have hni : 256 * (x0 : Int) + (x1 : Int) = (n : Int) := by omega
  clear hcell hcn hm hno
  by_cases h22 : m < 2 + 2 * n
  · have HK := Lib.hid (show ∀ q, DpPost w k b (.returned (.tuple #[.slice none 0 0, .int .i64 151])) (w.drewN q) from fun q => ⟨below_drewN (Below.refl _ _) q, .inr (.inr ⟨hk, fun L h => by have := h.2.2.1; rw [HN.out] at this; omega, rfl⟩)⟩)
    have g3 : ((m : Int) < 2 + 2 * (n : Int)) := by omega
    clear gk hbl hm2 HM HN hx0 hx1
    rcases hk with rfl | rfl
    all_goals
      go_enter Try.func6, Try.ntmps6
      go_wp2_with fail
      go_quiet (fail)
      go_wp2_with fail
      go_ret2
      exact HK.out _
  have g3 : ¬ ((m : Int) < 2 + 2 * (n : Int)) := by omega
  have hs := fun w' => sliceFrom w' (some ⟨g, off, none⟩) m c (2 + 2 * n) (by omega)
  rw [show ((2 + 2 * n : Nat) : Int) = 2 + 2 * (n : Int) by omega] at hs
  have hr := rest_at (c := c) (i := 2 + 2 * n) HM.out.1 (by rw [hbl]; exact hc)
  obtain ⟨a1, ha1⟩ : ∃ z, slFrom (some ⟨g, off, none⟩) c (2 + 2 * n) = z := ⟨_, rfl⟩
  simp only [ha1] at hs hr
  have hsl : ShowsL w.heap.size w (.slice a1 (m - (2 + 2 * n)) (c - (2 + 2 * n))) (b.drop (2 + 2 * n)) := ⟨a1, c - (2 + 2 * n), by rw [List.length_drop, hbl], hr, fun h => slFrom_none (i := 2 + 2 * n) (fun e => by cases e) (ha1.trans h), by rw [List.length_drop, hbl]; omega, by rw [List.length_drop, hbl]; omega⟩
  obtain ⟨rem, hrem⟩ : ∃ rem, b.drop (2 + 2 * n) = rem := ⟨_, rfl⟩
  rw [hrem] at hsl
  obtain ⟨lf, hlf⟩ : ∃ lf, (k == 2) = lf := ⟨_, rfl⟩
  obtain ⟨l0, hl0⟩ : ∃ l0, (Value.slice a1 (m - (2 + 2 * n)) (c - (2 + 2 * n))) = l0 := ⟨_, rfl⟩
  simp only [hl0] at hs hsl
  have HS := Lib.hid hsl
  have HF := Lib.hid (And.intro hk (And.intro hm2 (And.intro h22 (And.intro hrem (And.intro hlf hbl)))))
  have hkk : k = 2 ∧ lf = true ∨ k = 3 ∧ lf = false := by rcases hk with rfl | rfl <;> simp [← hlf]
  have hnm : n ≤ 200 := by omega
  clear gk hbl hm2 hx0 hx1 hsl hr ha1 hrem hlf hl0 h22 hk
  rcases hkk with ⟨rfl, rfl⟩ | ⟨rfl, rfl⟩
  · go_enter Try.func6, Try.ntmps6
    go_wp2_with fail
    go_quiet (fail)
    go_wp2_with fail
    have hdr : Below w.heap.size w (w.drewN nq) := below_drewN (Below.refl _ _) nq
    revert hdr
    generalize w.drewN nq = wd
    intro hdr
    have HD := Lib.hid hdr
    have HNO := Lib.hid (fun r i L hu hlt hd w' hb => dp_none (w := w) (w' := w') (k := 2) (b := b) (rem := rem) (n := n) (i := i) (m := m) (L := L) (r := r) (lf := true) (.inl rfl) HF.out.2.1 HF.out.2.2.1 HN.out HF.out.2.2.2.1 rfl HF.out.2.2.2.2.2 hu hlt hd hb)
    clear hdr hc0 hc1 hs
    go_loopw [7, 8, 9, 10, 11, 12, 13, 14, 15, 16, 52, 53, 54, 55, 56, 57, 58, 59, 60, 61, 62, 63, 64, 65, 66, 67, 68, 69, 70, 71, 72, 73, 74, 75, 76, 77, 78, 79, 80, 81, 82, 83, 84, 85, 86, 87, 88, 89, 90, 91, 92, 93, 94, 95, 96, 97, 98, 99, 100, 101, 102, 103, 104, 105, 106, 107, 108, 109, 110, 111, 112, 113, 114, 115, 116, 117, 118, 119, 120, 121, 122, 123, 124, 125, 126, 127, 128, 129, 130, 131, 132, 133, 134] (fun lv ov iv _ _ _ _ _ _ _ _ _ _ _ _ _ _ _ _ _ _ _ _ _ _ _ _ _ _ _ _ _ _ _ _ _ _ _ _ _ _ _ _ _ _ _ _ _ _ _ _ _ _ _ _ _ _ _ _ _ _ _ _ _ _ _ _ _ _ _ _ _ _ _ _ _ _ _ _ _ _ _ _ _ _ _ _ _ _ _ _ _ _ wr => DpInv w true n rem lv ov iv wr) (fun _ _ iv _ _ _ _ _ _ _ _ _ _ _ _ _ _ _ _ _ _ _ _ _ _ _ _ _ _ _ _ _ _ _ _ _ _ _ _ _ _ _ _ _ _ _ _ _ _ _ _ _ _ _ _ _ _ _ _ _ _ _ _ _ _ _ _ _ _ _ _ _ _ _ _ _ _ _ _ _ _ _ _ _ _ _ _ _ _ _ _ _ _ _ => n - (intOf iv).toNat)
    case atStart => exact ⟨HD.out, 0, [], rem, rfl, Nat.zero_le _, rfl, rfl, OwnC.nil _ _, HS.out.below HD.out⟩
    case round =>
      obtain ⟨hb, i, L, r, rfl, hi, hu, hL, hO, hS⟩ := hrel
      by_cases hlt : i < n
      · have hlt' : (i : Int) < (n : Int) := by omega
        have hsz := hb.size
        have HX := Lib.hid (And.intro hb (And.intro hu (And.intro hL (And.intro hO (And.intro hS hlt)))))
        clear hb hu hL hO hS hlt
        go_wp2_with fail
        have hbA : Below wr.heap.size wr (wr.alloc (.cells #[.string ⟨#[]⟩, .string ⟨#[]⟩, .bool false, .int .i64 0, .int .i64 0] 36)) := (Below.refl _ _).alloc (Nat.le_refl _) _
        refine (tx5_any w.heap.size r u7 _ (HX.out.2.2.2.2.1.below (hbA.mono hsz))).mono ?_
        rintro e w2 ⟨hyes, hno, q, hw2⟩
        have hb2 : Below wr.heap.size wr w2 := by rw [hw2]; exact below_drewN hbA q
        have hR2 : w2.heap[wr.heap.size]? = some (.cells #[.string ⟨#[]⟩, .string ⟨#[]⟩, .bool false, .int .i64 0, .int .i64 0] 36 (0, 0)) := by rw [hw2]; exact heap_alloc_new wr _
        clear hw2 hbA
        by_cases ht : TxOk r
        case neg =>
          obtain rfl := hno ht
          have HZ := Lib.hid (And.intro hb2 ht)
          clear hyes hno hR2 ht hb2
          go_wp2_with fail
          go_ret2
          exact HNO.out r i L HX.out.2.1 HX.out.2.2.2.2.2 (by show docLeaf r = none; unfold docLeaf; rw [if_neg HZ.out.2]) _ (go_on HX.out.1 HZ.out.1)
        obtain ⟨v2, rfl, a3, c3, rfl, hv2, hv3, hv4, hv5⟩ := hyes ht
        obtain ⟨m3, hm3⟩ : ∃ m3, (txR r).length = m3 := ⟨_, rfl⟩
        rw [hm3] at hv4 hv5 ⊢
        have d0 := cell_of_row w2 wr.heap.size 0 _ _ _ hR2; have fd0 := frozen_of_row w2 wr.heap.size 0 _ _ hR2
        have d1 := cell_of_row w2 wr.heap.size 1 _ _ _ hR2; have fd1 := frozen_of_row w2 wr.heap.size 1 _ _ hR2
        have d2 := cell_of_row w2 wr.heap.size 2 _ _ _ hR2; have fd2 := frozen_of_row w2 wr.heap.size 2 _ _ hR2
        have d3 := cell_of_row w2 wr.heap.size 3 _ _ _ hR2; have fd3 := frozen_of_row w2 wr.heap.size 3 _ _ hR2
        have d4 := cell_of_row w2 wr.heap.size 4 _ _ _ hR2; have fd4 := frozen_of_row w2 wr.heap.size 4 _ _ hR2
        simp only [List.getElem?_toArray, List.getElem?_cons_zero, List.getElem?_cons_succ] at d0 d1 d2 d3 d4
        have hlt2 := (Array.getElem?_eq_some_iff.1 hR2).1
        obtain ⟨key, hkey⟩ : ∃ key, txS r = key := ⟨_, rfl⟩
        rw [hkey]
        have H2 := Lib.hid (And.intro hb2 (And.intro hR2 (And.intro ht (And.intro hkey (And.intro hm3 (And.intro hv2 hv3))))))
        clear hyes hno hb2 hR2 ht hkey hm3 hv2 hv3
        by_cases h1 : m3 < 1
        case pos =>
          obtain rfl : m3 = 0 := by omega
          go_wp2_with fail
          go_ret2
          exact HNO.out r i L HX.out.2.1 HX.out.2.2.2.2.2 (by show docLeaf r = none; unfold docLeaf; rw [if_pos H2.out.2.2.1, if_pos (by rw [H2.out.2.2.2.2.1]; omega)]) _ (go_on HX.out.1 (below_set5 H2.out.1 (Nat.le_refl _)))
        have h1' : ¬ ((m3 : Int) < 1) := by omega
        obtain ⟨g3, off3, rfl, hg3, hc3⟩ := H2.out.2.2.2.2.2.1 (by intro e; have := H2.out.2.2.2.2.1; rw [e] at this; simp at this; omega)
        have hy := hc3 0 (by have := H2.out.2.2.2.2.1; omega)
        obtain ⟨y, hy0⟩ : ∃ y, ((txR r)[0]?.getD 0).toNat = y := ⟨_, rfl⟩
        rw [hy0, Nat.add_zero] at hy
        have hyb : y < 256 := by rw [← hy0]; exact UInt8.toNat_lt _
        have hne : g3 ≠ wr.heap.size := by omega
        have hne2 : wr.heap.size ≠ g3 := by omega
        have HY := Lib.hid (show numOf ((txR r).take 1) = y by have h1 := numOf_take (l := txR r) (j := 0) (by have := H2.out.2.2.2.2.1; omega); rw [show numOf ((txR r).take 1) = numOf ((txR r).take (0 + 1)) from rfl, h1, hy0]; simp [numOf])
        clear hc3 hy0
        go_wp2_with fail
        go_cut [14] (fun x wx => (∃ z : Bool, x = .bool z ∧ (z = false ↔ y = 1)) ∧ wx = ((w2.setCell ⟨wr.heap.size, 0, none⟩ (.string key)).setCell ⟨wr.heap.size, 2, none⟩ (.bool ((y : Int) == 1))).drew)
        case first =>
          first | go_region_with (fail) | fail
          all_goals (go_wp2_with fail; go_meet; case rel => exact ⟨⟨_, rfl, by simp; omega⟩, rfl⟩)
        case rest =>
        obtain ⟨⟨inl, rfl, hinl⟩, rfl⟩ := hcut
        have HIN := Lib.hid hinl
        clear hinl
        have hS3 : ShowsL w.heap.size w2 (.slice (some ⟨g3, off3, none⟩) m3 c3) (txR r) := ⟨_, c3, by rw [H2.out.2.2.2.2.1], H2.out.2.2.2.2.2.1, H2.out.2.2.2.2.2.2, by rw [H2.out.2.2.2.2.1]; exact hv4, by rw [H2.out.2.2.2.2.1]; exact hv5⟩
        obtain ⟨a3, c3', a4, c4, ev, hs1, hS4, -⟩ := hS3.drop H2.out.2.2.2.2.1 1 (by omega)
        obtain ⟨rfl, rfl⟩ : some ⟨g3, off3, none⟩ = a3 ∧ c3 = c3' := by injection ev with e1 e2 e3; exact ⟨e1, e3⟩
        obtain ⟨m4, hm4⟩ : ∃ m4, m3 - 1 = m4 := ⟨_, rfl⟩
        simp only [hm4] at hs1 hS4
        replace hs1 : ∀ w' : World, (Instr.sliceAt 23 (.slice (some ⟨g3, off3, none⟩) m3 c3) (some (.int .i64 1)) none none).run Try.prog w' = .ok (.slice a4 m4 c4) w' := hs1
        have hb4 : Below wr.heap.size w2 ((w2.setCell ⟨wr.heap.size, 0, none⟩ (.string key)).setCell ⟨wr.heap.size, 2, none⟩ (.bool ((y : Int) == 1))).drew := (((Below.refl _ _).grown (set_grown w2 ⟨wr.heap.size, 0, none⟩ (.string key)) (by omega) (fun q e => by cases e; exact Nat.le_refl _)).grown (set_grown _ ⟨wr.heap.size, 2, none⟩ (.bool ((y : Int) == 1))) (by simp; omega) (fun q e => by cases e; exact Nat.le_refl _)).drew
        have hR4 : ((w2.setCell ⟨wr.heap.size, 0, none⟩ (.string key)).setCell ⟨wr.heap.size, 2, none⟩ (.bool ((y : Int) == 1))).drew.heap[wr.heap.size]? = some (.cells #[.string key, .string ⟨#[]⟩, .bool ((y : Int) == 1), .int .i64 0, .int .i64 0] 36 (0, 0)) := by
          have h0 := heap_setCell_same w2 wr.heap.size 0 _ _ (.string key) H2.out.2.1
          have h1 := heap_setCell_same _ wr.heap.size 2 _ _ (.bool ((y : Int) == 1)) h0
          exact h1
        revert hb4 hR4
        generalize ((w2.setCell ⟨wr.heap.size, 0, none⟩ (.string key)).setCell ⟨wr.heap.size, 2, none⟩ (.bool ((y : Int) == 1))).drew = w4
        intro hb4 hR4
        clear d0 d1 d2 d3 d4 fd0 fd1 fd2 fd3 fd4 hlt2 hS3 ev
        have H4 := Lib.hid (And.intro (H2.out.1.trans hb4) (And.intro (hS4.below (hb4.mono hsz)) (And.intro hR4 hm4)))
        clear hb4 hS4 hR4 hm4 hy hv4
        go_upto_if 85 with (fail)
        clear hs1
        go_cut [7] (fun x wx => Hid (DpMid w.heap.size wr true r x wx))
        case first =>
          cases inl with
          | false =>
            obtain rfl : y = 1 := HIN.out.1 rfl
            by_cases h8 : m4 < 8
            case pos =>
              have HNX := Lib.hid (show docLeaf r = none by
                unfold docLeaf
                rw [if_pos H2.out.2.2.1, if_neg (by rw [H2.out.2.2.2.2.1]; omega), if_pos (by rw [HY.out]; rfl), readLong_no (by rw [List.length_drop, H2.out.2.2.2.2.1]; have := H4.out.2.2.2; omega)])
              have g8 : ((m4 : Int) < 8) := by omega
              by_cases h4 : m4 < 4
              · have g4 : ((m4 : Int) < 4) := by omega
                go_wp2_with fail
                go_ret2
                exact HNO.out r i L HX.out.2.1 HX.out.2.2.2.2.2 HNX.out _ (go_on HX.out.1 H4.out.1)
              · have g4 : ¬ ((m4 : Int) < 4) := by omega
                go_wp2_with fail
                go_ret2
                exact HNO.out r i L HX.out.2.1 HX.out.2.2.2.2.2 HNX.out _ (go_on HX.out.1 H4.out.1)
            have g8 : ¬ ((m4 : Int) < 8) := by omega
            have g4 : ¬ ((m4 : Int) < 4) := by omega
            have g4' : ¬ m4 < 4 := by omega
            have hlen : ((txR r).drop 1).length = m4 := by rw [List.length_drop, H2.out.2.2.2.2.1]; exact H4.out.2.2.2
            obtain ⟨_, _, a5, c5, ev, hs5, hS5, hB5⟩ := H4.out.2.1.drop hlen 4 (by omega)
            obtain ⟨rfl, rfl⟩ : a4 = _ ∧ c4 = _ := by injection ev with e1 e2 e3; exact ⟨e1, e3⟩
            replace hs5 : ∀ w' : World, (Instr.sliceAt 23 (.slice a4 m4 c4) (some (.int .i64 4)) none none).run Try.prog w' = .ok (.slice a5 (m4 - 4) c5) w' := hs5
            have HR5 := refRead_any a4 ((txR r).drop 1) c4 4 w.heap.size (by decide) w4 hB5 (by have := H4.out.2.2.2; omega)
            unfold RefReadPost at HR5
            rw [hlen, if_neg g4'] at HR5
            have HN5 : Hid (docLeaf r = readLong key ((txR r).drop 1)) := Lib.hid (by
              unfold docLeaf
              rw [if_pos H2.out.2.2.1, if_neg (by rw [H2.out.2.2.2.2.1]; omega), if_pos (by rw [HY.out]; rfl), H2.out.2.2.2.1])
            obtain ⟨N1, hN1⟩ : ∃ N1, numOf (((txR r).drop 1).take 4) = N1 := ⟨_, rfl⟩
            have hN1b : N1 < 4294967296 := by
              have := numOf_lt (((txR r).drop 1).take 4)
              rw [hN1, List.length_take, hlen, Nat.min_eq_left (by omega)] at this
              exact this
            rw [hN1] at HR5
            have H5 := Lib.hid (And.intro hlen (And.intro hS5 (And.intro hN1 HR5)))
            obtain ⟨⟨d0, d1, d2, d3, d4⟩, fd0, fd1, fd2, fd3, fd4⟩ := cells5 H4.out.2.2.1
            have hcv1 : IntKind.i64.wrap (N1 : Int) = (N1 : Int) := by rw [IntKind.wrap_i64]; omega
            clear hlen hS5 hN1 HR5 ev hB5
            go_wp2_with (go_at_call 15; refine H5.out.2.2.2.mono ?_; rintro e w' ⟨rfl, rfl⟩)
            go_cut [7] (fun x wx => x = .slice a5 (m4 - 4) c5 ∧ wx = (w4.setCell ⟨wr.heap.size, 3, none⟩ (.int .i64 N1)).drew)
            case first =>
              go_region_with (fail)
              all_goals (go_wp2_with fail; go_meet; case rel => exact ⟨rfl, rfl⟩)
            case rest =>
            obtain ⟨rfl, rfl⟩ := hcut
            have hb6 : Below wr.heap.size w4 (w4.setCell ⟨wr.heap.size, 3, none⟩ (.int .i64 N1)).drew := ((Below.refl _ _).grown (set_grown w4 ⟨wr.heap.size, 3, none⟩ _) H4.out.1.size (fun q e => by cases e; exact Nat.le_refl _)).drew
            have hR6 : (w4.setCell ⟨wr.heap.size, 3, none⟩ (.int .i64 N1)).drew.heap[wr.heap.size]? = some (.cells #[.string key, .string ⟨#[]⟩, .bool (((1 : Nat) : Int) == 1), .int .i64 N1, .int .i64 0] 36 (0, 0)) := heap_setCell_same w4 wr.heap.size 3 _ _ (.int .i64 N1) H4.out.2.2.1
            revert hb6 hR6
            generalize (w4.setCell ⟨wr.heap.size, 3, none⟩ (.int .i64 N1)).drew = w6
            intro hb6 hR6
            have hlen2 : (((txR r).drop 1).drop 4).length = m4 - 4 := by rw [List.length_drop, H5.out.1]
            obtain ⟨m6, hm6⟩ : ∃ m6, m4 - 4 = m6 := ⟨_, rfl⟩
            have hS6 := H5.out.2.1.below (hb6.mono hsz)
            rw [hm6] at hlen2 hS6 ⊢
            obtain ⟨_, _, a7, c7, ev, hs7, hS7, hB7⟩ := hS6.drop hlen2 4 (by omega)
            obtain ⟨rfl, rfl⟩ : a5 = _ ∧ c5 = _ := by injection ev with e1 e2 e3; exact ⟨e1, e3⟩
            replace hs7 : ∀ w' : World, (Instr.sliceAt 23 (.slice a5 m6 c5) (some (.int .i64 4)) none none).run Try.prog w' = .ok (.slice a7 (m6 - 4) c7) w' := hs7
            have HR7 := refRead_any a5 (((txR r).drop 1).drop 4) c5 4 w.heap.size (by decide) w6 hB7 (by have := H4.out.2.2.2; omega)
            unfold RefReadPost at HR7
            rw [hlen2, if_neg (by omega)] at HR7
            obtain ⟨N2, hN2⟩ : ∃ N2, numOf ((((txR r).drop 1).drop 4).take 4) = N2 := ⟨_, rfl⟩
            have hN2b : N2 < 4294967296 := by
              have := numOf_lt ((((txR r).drop 1).drop 4).take 4)
              rw [hN2, List.length_take, hlen2, Nat.min_eq_left (by omega)] at this
              exact this
            rw [hN2] at HR7
            have hcv2 : IntKind.i64.wrap (N2 : Int) = (N2 : Int) := by rw [IntKind.wrap_i64]; omega
            have H7 := Lib.hid (And.intro hlen2 (And.intro hS7 (And.intro hN2 (And.intro HR7 (And.intro hb6 hR6)))))
            clear d0 d1 d2 d3 d4 fd0 fd1 fd2 fd3 fd4 hs5 hcv1
            obtain ⟨⟨d0, d1, d2, d3, d4⟩, fd0, fd1, fd2, fd3, fd4⟩ := cells5 hR6
            clear hlen2 hS7 hN2 HR7 ev hB7 hS6 hb6 hR6
            go_wp2_with (go_at_call 15; refine H7.out.2.2.2.1.mono ?_; rintro e w' ⟨rfl, rfl⟩)
            have HMid : Hid (DpMid w.heap.size wr true r (.slice a7 (m6 - 4) c7) (w6.setCell ⟨wr.heap.size, 4, none⟩ (.int .i64 N2)).drew) := Lib.hid (by
              have hbx : Below wr.heap.size w6 (w6.setCell ⟨wr.heap.size, 4, none⟩ (.int .i64 N2)).drew := ((Below.refl _ _).grown (set_grown w6 ⟨wr.heap.size, 4, none⟩ _) (Nat.le_trans H4.out.1.size H7.out.2.2.2.2.1.size) (fun q e => by cases e; exact Nat.le_refl _)).drew
              refine ⟨⟨key, ByteArray.empty, true, N1, N2⟩, (((txR r).drop 1).drop 4).drop 4, ?_, ?_, ?_, ?_⟩
              · show docLeaf r = _
                rw [HN5.out]
                unfold readLong
                rw [if_pos (by rw [H5.out.1]; omega), if_pos (by rw [H7.out.1]; omega), H5.out.2.2.1, H7.out.2.2.1]
              · exact (H4.out.1.trans H7.out.2.2.2.2.1).trans hbx
              · exact heap_setCell_same w6 wr.heap.size 4 _ _ (.int .i64 N2) H7.out.2.2.2.2.2
              · exact H7.out.2.1.below (hbx.mono hsz))
            go_region_with (fail)
            all_goals (go_wp2_with fail; go_meet; exact HMid)
          | true =>
            have hy1 : ¬ y = 1 := fun e => by have := HIN.out.2 e; cases this
            have HY1 := Lib.hid hy1
            clear hy1
            obtain ⟨⟨d0, d1, d2, d3, d4⟩, fd0, fd1, fd2, fd3, fd4⟩ := cells5 H4.out.2.2.1
            go_wp2_with fail
            refine (tx5_any w.heap.size ((txR r).drop 1) _ w4 H4.out.2.1).mono ?_
            rintro e w5 ⟨hyes5, hno5, q5, hw5⟩
            have hb5 : Below w4.heap.size w4 w5 := by rw [hw5]; exact below_drewN (Below.refl _ _) q5
            have hR5 := go_row H4.out.2.2.1 hb5
            clear hw5 d0 d1 d2 d3 d4 fd0 fd1 fd2 fd3 fd4
            by_cases ht5 : TxOk ((txR r).drop 1)
            case neg =>
              obtain rfl := hno5 ht5
              have HZ := Lib.hid (And.intro hb5 ht5)
              have HNX := Lib.hid (show docLeaf r = none by
                unfold docLeaf
                rw [if_pos H2.out.2.2.1, if_neg (by rw [H2.out.2.2.2.2.1]; omega), if_neg (by rw [HY.out]; simpa using HY1.out)]
                unfold readShort
                rw [if_neg ht5])
              clear hyes5 hno5 hR5 ht5 hb5
              go_wp2_with fail
              go_ret2
              exact HNO.out r i L HX.out.2.1 HX.out.2.2.2.2.2 HNX.out _ (go_on HX.out.1 (go_on H4.out.1 HZ.out.1))
            obtain ⟨v5, rfl, hS5⟩ := hyes5 ht5
            obtain ⟨⟨d0, d1, d2, d3, d4⟩, fd0, fd1, fd2, fd3, fd4⟩ := cells5 hR5
            have HMid : Hid (DpMid w.heap.size wr true r v5 (w5.setCell ⟨wr.heap.size, 1, none⟩ (.string (txS ((txR r).drop 1))))) := Lib.hid (by
              refine ⟨⟨key, txS ((txR r).drop 1), false, 0, 0⟩, txR ((txR r).drop 1), ?_, ?_, ?_, ?_⟩
              · show docLeaf r = _
                unfold docLeaf
                rw [if_pos H2.out.2.2.1, if_neg (by rw [H2.out.2.2.2.2.1]; omega), if_neg (by rw [HY.out]; simpa using HY1.out), H2.out.2.2.2.1]
                unfold readShort
                rw [if_pos ht5]
              · exact (H4.out.1.trans (hb5.mono H4.out.1.size)).grown (set_grown w5 ⟨wr.heap.size, 1, none⟩ _) (Nat.le_trans H4.out.1.size hb5.size) (fun q e => by cases e; exact Nat.le_refl _)
              · have hyf : ((y : Int) == 1) = false := by have := HY1.out; simp; omega
                have := heap_setCell_same w5 wr.heap.size 1 _ _ (.string (txS ((txR r).drop 1))) hR5
                rw [hyf] at this
                exact this
              · exact hS5.below (((Below.refl _ _).grown (set_grown w5 ⟨wr.heap.size, 1, none⟩ _) (Nat.le_trans H4.out.1.size hb5.size) (fun q e => by cases e; exact Nat.le_refl _) : Below wr.heap.size w5 _).mono hsz))
            clear hyes5 hno5 hR5 ht5 hb5 hS5
            generalize txS ((txR r).drop 1) = tx at HMid ⊢
            go_wp2_with fail
            go_meet
            exact HMid
        case rest =>
          have HCM := hcut
          obtain ⟨c, tl, hdp, hbc, hRc, hSc⟩ := HCM.out
          obtain ⟨⟨d0, d1, d2, d3, d4⟩, fd0, fd1, fd2, fd3, fd4⟩ := cells5 hRc
          have HC := Lib.hid (And.intro hdp (And.intro hbc (And.intro hRc hSc)))
          clear hcut HCM hdp hbc hRc hSc H2 H4 HIN HY HNO hne hne2 hyb
          go_wp2_with (at_builtin; refine stop_here5 ?_)
          refine Lib.hid ?_
          obtain ⟨hb, hu, hL, hO, hS, hlt⟩ := HX.out
          obtain ⟨hdp, hbc, hRc, hSc⟩ := HC.out
          have hbz : Below wc.heap.size wc (wc.alloc (.cells #[.string c.key, .string c.text, .bool c.long, .int .i64 c.page, .int .i64 c.size] 36)) := (Below.refl _ _).alloc (Nat.le_refl _) _
          have hrz := heap_alloc_new wc (.cells #[.string c.key, .string c.text, .bool c.long, .int .i64 c.page, .int .i64 c.size] 36)
          have hO2 : OwnC (wc.alloc (.cells #[.string c.key, .string c.text, .bool c.long, .int .i64 c.page, .int .i64 c.size] 36)) w.heap.size u8 L := (hO.below hbc).below hbz
          have hbw : Below w.heap.size w (wc.alloc (.cells #[.string c.key, .string c.text, .bool c.long, .int .i64 c.page, .int .i64 c.size] 36)) := (hb.trans (hbc.mono hsz)).trans (hbz.mono (Nat.le_trans hsz hbc.size))
          refine wpList_append_cell rfl _ _ rfl w.heap.size u8 L rfl hO2 wc.heap.size 0 1 [c] rfl (fun j hj => by
            have hj0 : j = 0 := by simp at hj; omega
            subst hj0
            exact ⟨cell_of_row _ _ 0 _ _ _ hrz, cell_of_row _ _ 1 _ _ _ hrz, cell_of_row _ _ 2 _ _ _ hrz, cell_of_row _ _ 3 _ _ _ hrz, cell_of_row _ _ 4 _ _ _ hrz⟩) (by simp; omega) hbw.size ?_
          intro v' w' hO' hg'
          have HZ := Lib.hid (show DpInv w true n rem u7 v' (.int .i64 ((i + 1 : Nat) : Int)) w' from by
            refine ⟨hbw.grown hg' hbw.size (fun q e => hO2.block q e), i + 1, L ++ [c], tl, rfl, by omega, ?_, by simp [hL], hO', ?_⟩
            · rw [docUpto, hu]
              simp only [Option.bind_some]
              rw [hdp]; rfl
            · exact hSc.below ((hbz.mono (Nat.le_trans hsz hbc.size)).grown hg' hbw.size (fun q e => hO2.block q e)))
          clear hb hu hL hO hS hlt hdp hbc hRc hSc hbz hrz hO2 hbw hO' hg' d0 d1 d2 d3 d4 fd0 fd1 fd2 fd3 fd4
          go_wp2_with fail
          go_roundw
          case rel => exact HZ.out
          case measure => simp [intOf]; omega
      · obtain rfl : i = n := by omega
        have HX := Lib.hid (And.intro hb (And.intro hu (And.intro hL (And.intro hO hS))))
        clear hb hu hL hO hS HNO
        have hOx := HX.out.2.2.2.1
        obtain ⟨va, vc, hv, hvc, -, -, hcells, -⟩ := hOx.form
        subst hv
        have hsz2 := HX.out.1.size
        have hLn := HX.out.2.2.1
        have hCd : CellsAt wr.drew.heap.size wr.drew va L := by
          show CellsAt wr.heap.size wr.drew va L
          exact CellsAt.below (Below.refl wr.heap.size wr).drew hcells
        have HRt := Lib.hid (right_any 2 wr.drew va L vc (by omega) hCd (sized_of HX.out.2.1))
        have HPn : Hid (∀ M, ¬ Parsed 2 b M ∨ M = L) := Lib.hid (fun M => by
          by_cases hM : Parsed 2 b M
          · obtain ⟨r', hM, -⟩ := (doc_parsed (by have := HF.out.2.1; have := HF.out.2.2.2.2.2; omega)).1 hM
            rw [HN.out, HF.out.2.2.2.1] at hM
            have := hM.symm.trans HX.out.2.1
            injection this with this
            injection this with this
            exact .inr this
          · exact .inl hM)
        have HNo : ¬ Parsed 2 b L → ∀ W : World, Below wr.heap.size wr W → DpPost w 2 b (.returned (.tuple #[.slice none 0 0, .int .i64 151])) W := fun hq W hW =>
          ⟨go_on HX.out.1 hW, .inr (.inr ⟨.inl rfl, fun M => by rcases HPn.out M with h | h; exact h; exact h ▸ hq, rfl⟩)⟩
        have HNo := Lib.hid HNo
        have HLp : Hid (Parsed 2 b L ↔ RightC 2 L ∧ rawB (bytesOf ((2 : Int) == 2) L) = b) := Lib.hid (by
          rw [doc_parsed (by have := HF.out.2.1; have := HF.out.2.2.2.2.2; omega)]
          constructor
          · rintro ⟨r', -, h1, h2⟩; exact ⟨h1, h2⟩
          · rintro ⟨h1, h2⟩
            refine ⟨r, ?_, h1, h2⟩
            rw [HN.out, HF.out.2.2.2.1]; exact HX.out.2.1)
        have HO := Lib.hid hOx
        have hl1000 : L.length ≤ 1000 := by rw [hLn]; omega
        have HBb : Hid (∀ W : World, Below wr.heap.size wr W → (convert 23 9 (.slice (some ⟨g, off, none⟩) m c)).run Try.prog W = .ok (.string ⟨b.toArray⟩) W) := Lib.hid (fun W hW => by
          have := conv_at W (some ⟨g, off, none⟩) b c w.heap.size (HM.out.1.below (go_on HX.out.1 hW))
          rwa [HM.out.2.2] at this)
        have HCells := Lib.hid hcells
        rw [hLn] at HRt HO ⊢
        have HLn := Lib.hid hLn
        have hrd : Below wr.heap.size wr wr.drew := (Below.refl _ _).drew
        have HRD := Lib.hid hrd
        clear hOx hcells hLn hCd hrd
        by_cases hRt : RightC 2 L
        · have HAl : Hid (∀ W : World, Below wr.heap.size wr W → Calls Try.prog 17 #[.int .i64 2, .slice va i vc] W fun e w' => ∃ v, e = .returned v ∧ OwnB w' W.heap.size v (rawB (bytesOf ((2 : Int) == 2) L)) ∧ Below W.heap.size W w') := Lib.hid (fun W hW => by
            have := all5_any 2 L hRt hl1000 va vc W ((CellsAt.below hW HCells.out).mono hW.size)
            rwa [HLn.out] at this)
          have HRL := Lib.hid hRt
          have HYes : Hid (rawB (bytesOf ((2 : Int) == 2) L) = b → ∀ W : World, Below wr.heap.size wr W → DpPost w 2 b (.returned (.tuple #[.slice va i vc, .int .i64 0])) W) := Lib.hid (fun hq W hW => ⟨go_on HX.out.1 hW, .inr (.inl ⟨.inl rfl, L, _, HLp.out.2 ⟨hRt, hq⟩, rfl, HO.out.below hW⟩)⟩)
          have HNe : Hid (rawB (bytesOf ((2 : Int) == 2) L) ≠ b → ¬ Parsed 2 b L) := Lib.hid (fun hq h => hq (HLp.out.1 h).2)
          clear hRt
          generalize rawB (bytesOf ((2 : Int) == 2) L) = R at HAl HYes HNe
          obtain ⟨sR, hsR⟩ : ∃ s : ByteArray, ⟨R.toArray⟩ = s := ⟨_, rfl⟩
          obtain ⟨sb, hsb⟩ : ∃ s : ByteArray, ⟨b.toArray⟩ = s := ⟨_, rfl⟩
          have HsR := Lib.hid hsR
          rw [hsb] at HBb
          have hse : sR = sb ↔ R = b := by
            rw [← hsR, ← hsb]
            constructor
            · intro h; injection h with h; simpa using h
            · intro h; rw [h]
          have HSE := Lib.hid hse
          clear hsR hsb hse
          obtain ⟨q, hq⟩ : ∃ q, R.length = q := ⟨_, rfl⟩
          have HQ := Lib.hid hq
          clear hq
          obtain ⟨nq2, hnq⟩ : ∃ z : Bool, (!sR.toList == sb.toList) = z := ⟨_, rfl⟩
          have HNQ : Hid (nq2 = false ↔ R = b) := Lib.hid (by
            rw [← HSE.out, ← hnq]
            constructor
            · intro h; exact toList_inj (by simpa using h)
            · intro h; rw [h]; simp)
          have HNV := Lib.hid hnq
          clear hnq
          go_wp2_with fail
          go_cut [147] (fun x wx => x = .bool nq2 ∧ Hid (Below wr.heap.size wr wx))
          case first =>
            go_region_with (first
              | (go_at_call 16; refine HRt.out.mono ?_; rintro e w6 ⟨hb6, hq⟩; obtain rfl : e = .returned (.bool true) := (by rcases hq with ⟨-, h⟩ | ⟨hy, -⟩; exact h; exact absurd HRL.out hy); have HB6 := Lib.hid (HRD.out.trans hb6); have hcB := HBb.out w6 HB6.out; clear hb6 hq)
              | (go_at_call 17; refine (HAl.out w6 HB6.out).mono ?_; rintro e w7 ⟨v7, rfl, hO7, hb7⟩; obtain ⟨a7, c7, rfl, hB7, -⟩ := hO7.form; have HB7 := Lib.hid (HB6.out.trans (hb7.mono HB6.out.size)); have hcB7 := HBb.out w7 HB7.out; have hcA := conv_at w7 a7 R c7 w7.heap.size hB7; rw [HsR.out, HQ.out] at hcA; rw [HQ.out]; clear hO7 hb7 hB7))
            all_goals (go_wp2_with fail; go_meet; case rel => exact ⟨by rw [HNV.out], by assumption⟩)
          case rest =>
            obtain ⟨rfl, HBc⟩ := hcut
            cases nq2 with
            | false =>
              have HY := Lib.hid (HYes.out (HNQ.out.1 rfl) wc HBc.out)
              go_wp2_with fail
              go_ret2
              exact HY.out
            | true =>
              have HY := Lib.hid (HNo.out (HNe.out (fun e => by have := HNQ.out.2 e; cases this)) wc HBc.out)
              go_wp2_with fail
              go_ret2
              exact HY.out
        · have HRL := Lib.hid hRt
          have HY := Lib.hid (HNo.out (fun h => hRt (HLp.out.1 h).1))
          clear hRt
          go_wp2_with fail
          have hcp : ∀ W : World, Below wr.heap.size wr W → Calls Try.prog 16 #[.int .i64 2, .slice va i vc] W fun e w' => RightPost W 2 L e w' := fun W hW => by
            have := right_any 2 W va L vc hl1000 ((CellsAt.below hW HCells.out).mono hW.size) (sized_of HX.out.2.1)
            rwa [HLn.out] at this
          refine wp_region_m (fun _ W => Below wr.heap.size wr W) (NrV 2 va i vc) (by kernel_rfl) (by kernel_rfl) (by kernel_rfl) (by kernel_rfl) HRD.out ?stepN ?finN
          case stepN =>
            intro i0 o ho listed a' w' hI hn' hpre
            have hi0 : i0 < 13 := (Array.getElem?_eq_some_iff.1 ho).1
            have hB := hI.inv
            match i0, hi0 with
            | 0, _ =>
              cases ho
              exact wpOp_move rfl rfl (.inl rfl) (hI.kept (t := 0) (by kernel_rfl)) ⟨_, rfl, hB, fun _ => rfl, fun _ _ _ h => h⟩
            | 1, _ =>
              cases ho
              exact wpOp_move rfl rfl (.inl rfl) (hI.kept (t := 8) (by kernel_rfl)) ⟨_, rfl, hB, fun _ => rfl, fun _ _ _ h => h⟩
            | 2, _ =>
              cases ho
              have e0 : a'.eval (.tmp 135) = .int .i64 2 := hI.slot 0 135 rfl (hpre ⟨0, .data⟩ (by simp) rfl) rfl
              have e1 : a'.eval (.tmp 136) = .slice va i vc := hI.slot 1 136 rfl (hpre ⟨1, .data⟩ (by simp) rfl) rfl
              refine wpOp_callFn rfl rfl rfl (vs := #[.int .i64 2, .slice va i vc]) (by simp only [List.map_toArray, List.map_cons, List.map_nil, e0, e1]) (fun _ _ => by kernel_rfl) ((hcp w' hB).mono ?_)
              rintro e w6 ⟨hb6, ⟨hy, -⟩ | ⟨-, rfl⟩⟩
              · exact absurd hy HRL.out
              · exact ⟨_, rfl, _, rfl, hB.trans (hb6.mono hB.size), fun _ => rfl, fun j u _ h => NrV.any j u h⟩
            | 3, _ =>
              cases ho
              exact wpOp_notB rfl rfl rfl (hI.slot 2 137 rfl (hpre ⟨2, .data⟩ (by simp) rfl) rfl) rfl ⟨_, rfl, hB, fun _ => rfl, fun _ _ _ h => h⟩
            | 4, _ =>
              cases ho
              exact wpOp_move rfl rfl (.inl rfl) (hI.slot 3 138 rfl (hpre ⟨3, .data⟩ (by simp) rfl) rfl) ⟨_, rfl, hB, fun _ => rfl, fun _ _ _ h => h⟩
            | 12, _ =>
              cases ho
              have e4 : a'.eval (.tmp 139) = .bool true := hI.slot 4 139 rfl (hpre ⟨4, .data⟩ (by simp) rfl) rfl
              exact wpOp_pick2 rfl rfl rfl e4 (fun _ => rfl) (fun h => by cases h) rfl ⟨_, rfl, hB, fun _ => rfl, fun _ _ _ h => h⟩
            | 5, _ =>
              cases ho
              have e4 : a'.eval (.tmp 139) = .bool true := hI.slot 4 139 rfl (hpre ⟨4, .guard⟩ (by simp) rfl) rfl
              exact wpOp_off rfl (wantedOff (j := 4) (b := false) (d := 139) rfl rfl rfl (by rw [hI.len]; show _ < 149; decide) e4 (by simp)) ⟨_, rfl, hB, fun _ => trivial, fun _ _ _ h => h⟩
            | 6, _ =>
              cases ho
              have e4 : a'.eval (.tmp 139) = .bool true := hI.slot 4 139 rfl (hpre ⟨4, .guard⟩ (by simp) rfl) rfl
              exact wpOp_off rfl (wantedOff (j := 4) (b := false) (d := 139) rfl rfl rfl (by rw [hI.len]; show _ < 149; decide) e4 (by simp)) ⟨_, rfl, hB, fun _ => trivial, fun _ _ _ h => h⟩
            | 7, _ =>
              cases ho
              have e4 : a'.eval (.tmp 139) = .bool true := hI.slot 4 139 rfl (hpre ⟨4, .guard⟩ (by simp) rfl) rfl
              exact wpOp_off rfl (wantedOff (j := 4) (b := false) (d := 139) rfl rfl rfl (by rw [hI.len]; show _ < 149; decide) e4 (by simp)) ⟨_, rfl, hB, fun _ => trivial, fun _ _ _ h => h⟩
            | 8, _ =>
              cases ho
              have e4 : a'.eval (.tmp 139) = .bool true := hI.slot 4 139 rfl (hpre ⟨4, .guard⟩ (by simp) rfl) rfl
              exact wpOp_off rfl (wantedOff (j := 4) (b := false) (d := 139) rfl rfl rfl (by rw [hI.len]; show _ < 149; decide) e4 (by simp)) ⟨_, rfl, hB, fun _ => trivial, fun _ _ _ h => h⟩
            | 9, _ =>
              cases ho
              have e4 : a'.eval (.tmp 139) = .bool true := hI.slot 4 139 rfl (hpre ⟨4, .guard⟩ (by simp) rfl) rfl
              exact wpOp_off rfl (wantedOff (j := 4) (b := false) (d := 139) rfl rfl rfl (by rw [hI.len]; show _ < 149; decide) e4 (by simp)) ⟨_, rfl, hB, fun _ => trivial, fun _ _ _ h => h⟩
            | 10, _ =>
              cases ho
              have e4 : a'.eval (.tmp 139) = .bool true := hI.slot 4 139 rfl (hpre ⟨4, .guard⟩ (by simp) rfl) rfl
              exact wpOp_off rfl (wantedOff (j := 4) (b := false) (d := 139) rfl rfl rfl (by rw [hI.len]; show _ < 149; decide) e4 (by simp)) ⟨_, rfl, hB, fun _ => trivial, fun _ _ _ h => h⟩
            | 11, _ =>
              cases ho
              have e4 : a'.eval (.tmp 139) = .bool true := hI.slot 4 139 rfl (hpre ⟨4, .guard⟩ (by simp) rfl) rfl
              exact wpOp_off rfl (wantedOff (j := 4) (b := false) (d := 139) rfl rfl rfl (by rw [hI.len]; show _ < 149; decide) e4 (by simp)) ⟨_, rfl, hB, fun _ => trivial, fun _ _ _ h => h⟩
          case finN =>
            intro listed a' w' hI hall
            have hB := Lib.hid hI.inv
            have s12 : a'.tmps.getD 147 undef = .bool true := hI.slot 12 147 rfl (hall 12 (by decide)) rfl
            obtain ⟨vs', hvl', hvs, e⟩ := hI.frame 135 13 (Nat.le_of_ble_eq_true (by kernel_rfl)) (by kernel_rfl)
            have v12 := hvs 12 (by decide)
            match vs', hvl' with
            | [p0, p1, p2, p3, p4, p5, p6, p7, p8, p9, p10, p11, p12], _ =>
            simp only [List.getElem?_cons_zero, List.getElem?_cons_succ, Option.some.injEq, Nat.reduceAdd] at v12
            rw [s12] at v12
            clear hI hall hvs s12
            subst v12
            simp only [List.take_succ_cons, List.take_zero, List.drop_succ_cons, List.drop_zero, List.cons_append, List.nil_append, Nat.reduceAdd] at e
            subst e
            have HZ := Lib.hid (HY.out w' hB.out)
            clear hcp
            go_wp2_with fail
            go_ret2
            exact HZ.out
  · exact absurd rfl hsel
end Go.Proofs.Ytaceebgcaghocaa
