/- Texts of the proof in one file, in build order: MatCC, MatDD, MatEE. -/
import Derived.Test.YtgcfgheamaoceaaGreatDoorP3
import Derived.Test.YtgcfgheamaoceaaGreatDoorP4
import Derived.Test.YtgcfgheamaoceaaGreatDoorTopP
import Derived.Stop.BytesEq
import Derived.Deep.MidRow
/- Layer 14: Meets (the regions' text: wip/tools/mkmatcc.py). -/
namespace Go.Proofs.YtgcfgheamaoceaaGreatDoor
open Go.RowKit Go.MapKept Go.ChangeMaps Go.Maps

def MetV (w : World) (base : Nat) (M0 : List Sb) (v : Value) : Prop := ∃ M, M.Perm M0 ∧ OwnS w base v M
theorem ownS_keep {w w' : World} {base : Nat} {v : Value} {L : List Sb} (h : OwnS w base v L) (hk : ∀ k, base ≤ k → k < w.heap.size → w'.heap[k]? = w.heap[k]?) : OwnS w' base v L := h.kept fun g hg => hk g (ownS_lt h g hg).1 (ownS_lt h g hg).2
theorem wpOp_lenSb {ops : Array Oper} {Q : Exit → Act → World → Prop} {i : Nat} {o : Oper} {a : Act} {w : World} {K : Act → World → Prop} {x : Operand} {ao : Option Addr} {n c : Nat} (ho : ops[i]? = some o) (hg : Region.wanted o (yielded ops a.tmps) = true) (hop : o.op = .call { callee := .builtin .len, args := #[x], argTypes := #[27] }) (hx : a.eval x = .slice ao n c) (hK : K (a.put o.dst (.int .i64 n)) w) : wpOp Tryz.prog ops Q i K a w :=
  wpOp_val (v := .int .i64 n) (w' := w) ho hg (by simp only [execOp, hop, resolve, invoke, Go.builtin, List.map_toArray, List.map_cons, List.map_nil, hx, Sem.run_bind, Sem.run_pure, Result.andThen_ok]; rw [run_len_slice w 27 o.type ao n c (by rw [show Tryz.prog.elem 27 = 31 by kernel_rfl]; exact Tryz.underlying27)]; rfl) hK
theorem ownS_at {w : World} {base : Nat} {v : Value} {L : List Sb} (h : OwnS w base v L) {i : Nat} {s : Sb} (hs : L[i]? = some s) : ∃ B cap, v = .slice (some ⟨B, 0, none⟩) L.length cap ∧ L.length ≤ cap ∧ base ≤ B ∧ B < w.heap.size ∧
    w.cell? ⟨B, i * 3, none⟩ = some (.string (str s.f)) ∧ w.cell? ⟨B, i * 3 + 1, none⟩ = some (.string (str s.c)) ∧ w.cell? ⟨B, i * 3 + 2, none⟩ = some (.int .i64 (s.q : Int)) := by
  have hi := (List.getElem?_eq_some_iff.1 hs).1
  obtain ⟨hl, ⟨-, h0⟩ | ⟨g, cap, cur, rfl, hb, hh, hn, hcap, hcs, htk⟩⟩ := h
  · omega
  · have key : ∀ j u, j < 3 → (subL s)[j]? = some u → w.cell? ⟨g, i * 3 + j, none⟩ = some u := fun j u hj hu => by
      rw [cell_of_row w g (i * 3 + j) _ _ _ hh]
      have h1 : (cur.toList.take (L.length * 3))[i * 3 + j]? = some u := by
        rw [htk]
        obtain ⟨A, C, rfl, hA⟩ : ∃ A C, L = A ++ s :: C ∧ A.length = i := ⟨L.take i, L.drop (i + 1), by rw [(List.getElem?_eq_some_iff.1 hs).2.symm]; simp, by simp; omega⟩
        rw [subsL_app, List.getElem?_append_right (by rw [subsL_len]; omega), subsL_len, hA, show subsL (s :: C) = subL s ++ subsL C from rfl, show i * 3 + j - i * 3 = j by omega, List.getElem?_append_left (by simp [subL]; omega)]
        exact hu
      rw [List.getElem?_take, if_pos (by omega), Array.getElem?_toList] at h1
      exact h1
    exact ⟨g, cap, rfl, hn, hb, (Array.getElem?_eq_some_iff.1 hh).1, key 0 _ (by decide) rfl, key 1 _ (by decide) rfl, key 2 _ (by decide) rfl⟩
/-- Going over what was met: the greatest so far. -/
structure MsRel (w : World) (G base : Nat) (M : List Sb) (v : Value) (i : Nat) (wr : World) : Prop where
  low : Below w.heap.size w wr
  own : OwnS wr base v M
  map : ∃ Mp, GreatOf (M.take i) Mp ∧ SMap Tryz.prog 9 wr G (intM Mp)
  hG : G < base
  size : base ≤ wr.heap.size
  le : i ≤ M.length
/-- Going over the keys: what is told so far. -/
structure TdRel (w : World) (G b3 b2 : Nat) (K : List Txt) (v7 : Value) (Mp : Txt → Option Nat) (i : Nat) (v3 : Value) (wr : World) : Prop where
  low : Below w.heap.size w wr
  map : SMap Tryz.prog 9 wr G (intM Mp)
  keys : OwnT wr b2 v7 K
  apart : ∀ g, v7.ownBlock = some g → b2 ≤ g ∧ g < b3
  told : OwnTd wr b3 v3 ((K.take i).map fun c => (c, (Mp c).getD 0))
  size : b3 ≤ wr.heap.size
  le : i ≤ K.length
def ks_ok (ks : List Txt) (Mp : Txt → Option Nat) : Prop := ks.Nodup ∧ ∀ c, c ∈ ks ↔ (Mp c).isSome = true
theorem ownT_lt {w : World} {base : Nat} {v : Value} {L : List (List UInt8)} (h : OwnT w base v L) (g : Nat) (hg : v.ownBlock = some g) : base ≤ g ∧ g < w.heap.size := by
  rcases h.2 with ⟨rfl, _⟩ | ⟨g', cap, cur, rfl, hb, hh, _⟩
  · cases hg
  · cases hg; exact ⟨hb, (Array.getElem?_eq_some_iff.1 hh).1⟩
theorem ownT_slice {w : World} {base : Nat} {v : Value} {L : List (List UInt8)} (h : OwnT w base v L) : ∃ a cap, v = .slice a L.length cap := by
  rcases h.2 with ⟨rfl, h0⟩ | ⟨g', cap, cur, rfl, _⟩
  · exact ⟨none, 0, by rw [h0]⟩
  · exact ⟨_, cap, rfl⟩
theorem ownT_kept {w w' : World} {base : Nat} {v : Value} {L : List (List UInt8)} (h : OwnT w base v L) (hg : ∀ g, v.ownBlock = some g → w'.heap[g]? = w.heap[g]?) : OwnT w' base v L := by
  rcases h with ⟨hl, e | ⟨g, cp, cur, rfl, hb, hh, r⟩⟩
  · exact ⟨hl, .inl e⟩
  · exact ⟨hl, .inr ⟨g, cp, cur, rfl, hb, (hg g rfl).trans hh, r⟩⟩
/-- Behind a step: all stays but the row of what is told. -/
structure TdG (w wr : World) (v3 : Value) (W : World) : Prop where
  low : Below w.heap.size w W
  size : wr.heap.size ≤ W.heap.size
  keep : ∀ k, k < wr.heap.size → some k ≠ v3.ownBlock → W.heap[k]? = wr.heap[k]?
theorem TdG.map {w wr W : World} {v3 : Value} {G : Nat} {f : Txt → Option Value} (h : TdG w wr v3 W) (hGv : some G ≠ v3.ownBlock) (hGr : G < wr.heap.size) (hm : SMap Tryz.prog 9 wr G f) : SMap Tryz.prog 9 W G f := hm.at_block (h.keep G hGr hGv)
theorem TdG.grown {w wr W W' : World} {v3 : Value} {b3 : Nat} {L : List (Txt × Nat)} (h : TdG w wr v3 W) (hg : W.grownBy W' v3.ownBlock) (hwb : w.heap.size ≤ b3) (hO : OwnTd W b3 v3 L) : TdG w wr v3 W' :=
  ⟨h.low.grown hg h.low.size (fun k e => Nat.le_trans hwb (ownTd_lt hO k e).1), Nat.le_trans h.size hg.size, fun k hk hne => (hg.block k (Nat.lt_of_lt_of_le hk h.size) hne).trans (h.keep k hk hne)⟩
def TdI (w wr : World) (b3 : Nat) (v3 : Value) (L : List (Txt × Nat)) (l : Array Bool) (W : World) : Prop := TdG w wr v3 W ∧ (l.getD 8 false = false → OwnTd W b3 v3 L)
theorem TdI.still {w wr W : World} {b3 : Nat} {v3 : Value} {L : List (Txt × Nat)} {l : Array Bool} (h : TdI w wr b3 v3 L l W) {i : Nat} (hi : i ≠ 8) : TdI w wr b3 v3 L (l.setIfInBounds i true) W := by
  unfold TdI at h ⊢
  rwa [getD_set_ne hi]
theorem TdI.go {w wr W W' : World} {b3 : Nat} {v3 : Value} {L : List (Txt × Nat)} {l : Array Bool} (h : TdI w wr b3 v3 L l W) {i : Nat} (hi : i ≠ 8) (hb : Below W.heap.size W W') : TdI w wr b3 v3 L (l.setIfInBounds i true) W' := by
  unfold TdI at h ⊢
  rw [getD_set_ne hi]
  exact ⟨⟨h.1.low.trans (hb.mono h.1.low.size), Nat.le_trans h.1.size hb.size, fun k hk hne => (hb.block k (Nat.lt_of_lt_of_le hk h.1.size)).trans (h.1.keep k hk hne)⟩, fun e => (h.2 e).below hb⟩
theorem TdI.grow {w wr W : World} {b3 : Nat} {v3 : Value} {L : List (Txt × Nat)} {l : Array Bool} (h8 : 8 < l.size) (h : TdG w wr v3 W) : TdI w wr b3 v3 L (l.setIfInBounds 8 true) W := ⟨h, fun e => by simp [h8] at e⟩
def NewTd (b0 : Nat) (c : ByteArray) (q : Nat) (w : World) (v : Value) : Prop := ∃ B, v = .slice (some ⟨B, 0, none⟩) 1 1 ∧ b0 ≤ B ∧ w.heap[B]? = some (.cells #[.string c, .int .i64 (q : Int)] 65 (0, 0))
theorem look_int {w : World} {b : Nat} {M : Txt → Option Nat} (h : SMap Tryz.prog 9 w b (intM M)) (c : Txt) (hc : c.length ≤ maxLen) : (Instr.lookup 85 (.map (some b)) (.string (str c)) false).run Tryz.prog w = .ok (.int .i64 (((M c).getD 0 : Nat) : Int)) w := by
  have hlk := h.look Tryz.underlying9 Tryz.underlying85 zeroI (str c) hc false
  rw [str_toList] at hlk
  rw [hlk]
  unfold intM
  cases M c <;> rfl
theorem zeroTold : (Tryz.prog.info? 65).map (fun i => (i.zero, i.size)) = some (some (.agg #[.string ⟨#[]⟩, .int .i64 0]), 2) := by kernel_rfl
theorem build_told (w : World) (c : ByteArray) (q : Int) : (Instr.build 65 #[(0, .string c), (1, .int .i64 q)]).run Tryz.prog w = .ok (.agg #[.string c, .int .i64 q]) w := by
  have hz := (zero_of_info zeroTold).1 w
  have hu := run_underlying (P := Tryz.prog) Tryz.underlying65 w
  have s3 : (sizeOf 9).run Tryz.prog w = .ok 1 w := by kernel_rfl
  have s4 : (sizeOf 3).run Tryz.prog w = .ok 1 w := by kernel_rfl
  unfold Instr.build
  simp [hz, hu, s3, s4, go_sem, Result.andThen, Value.cells]
theorem bslice_told (w : World) (c : ByteArray) (q : Int) : (Instr.buildSlice 42 1 #[(0, .agg #[.string c, .int .i64 q])]).run Tryz.prog w = .ok (.slice (some ⟨w.heap.size, 0, none⟩) 1 1) (w.alloc (.cells #[.string c, .int .i64 q] 65)) := by
  obtain ⟨i0, hi, hz0, hz1, -⟩ := info_parts infoTold
  exact run_buildSlice w 42 65 1 _ _ i0 _ Tryz.underlying42 hi hz0 (by rw [hz1]; decide) (by rw [hz1]; decide) (by rw [hz1]; kernel_rfl)
def MeV (Bk b base : Nat) (n : ByteArray) (L : List (List UInt8)) (o : Bool) (M0 : List Sb) : Nat → Value → World → Prop
  | 0, v, _ => v = .pointer (some ⟨Bk, 0, none⟩)
  | 1, v, _ => v = .pointer (some ⟨Bk, 0, none⟩)
  | 2, v, _ => v = .pointer (some ⟨Bk, 0, none⟩)
  | 3, v, _ => v = .pointer (some ⟨b, 0, none⟩)
  | 4, v, _ => v = .string n
  | 5, v, w => OwnT w base v L
  | 6, v, _ => v = .bool o
  | 7, v, w => MetV w base M0 v
  | 8, v, _ => v = .int .i64 (M0.length : Int)
  | 9, v, _ => v = .int .i64 0
  | _, _, _ => True
def TdV (va : Option Addr) (k vc G b0 base q : Nat) (c : ByteArray) (L : List (Txt × Nat)) : Nat → Value → World → Prop
  | 0, v, _ => v = .slice va k vc
  | 1, v, _ => v = .string c
  | 2, v, _ => v = .string c
  | 3, v, _ => v = .map (some G)
  | 4, v, _ => v = .string c
  | 5, v, _ => v = .int .i64 (q : Int)
  | 6, v, _ => v = .agg #[.string c, .int .i64 (q : Int)]
  | 7, v, w => NewTd b0 c q w v
  | 8, v, w => OwnTd w base v L
  | 9, v, w => OwnTd w base v L
  | _, _, _ => True
theorem MeV.keep {Bk b base : Nat} {n : ByteArray} {L : List (List UInt8)} {o : Bool} {M0 : List Sb} {w w' : World} (hk : ∀ k, base ≤ k → k < w.heap.size → w'.heap[k]? = w.heap[k]?) : ∀ j u, MeV Bk b base n L o M0 j u w → MeV Bk b base n L o M0 j u w' := by
  intro j u h
  unfold MeV at h ⊢
  split at h
  all_goals first
    | exact h
    | exact ownT_keep h hk
    | exact (by obtain ⟨M, hp, hO⟩ := h; exact ⟨M, hp, ownS_keep hO hk⟩)
theorem TdV.keep {va : Option Addr} {k vc G b0 base q : Nat} {c : ByteArray} {L : List (Txt × Nat)} {w w1 : World} (hk : ∀ k, k < w.heap.size → w1.heap[k]? = w.heap[k]?) (_hs : w.heap.size ≤ w1.heap.size) : ∀ j u, TdV va k vc G b0 base q c L j u w → TdV va k vc G b0 base q c L j u w1 := by
  intro j u h
  unfold TdV at h ⊢
  split at h
  all_goals first
    | exact h
    | exact (by obtain ⟨B, e, h1, h2⟩ := h; exact ⟨B, e, h1, (hk B (Array.getElem?_eq_some_iff.1 h2).1).trans h2⟩)
    | exact OwnTd.kept h fun g hg => hk g (ownTd_lt h g hg).2
theorem TdV.grow {va : Option Addr} {k vc G b0 base q : Nat} {c : ByteArray} {L : List (Txt × Nat)} {w w1 : World} (hg : w.grownBy w1 (Value.slice va k vc).ownBlock) (hB : ∀ g, (Value.slice va k vc).ownBlock = some g → g < b0) : ∀ j, j ≠ 8 → j ≠ 9 → ∀ u, TdV va k vc G b0 base q c L j u w → TdV va k vc G b0 base q c L j u w1 := by
  intro j h8 h9 u h
  unfold TdV at h ⊢
  split at h
  all_goals first
    | exact h
    | exact absurd rfl h8
    | exact absurd rfl h9
    | exact (by obtain ⟨B, e, h1, h2⟩ := h; exact ⟨B, e, h1, (hg.block B (Array.getElem?_eq_some_iff.1 h2).1 (fun e => by have := hB B e.symm; omega)).trans h2⟩)
/-- What Meets tells of entries. -/
def ToldPost (w : World) (M0 : List Sb) (e : Ending) (w' : World) : Prop := ∃ (v : Value) (ks : List Txt) (Mp : Txt → Option Nat), e = .returned (.tuple #[v, .int .i64 0]) ∧ ks.Nodup ∧ (∀ c, c ∈ ks ↔ (Mp c).isSome = true) ∧ GreatOf M0 Mp ∧ OwnTd w' w.heap.size v ((ks.mergeSort fun x y => decide (x ≤ y)).map fun c => (c, (Mp c).getD 0)) ∧ Below w.heap.size w w'
set_option maxRecDepth 100000 in
set_option maxHeartbeats 8000000 in
theorem meets_walk (w : World) (Bk b : Nat) (n : ByteArray) (L : List (List UInt8)) (o : Bool) (M0 : List Sb) (hBl : Bk < w.heap.size) (c0 : w.cell? ⟨Bk, 0, none⟩ = some (.pointer (some ⟨b, 0, none⟩))) (hm5 : M0.length + 2 ≤ 5000) (hmc : ∀ s ∈ M0, s.c.length ≤ 1000)
    (HE : Hid (Calls Tryz.prog 42 #[.string ⟨#[35]⟩, .string n] w fun e w' => e = .returned (.tuple #[.bool o, .int .i64 0]) ∧ Below w.heap.size w w'))
    (HL : Hid (∀ W, Calls Tryz.prog 39 #[.string n] W fun e w' => LvPost W L e w'))
    (HG : Hid (∀ base, w.heap.size ≤ base → ∀ W, Below w.heap.size w W → ∀ v, OwnT W base v L → Calls Tryz.prog 43 #[.pointer (some ⟨b, 0, none⟩), v, .bool o] W fun e w' => MetPost W M0 e w')) :
    Calls Tryz.prog 17 #[.pointer (some ⟨Bk, 0, none⟩), .string n] w fun e w' => ToldPost w M0 e w' := by
  unfold LvPost at HL
  have HT := Lib.hid (there_yes w Bk b c0)
  go_enter Tryz.func17, Tryz.ntmps17
  go_wp2_with (first
    | (go_at_call 41; refine HT.out.mono ?_; rintro e w0 ⟨rfl, rfl⟩)
    | (go_at_call 42; refine HE.out.mono ?_; rintro e w1 ⟨rfl, hb1⟩; have HB1 := Lib.hid hb1; clear hb1; have hmk := run_makeMap_plain (P := Tryz.prog) w1 85))
  obtain ⟨w2, hw2⟩ : ∃ w2, w1.alloc (.map #[] 0) = w2 := ⟨_, rfl⟩
  obtain ⟨G, hG⟩ : ∃ G, w1.heap.size = G := ⟨_, rfl⟩
  have hb2 : Below w.heap.size w w2 := by rw [← hw2]; exact HB1.out.alloc HB1.out.size _
  have hmp : SMap Tryz.prog 9 w2 G (intM fun _ => none) := by rw [← hw2, ← hG]; exact (SMap.made w1).eq fun k => rfl
  have hGl : G < w2.heap.size := hmp.lt
  have hGw : w.heap.size ≤ G := by rw [← hG]; exact HB1.out.size
  have HB2 := Lib.hid hb2
  have hB0 := (hb2.cell (p := ⟨Bk, 0, none⟩) hBl).trans c0
  have hBl : Bk < w2.heap.size := Nat.lt_of_lt_of_le hBl hb2.size
  have HG := Lib.hid (fun W (hb : Below w2.heap.size w2 W) v hO => HG.out w2.heap.size hb2.size W (hb2.trans (hb.mono hb2.size)) v hO)
  rw [hw2, hG]
  clear hw2 hb2 HE HT c0 hmk
  refine wp_region_m (fun _ W => Below w2.heap.size w2 W) (MeV Bk b w2.heap.size n L o M0) (by kernel_rfl) (by kernel_rfl) (by kernel_rfl) (by kernel_rfl) (Below.refl _ _).drew ?step ?fin
  case step =>
    intro i o ho listed a w' hI hn' hpre
    have hJ := hI.inv
    have hi : i < 10 := (Array.getElem?_eq_some_iff.1 ho).1
    match i, hi with
    | 0, _ =>
      cases ho
      exact wpOp_move rfl rfl (.inl rfl) (hI.kept (t := 0) (by kernel_rfl)) ⟨_, rfl, hJ, fun _ => rfl, fun _ _ _ h => h⟩
    | 1, _ =>
      cases ho
      exact wpOp_nilCheck rfl rfl rfl (hI.slot 0 26 rfl (hpre ⟨0, .data⟩ (by simp) rfl) rfl) ⟨_, rfl, hJ, fun _ => rfl, fun _ _ _ h => h⟩
    | 2, _ =>
      cases ho
      exact wpOp_field rfl rfl rfl (hI.slot 1 27 rfl (hpre ⟨1, .data⟩ (by simp) rfl) rfl) (by simp [go_sem]) ⟨_, rfl, hJ, fun _ => rfl, fun _ _ _ h => h⟩
    | 3, _ =>
      cases ho
      exact wpOp_load rfl rfl rfl (hI.slot 2 28 rfl (hpre ⟨2, .data⟩ (by simp) rfl) rfl) (load_c (Tryz.isAgg54 w') ((hJ.cell (p := ⟨Bk, 0, none⟩) hBl).trans hB0)) ⟨_, rfl, hJ, fun _ => rfl, fun _ _ _ h => h⟩
    | 4, _ =>
      cases ho
      exact wpOp_move rfl rfl (.inl rfl) (hI.kept (t := 1) (by kernel_rfl)) ⟨_, rfl, hJ, fun _ => rfl, fun _ _ _ h => h⟩
    | 5, _ =>
      cases ho
      refine wpOp_callFn rfl rfl rfl (vs := #[.string n]) (by simp only [List.map_toArray, List.map_cons, List.map_nil, (show a.eval (.tmp 30) = .string n from (hI.slot 4 30 rfl (hpre ⟨4, .data⟩ (by simp) rfl) rfl))]) (fun _ _ => by kernel_rfl) ((HL.out w').mono ?_)
      rintro e' w3 ⟨v2, rfl, hO, hb2⟩
      exact ⟨_, rfl, _, rfl, hJ.trans (hb2.mono hJ.size), fun _ => ownT_mono hO hJ.size, fun j u _ h => MeV.keep (fun k hk hk2 => hb2.block k hk2) j u h⟩
    | 6, _ =>
      cases ho
      exact wpOp_move rfl rfl (.inl rfl) (hI.kept (t := 6) (by kernel_rfl)) ⟨_, rfl, hJ, fun _ => rfl, fun _ _ _ h => h⟩
    | 7, _ =>
      cases ho
      have hO : OwnT w' w2.heap.size (a.eval (.tmp 31)) L := (hI.slot 5 31 rfl (hpre ⟨5, .data⟩ (by simp) rfl) rfl)
      refine wpOp_callFn rfl rfl rfl (vs := #[.pointer (some ⟨b, 0, none⟩), a.eval (.tmp 31), .bool o]) (by simp only [List.map_toArray, List.map_cons, List.map_nil, (show a.eval (.tmp 29) = .pointer (some ⟨b, 0, none⟩) from (hI.slot 3 29 rfl (hpre ⟨3, .data⟩ (by simp) rfl) rfl)), (show a.eval (.tmp 32) = .bool o from (hI.slot 6 32 rfl (hpre ⟨6, .data⟩ (by simp) rfl) rfl))]) (fun _ _ => by kernel_rfl) ((HG.out w' hJ _ hO).mono ?_)
      rintro e' w3 ⟨v3, M, rfl, hM, hp, hb2⟩
      exact ⟨_, rfl, _, rfl, hJ.trans (hb2.mono hJ.size), fun _ => ⟨M, hp, hM.mono hJ.size⟩, fun j u _ h => MeV.keep (fun k hk hk2 => hb2.block k hk2) j u h⟩
    | 8, _ =>
      cases ho
      obtain ⟨M, hp, hO⟩ : MetV w' w2.heap.size M0 (a.eval (.tmp 33)) := (hI.slot 7 33 rfl (hpre ⟨7, .data⟩ (by simp) rfl) rfl)
      obtain ⟨va, vc, hv⟩ := ownS_slice hO
      rw [hp.length_eq] at hv
      exact wpOp_lenSb rfl rfl rfl hv ⟨_, rfl, hJ, fun _ => rfl, fun _ _ _ h => h⟩
    | 9, _ =>
      cases ho
      exact wpOp_move rfl rfl (.inl rfl) rfl ⟨_, rfl, hJ, fun _ => rfl, fun _ _ _ h => h⟩
  case fin =>
    intro listed a w' hI hall
    have hJ := hI.inv
    have hM : MetV w' w2.heap.size M0 (a.tmps.getD 33 undef) := hI.slot 7 33 rfl (hall 7 (by decide)) rfl
    have eS34 : a.tmps.getD 34 undef = .int .i64 (M0.length : Int) := hI.slot 8 34 rfl (hall 8 (by decide)) rfl
    have eS35 : a.tmps.getD 35 undef = .int .i64 0 := hI.slot 9 35 rfl (hall 9 (by decide)) rfl
    obtain ⟨vs, hvl, hvs, e⟩ := hI.frame 26 10 (Nat.le_of_ble_eq_true (by kernel_rfl)) (by kernel_rfl)
    have vS33 := hvs 7 (by decide)
    have vS34 := hvs 8 (by decide)
    have vS35 := hvs 9 (by decide)
    clear hI hall hvs
    match vs, hvl with
    | [x0, x1, x2, x3, x4, x5, x6, x7, x8, x9], _ =>
      simp only [List.getElem?_cons_zero, List.getElem?_cons_succ, Option.some.injEq] at vS33 vS34 vS35
      rw [show 26 + 7 = 33 from rfl] at vS33
      rw [show 26 + 8 = 34 from rfl, eS34] at vS34
      rw [show 26 + 9 = 35 from rfl, eS35] at vS35
      rw [← vS33] at hM
      subst vS34 vS35
      simp only [List.take_succ_cons, List.take_zero, List.drop_succ_cons, List.drop_zero, List.cons_append, List.nil_append, Nat.reduceAdd] at e
      subst e
      clear eS34 eS35 vS33
      obtain ⟨M, hp, hO⟩ := hM
      have HO := Lib.hid hO
      have R0 : MsRel w G w2.heap.size M x7 0 w' := ⟨HB2.out.trans (hJ.mono HB2.out.size), hO, ⟨_, by rw [List.take_zero]; exact GreatOf.nil, hmp.below hJ hGl⟩, by omega, hJ.size, Nat.zero_le _⟩
      clear HO hB0 hBl HL HG hJ hO
      go_wp2
      refine wp_loop_ghost (σ := Nat) (fun i a wr => ∃ u2 u3 u7 u9 u10 u11 u12 u13 u14 u15 u16 u17 u18 u19 u20 u21 u22 u23 u24 u25 u26 u27 u28 u29 u30 u31 u32 u36 u37 u38 u39 u40 u41 u42 u43 u44 u45 u46 u47 u48 u49 u50 u51 u52 u53 u54 u55 u56 u57 u58 u59 u60 u61 u62 u63 u64 : Value, a = { tmps := #[.pointer (some ⟨Bk, 0, none⟩), .string n, u2, u3, .slice none 0 0, .int .i64 0, .bool o, u7, .map (some G), u9, u10, u11, u12, u13, u14, u15, u16, u17, u18, u19, u20, u21, u22, u23, u24, u25, u26, u27, u28, u29, u30, u31, u32, x7, .int .i64 (M0.length : Int), .int .i64 (i : Int), u36, u37, u38, u39, u40, u41, u42, u43, u44, u45, u46, u47, u48, u49, u50, u51, u52, u53, u54, u55, u56, u57, u58, u59, u60, u61, u62, u63, u64], defers := [] } ∧ MsRel w G w2.heap.size M x7 i wr) (fun i => M.length + 1 - i) (s0 := 0) ⟨_, _, _, _, _, _, _, _, _, _, _, _, _, _, _, _, _, _, _, _, _, _, _, _, _, _, _, _, _, _, _, _, _, _, _, _, _, _, _, _, _, _, _, _, _, _, _, _, _, _, _, _, _, _, _, _, rfl, R0⟩ ?_
      rintro i a wr ⟨u2, u3, u7, u9, u10, u11, u12, u13, u14, u15, u16, u17, u18, u19, u20, u21, u22, u23, u24, u25, u26, u27, u28, u29, u30, u31, u32, u36, u37, u38, u39, u40, u41, u42, u43, u44, u45, u46, u47, u48, u49, u50, u51, u52, u53, u54, u55, u56, u57, u58, u59, u60, u61, u62, u63, u64, rfl, hR⟩
      clear R0
      dsimp only
      have hMl := hp.length_eq
      rcases Nat.lt_or_ge i M.length with hi | hi
      · obtain ⟨s, hs⟩ : ∃ s, M[i]? = some s := ⟨_, List.getElem?_eq_getElem hi⟩
        obtain ⟨B, cap, hx7, hcap, hB1, hB2, hcs0, hcs1, hcs2⟩ := ownS_at hR.own hs
        rw [hMl] at hx7
        have hlt : (i : Int) < (M0.length : Int) := by omega
        have hin : i < M0.length := by omega
        have HR := Lib.hid (And.intro hR (And.intro hs (And.intro hMl (And.intro hB1 hi))))
        subst hx7
        clear hR hs hMl hi
        go_wp2_with fail
        obtain ⟨hR, hs, hMl, hB1, hi⟩ := HR.out
        obtain ⟨Mp, hgr, hsm⟩ := hR.map
        have hmem : s ∈ M0 := hp.mem_iff.1 (List.mem_of_getElem? hs)
        have hba : Below wr.heap.size wr (wr.alloc (.cells #[.string (str s.f), .string (str s.c), .int .i64 (s.q : Int)] 31)) := (Below.refl _ wr).alloc (Nat.le_refl _) _
        refine (raise_any _ G Mp (hsm.alloc _) s.c (by have := hmc s hmem; unfold maxLen; omega) s.q (fun v => hgr.few (by rw [List.length_take]; omega) s.c v)).mono ?_
        rintro e w5 ⟨rfl, hsm5, hg5⟩
        have hww := hR.low.size
        have H1 := Lib.hid (show MsRel w G w2.heap.size M (.slice (some ⟨B, 0, none⟩) M0.length cap) (i + 1) w5 from
          ⟨(hR.low.trans (hba.mono hww)).grown hg5 (by have := hba.size; omega) (fun k e => by cases e; exact hGw),
           (hR.own.below hba).kept fun g hg => hg5.block g (Nat.lt_of_lt_of_le (ownS_lt hR.own g hg).2 hba.size) (fun e => by injection e with e; have := (ownS_lt hR.own g hg).1; have := hR.hG; omega),
           ⟨_, by rw [List.take_add_one, hs]; exact hgr.snoc s, hsm5⟩, hR.hG, Nat.le_trans hR.size (Nat.le_trans hba.size hg5.size), by omega⟩)
        have hi5 : i < 5000 := by omega
        have hinc : IntKind.i64.wrap ((i : Int) + 1) = (i : Int) + 1 := by rw [IntKind.wrap_i64]; omega
        have hMi : M.length + 1 - (i + 1) < M.length + 1 - i := by omega
        clear hR hs hMl hB1 hi hgr hsm hmem hba hsm5 hg5 hww
        go_wp2
        change ∃ s' : Nat, _ ∧ _
        exact ⟨i + 1, hMi, _, _, _, _, _, _, _, _, _, _, _, _, _, _, _, _, _, _, _, _, _, _, _, _, _, _, _, _, _, _, _, _, _, _, _, _, _, _, _, _, _, _, _, _, _, _, _, _, _, _, _, _, _, _, _, _, rfl, H1.out⟩
      · obtain ⟨xa, xc, hx7⟩ := ownS_slice hR.own
        rw [hMl] at hx7
        have hge : ¬ (i : Int) < (M0.length : Int) := by omega
        have HR := Lib.hid (And.intro hR hi)
        subst hx7
        clear hR hi hMl
        have hfrb : True := trivial
        go_wp2_with (go_at_call 46; refine (keysS_any _ _).mono ?_; rintro e w6 ⟨rfl, rfl⟩)
        obtain ⟨hR, hi⟩ := HR.out
        obtain ⟨Mp, hgr, hsm⟩ := hR.map
        have hgr0 : GreatOf M0 Mp := (by rw [List.take_of_length_le hi] at hgr; exact hgr.perm hp)
        have hba : Below wr.heap.size wr (wr.alloc (.cells #[.map (some G)] 85)) := (Below.refl _ wr).alloc (Nat.le_refl _) _
        have hFw : Few (intM Mp) := by
          refine ⟨M0.map (·.c), by rw [List.length_map]; omega, fun k hk => ?_⟩
          unfold intM at hk
          rw [Option.isSome_map] at hk
          obtain ⟨q, hq⟩ := Option.isSome_iff_exists.1 hk
          obtain ⟨⟨y, hy, e2, -⟩, -⟩ := (hgr0 k).2 q hq
          exact List.mem_map.2 ⟨y, hy, e2⟩
        obtain ⟨D0, hown, hrd⟩ := hsm.alloc (.cells #[.map (some G)] 85)
        have hsz5 : Maps.size D0 ≤ 5000 := hrd.size hFw Tryz.underlying9 hown
        refine (sortedS_any G 5000 wr.heap.size D0 heldR _ (by simp) (cell_alloc_new _ _ _) hown (by unfold maxLen; omega) (by omega)).mono ?_
        rintro e w7 ⟨v7, ss, rfl, hss, hO7, hb7⟩
        obtain ⟨hnd, hmem⟩ := keys_of hown hrd hFw hss
        obtain ⟨K, hK⟩ : ∃ K, ss.mergeSort (fun x y => decide (x ≤ y)) = K := ⟨_, rfl⟩
        rw [hK] at hO7
        have hlow7 : Below w.heap.size w w7 := (hR.low.trans (hba.mono hR.low.size)).trans (hb7.mono (by have := hR.low.size; have := hba.size; omega))
        have hsm7 : SMap Tryz.prog 9 w7 G (intM Mp) := (hsm.alloc (.cells #[.map (some G)] 85)).below hb7 (by have := hsm.lt; have := hba.size; omega)
        have hGw7 : G < w7.heap.size := hsm7.lt
        have hKs : ∀ c ∈ K, c ∈ ss := fun c hc => by rw [← hK] at hc; exact (List.mergeSort_perm ss _).mem_iff.1 hc
        have hKl : K.length ≤ 5000 := by
          have e1 : K.length = ss.length := by rw [← hK, List.length_mergeSort]
          have e2 := nodup_le ss (M0.map (·.c)) hnd (fun c hc => by
            have := (hmem c).1 hc
            unfold intM at this
            rw [Option.isSome_map] at this
            obtain ⟨q, hq⟩ := Option.isSome_iff_exists.1 this
            obtain ⟨⟨y, hy, e2, -⟩, -⟩ := (hgr0 c).2 q hq
            exact List.mem_map.2 ⟨y, hy, e2⟩)
          rw [List.length_map] at e2
          omega
        have hKc : ∀ c ∈ K, c.length ≤ 1000 := fun c hc => by
          have := (hmem c).1 (hKs c hc)
          unfold intM at this
          rw [Option.isSome_map] at this
          obtain ⟨q, hq⟩ := Option.isSome_iff_exists.1 this
          obtain ⟨⟨y, hy, e2, -⟩, -⟩ := (hgr0 c).2 q hq
          rw [← e2]; exact hmc y hy
        obtain ⟨b3, hb3⟩ : ∃ b, w7.heap.size = b := ⟨_, rfl⟩
        have hwb3 : w.heap.size ≤ b3 := hb3 ▸ hlow7.size
        have hGb : G < b3 := hb3 ▸ hGw7
        obtain ⟨b2, hb2'⟩ : ∃ b, (wr.alloc (.cells #[.map (some G)] 85)).heap.size = b := ⟨_, rfl⟩
        rw [hb2'] at hO7
        have hwb2 : w.heap.size ≤ b2 := by rw [← hb2']; have := hR.low.size; have := hba.size; omega
        have T0 : TdRel w G b3 b2 K v7 Mp 0 (.slice none 0 0) w7 := ⟨hlow7, hsm7, hO7, fun g hg => hb3 ▸ (ownT_lt hO7 g hg), OwnTd.nil _ _, Nat.le_of_eq hb3.symm, Nat.zero_le _⟩
        have hfin : ks_ok ss Mp := ⟨hnd, fun c => by rw [hmem]; unfold intM; rw [Option.isSome_map]⟩
        have HFIN := Lib.hid (And.intro hfin (And.intro hgr0 hK))
        obtain ⟨ka, kc, hv7⟩ := ownT_slice hO7
        subst hv7
        clear hR hi hgr hgr0 hba hFw hown hrd hsz5 hss hO7 hb7 hnd hmem hK hlow7 hsm7 hGw7 hKs hb2' hsm hfin
        go_wp2
        refine wp_loop_ghost (σ := Nat) (fun i a wr => ∃ u2 u3 u4 u5 u6 u7 u9 u10 x11 u12 u13 u14 u15 u16 u17 u18 u19 u20 u21 u22 u23 u24 u25 u26 u27 u28 u29 u30 u31 u32 u33 u34 u35 u36 u37 u38 u39 u40 u41 u42 u43 u44 u45 u46 u47 u51 u52 u53 u54 u55 u56 u57 u58 u59 u60 u61 u62 u63 u64 : Value, a = { tmps := #[.pointer (some ⟨Bk, 0, none⟩), .string n, u2, u3, u4, u5, u6, u7, .map (some G), u9, u10, x11, u12, u13, u14, u15, u16, u17, u18, u19, u20, u21, u22, u23, u24, u25, u26, u27, u28, u29, u30, u31, u32, u33, u34, u35, u36, u37, u38, u39, u40, u41, u42, u43, u44, u45, u46, u47, .slice ka K.length kc, .int .i64 (K.length : Int), .int .i64 (i : Int), u51, u52, u53, u54, u55, u56, u57, u58, u59, u60, u61, u62, u63, u64], defers := [] } ∧ TdRel w G b3 b2 K (.slice ka K.length kc) Mp i x11 wr) (fun i => K.length + 1 - i) (s0 := 0) ⟨_, _, _, _, _, _, _, _, _, _, _, _, _, _, _, _, _, _, _, _, _, _, _, _, _, _, _, _, _, _, _, _, _, _, _, _, _, _, _, _, _, _, _, _, _, _, _, _, _, _, _, _, _, _, _, _, _, _, _, rfl, T0⟩ ?_
        rintro i a wr ⟨u2, u3, u4, u5, u6, u7, u9, u10, x11, u12, u13, u14, u15, u16, u17, u18, u19, u20, u21, u22, u23, u24, u25, u26, u27, u28, u29, u30, u31, u32, u33, u34, u35, u36, u37, u38, u39, u40, u41, u42, u43, u44, u45, u46, u47, u51, u52, u53, u54, u55, u56, u57, u58, u59, u60, u61, u62, u63, u64, rfl, hR⟩
        clear T0
        dsimp only
        rcases Nat.lt_or_ge i K.length with hi | hi
        · obtain ⟨c, hc⟩ : ∃ c, K[i]? = some c := ⟨_, List.getElem?_eq_getElem hi⟩
          have hcK := List.mem_of_getElem? hc
          have hc1000 := hKc c hcK
          have hcm : c.length ≤ maxLen := by unfold maxLen; omega
          obtain ⟨B, cap, hx7, -, -, hB1, hB2, hlv⟩ := lvl_of hR.keys (by intro e; rw [e] at hcK; cases hcK)
          have hcell := hlv i c hc
          rw [Nat.zero_add] at hcell
          obtain ⟨rfl, -, rfl⟩ : ka = some ⟨B, 0, none⟩ ∧ True ∧ kc = cap := by injection hx7 with h1 h2 h3; exact ⟨h1, trivial, h3⟩
          have hlt : (i : Int) < (K.length : Int) := by omega
          obtain ⟨va, vc, hx11⟩ := ownTd_slice hR.told
          obtain ⟨k, hk⟩ : ∃ k, ((K.take i).map fun c => (c, (Mp c).getD 0)).length = k := ⟨_, rfl⟩
          rw [hk] at hx11
          subst hx11
          have hinc : IntKind.i64.wrap ((i : Int) + 1) = (i : Int) + 1 := by rw [IntKind.wrap_i64]; omega
          have HR := Lib.hid (And.intro hR (And.intro hc (And.intro hk hi)))
          clear hR hc hk hi hlv hx7
          go_wp2
          obtain ⟨hR, hc, hk, hi⟩ := HR.out
          obtain ⟨L, hL⟩ : ∃ L, ((K.take i).map fun c => (c, (Mp c).getD 0)) = L := ⟨_, rfl⟩
          have hOL := hR.told
          have hlow := hR.low
          have hmap := hR.map
          have hb3' := hR.size
          rw [hL] at hOL hk
          have hcs : (str c).size ≤ 281474976710656 := by have : (str c).size = c.length := rfl; omega
          have hLk := hk
          have hk5 : k ≤ 5000 := by rw [← hk, ← hL, List.length_map, List.length_take]; omega
          have hvr : ∀ g, (Value.slice va k vc).ownBlock = some g → g < wr.heap.size := fun g hg => (ownTd_lt hOL g hg).2
          have hGv : some G ≠ (Value.slice va k vc).ownBlock := fun e => by have := (ownTd_lt hOL G e.symm).1; omega
          have hGr : G < wr.heap.size := hmap.lt
          have hb3 := hb3'
          refine wp_region_n (TdI w wr b3 (.slice va k vc) L) (TdV va k vc G wr.heap.size b3 ((Mp c).getD 0) (str c) (L ++ [(c, (Mp c).getD 0)])) (by kernel_rfl) (by kernel_rfl) (by kernel_rfl) (by kernel_rfl) ⟨⟨hlow.drew, Nat.le_refl _, fun _ _ _ => rfl⟩, fun _ => hOL.kept fun _ _ => rfl⟩ ?step ?fin
          case step =>
            intro i o ho listed a w' hIn hn' hpre
            have hI := hIn.toL
            have hJ := hI.inv
            have hi : i < 10 := (Array.getElem?_eq_some_iff.1 ho).1
            match i, hi with
            | 0, _ =>
              cases ho
              exact wpOp_move rfl rfl (.inl rfl) (hIn.later 9 (t := 11) (by kernel_rfl) (hI.notyet hn' 9 (by kernel_rfl))) ⟨_, rfl, (hJ.still (by decide)), fun _ => rfl, fun _ _ _ h => h⟩
            | 1, _ =>
              cases ho
              exact wpOp_move rfl rfl (.inl rfl) (hI.kept (t := 13) (by kernel_rfl)) ⟨_, rfl, (hJ.still (by decide)), fun _ => rfl, fun _ _ _ h => h⟩
            | 2, _ =>
              cases ho
              refine wpOp_callFn rfl rfl rfl (vs := #[.string (str c)]) (by simp only [List.map_toArray, List.map_cons, List.map_nil, (show a.eval (.tmp 55) = .string (str c) from (hI.slot 1 55 rfl (hpre ⟨1, .data⟩ (by simp) rfl) rfl))]) (fun _ _ => by kernel_rfl) ((clone_any (str c) w' hcs).mono ?_)
              rintro e' w9 ⟨rfl, hb9⟩
              exact ⟨_, rfl, _, rfl, hJ.go (by decide) hb9, fun _ => rfl, fun j u _ h => TdV.keep (fun k hk => hb9.block k hk) hb9.size j u h⟩
            | 3, _ =>
              cases ho
              exact wpOp_move rfl rfl (.inl rfl) (hI.kept (t := 8) (by kernel_rfl)) ⟨_, rfl, (hJ.still (by decide)), fun _ => rfl, fun _ _ _ h => h⟩
            | 4, _ =>
              cases ho
              exact wpOp_move rfl rfl (.inl rfl) (hI.kept (t := 13) (by kernel_rfl)) ⟨_, rfl, (hJ.still (by decide)), fun _ => rfl, fun _ _ _ h => h⟩
            | 5, _ =>
              cases ho
              exact wpOp_look rfl rfl rfl (hI.slot 3 57 rfl (hpre ⟨3, .data⟩ (by simp) rfl) rfl) (show a.eval (.tmp 58) = .string (str c) from (hI.slot 4 58 rfl (hpre ⟨4, .data⟩ (by simp) rfl) rfl)) (look_int (hJ.1.map hGv hGr hmap) c hcm) ⟨_, rfl, (hJ.still (by decide)), fun _ => rfl, fun _ _ _ h => h⟩
            | 6, _ =>
              cases ho
              exact wpOp_build rfl rfl rfl (vs := #[(0, .string (str c)), (1, .int .i64 (((Mp c).getD 0 : Nat) : Int))]) (by simp only [List.map_toArray, List.map_cons, List.map_nil, (show a.eval (.tmp 56) = .string (str c) from (hI.slot 2 56 rfl (hpre ⟨2, .data⟩ (by simp) rfl) rfl)), (show a.eval (.tmp 59) = .int .i64 (((Mp c).getD 0 : Nat) : Int) from (hI.slot 5 59 rfl (hpre ⟨5, .data⟩ (by simp) rfl) rfl))]) (build_told w' _ _) ⟨_, rfl, (hJ.still (by decide)), fun _ => rfl, fun _ _ _ h => h⟩
            | 7, _ =>
              cases ho
              exact wpOp_buildSlice rfl rfl rfl (vs := #[(0, .agg #[.string (str c), .int .i64 (((Mp c).getD 0 : Nat) : Int)])]) (by simp only [List.map_toArray, List.map_cons, List.map_nil, (show a.eval (.tmp 60) = .agg #[.string (str c), .int .i64 (((Mp c).getD 0 : Nat) : Int)] from (hI.slot 6 60 rfl (hpre ⟨6, .data⟩ (by simp) rfl) rfl))]) (bslice_told w' _ _) ⟨_, rfl, hJ.go (by decide) ((Below.refl _ w').alloc (Nat.le_refl _) _), fun _ => ⟨w'.heap.size, rfl, hJ.1.size, (MapKept.heap_alloc w' _).1⟩, fun j u _ h => TdV.keep (fun k hk => (World.grownBy_alloc w' _ none).block k hk (by simp)) (by simp) j u h⟩
            | 8, _ =>
              cases ho
              obtain ⟨B9, e9, hB9, hr9⟩ : NewTd wr.heap.size (str c) ((Mp c).getD 0) w' (a.eval (.tmp 61)) := (hI.slot 7 61 rfl (hpre ⟨7, .data⟩ (by simp) rfl) rfl)
              have hO9 := hJ.2 hn'
              obtain ⟨v', w9, hrun, hO10, hg9, -⟩ := run_append_told w' b3 42 (.slice va k vc) L hO9 B9 (c, (Mp c).getD 0) hr9 (by rw [hLk]; omega) (Nat.le_trans hb3 hJ.1.size)
              exact wpOp_append rfl rfl rfl (hI.slot 0 54 rfl (hpre ⟨0, .data⟩ (by simp) rfl) rfl) e9 hrun ⟨_, rfl, TdI.grow (by rw [hI.size]; decide) (hJ.1.grown hg9 hwb3 hO9), fun _ => hO10, fun j u hl h => TdV.grow hg9 hvr j (by rintro rfl; rw [hn'] at hl; cases hl) (by rintro rfl; rw [hI.notyet hn' 9 (by kernel_rfl)] at hl; cases hl) u h⟩
            | 9, _ =>
              cases ho
              have hM : OwnTd w' b3 (a.eval (.tmp 62)) (L ++ [(c, (Mp c).getD 0)]) := (hI.slot 8 62 rfl (hpre ⟨8, .data⟩ (by simp) rfl) rfl)
              exact wpOp_move rfl rfl (.inr rfl) rfl ⟨_, rfl, (hJ.still (by decide)), fun _ => hM, fun _ _ _ h => h⟩
          case fin =>
            intro listed a w' hIn hall
            have hI := hIn.toL
            clear hIn
            have hJ := hI.inv
            have hM : OwnTd w' b3 (a.tmps.getD 11 undef) (L ++ [(c, (Mp c).getD 0)]) := hI.slot 9 11 rfl (hall 9 (by decide)) rfl
            obtain ⟨vs, ys, hvl, hul, hvs, hus, e⟩ := hI.frame2 11 1 54 9 (by decide) (Nat.le_of_ble_eq_true (by kernel_rfl)) (by kernel_rfl)
            have vS := hvs 0 (by decide)
            clear hI hall hvs hus
            match vs, ys, hvl, hul with
            | [z0], [y0, y1, y2, y3, y4, y5, y6, y7, y8], _, _ =>
              simp only [List.getElem?_cons_zero, Option.some.injEq] at vS
              rw [show 11 + 0 = 11 from rfl] at vS
              rw [← vS] at hM
              simp only [List.take_succ_cons, List.take_zero, List.drop_succ_cons, List.drop_zero, List.cons_append, List.nil_append, Nat.reduceAdd, Nat.reduceSub] at e
              subst e
              have T1 := Lib.hid (show TdRel w G b3 b2 K (.slice (some ⟨B, 0, none⟩) K.length kc) Mp (i + 1) z0 w' from
                ⟨hJ.1.low, hJ.1.map hGv hGr hmap, ownT_kept hR.keys fun g hg => hJ.1.keep g (by have := (hR.apart g hg).2; omega) (fun e => by have := (ownTd_lt hOL g e.symm).1; have := (hR.apart g hg).2; omega), hR.apart, by rw [List.take_add_one, hc, List.map_append, hL]; exact hM, Nat.le_trans hb3' hJ.1.size, hi⟩)
              have hKi : K.length + 1 - (i + 1) < K.length + 1 - i := by omega
              clear hR hc hk hi hOL hlow hmap hb3' hLk hvr hGv hGr hb3 hJ hM HR hL vS
              go_wp2
              change ∃ s' : Nat, _ ∧ _
              exact ⟨i + 1, hKi, _, _, _, _, _, _, _, _, _, _, _, _, _, _, _, _, _, _, _, _, _, _, _, _, _, _, _, _, _, _, _, _, _, _, _, _, _, _, _, _, _, _, _, _, _, _, _, _, _, _, _, _, _, _, _, _, _, _, _, rfl, T1.out⟩
        · obtain ⟨va, vc, hx11⟩ := ownTd_slice hR.told
          obtain ⟨k, hk⟩ : ∃ k, ((K.take i).map fun c => (c, (Mp c).getD 0)).length = k := ⟨_, rfl⟩
          rw [hk] at hx11
          subst hx11
          have hge : ¬ (i : Int) < (K.length : Int) := by omega
          have HR := Lib.hid (And.intro hR hi)
          clear hR hi hk
          go_wp2
          refine bodyPost_ret (results_tmp2 rfl _ _ _) rfl ?_
          obtain ⟨hR, hi⟩ := HR.out
          obtain ⟨hfin, hgr0, hK⟩ := HFIN.out
          have ht := hR.told
          rw [List.take_of_length_le hi, ← hK] at ht
          exact ⟨_, ss, Mp, rfl, hfin.1, hfin.2, hgr0, ht.mono hwb3, hR.low⟩
end Go.Proofs.YtgcfgheamaoceaaGreatDoor
/- Layer 14: Meets, of a book. -/
namespace Go.Proofs.YtgcfgheamaoceaaGreatDoor
open Go.RowKit Go.MapKept Go.ChangeMaps Go.Maps

section
variable {w : World} {Bk : Nat} {g : List Sb} {t : Tr}
theorem cov_hash (l : List UInt8) : covL [35] l = !dol l := by
  unfold covL
  cases dol l <;> rfl
theorem filt_hash : filtL [35] = true := filtL_c (by decide) (by decide)
/-- Meets, of what may be no name. -/
theorem bmeets_no (h : BookAt w Bk g t) (ht : Tabs w) (n : ByteArray) (hn : n.size ≤ 1000) (hN : nameL n.data.toList = false) :
    Calls Tryz.prog 17 #[.pointer (some ⟨Bk, 0, none⟩), .string n] w fun e w' => e = .returned (.tuple #[.slice none 0 0, .int .i64 230]) ∧ Below w.heap.size w w' := by
  obtain ⟨x, hx, c0⟩ := h.cell
  have HT := Lib.hid (there_yes w Bk x.b c0)
  have hE := meets_any ⟨#[35]⟩ n (by decide) hn w ht
  unfold MePost at hE
  rw [hN] at hE
  simp only [Bool.and_false, Bool.false_and, Bool.false_eq_true, if_false] at hE
  have HE := Lib.hid hE
  clear hE h ht
  go_enter Tryz.func17, Tryz.ntmps17
  go_wp2_with (first
    | (go_at_call 41; refine HT.out.mono ?_; rintro e w0 ⟨rfl, rfl⟩)
    | (go_at_call 42; refine HE.out.mono ?_; rintro e w1 ⟨rfl, hb1⟩; have HB1 := Lib.hid hb1; clear hb1))
  refine bodyPost_ret (results_tmp2 rfl _ _ _) rfl ?_
  exact ⟨rfl, HB1.out⟩
/-- Meets, of a name. -/
theorem bmeets_yes (h : BookAt w Bk g t) (ht : Tabs w) (n : ByteArray) (hn : n.size ≤ 1000) (hN : nameL n.data.toList = true) :
    Calls Tryz.prog 17 #[.pointer (some ⟨Bk, 0, none⟩), .string n] w fun e w' => ToldPost w (g.filter fun s => meetsL s.f n.data.toList) e w' := by
  obtain ⟨x, hx, c0⟩ := h.cell
  have hbl := h.lt (.inl rfl)
  have hfe : (fun s : Sb => meetsL s.f n.data.toList) = got (!dol n.data.toList) [] (lv n.data.toList) := funext fun s => got_meets.symm
  have hlen : n.data.toList.length ≤ 1000 := by simpa using hn
  refine meets_walk w Bk x.b n (lv n.data.toList) (!dol n.data.toList) _ hbl c0 ?_ (fun s hs => ?_) (Lib.hid ?_) (Lib.hid fun W => levelsF_any n hn W) (Lib.hid fun base hbase W hb v hO => ?_)
  · have := List.length_filter_le (fun s : Sb => meetsL s.f n.data.toList) g
    have := h.good.len
    omega
  · have := (cli_len (h.good.each s (List.mem_filter.1 hs).1).2.1).2
    omega
  · have hE := meets_any ⟨#[35]⟩ n (by decide) hn w ht
    unfold MePost at hE
    rw [hN, show (⟨#[35]⟩ : ByteArray).data.toList = [35] from rfl, filt_hash, cov_hash] at hE
    simpa using hE
  · obtain ⟨B, k, rfl, hk1, hk2, hBb, hBl, hlv⟩ := lvl_of hO (lv_ne _)
    rw [hfe]
    refine met_any h.enOf h.hlast hx (h.tree.below hb) (lv n.data.toList) (fun y hy => ⟨?_, ?_⟩) B 0 k hBl hlv hk1 hk2 (by have := h.good.len; omega) _
    · unfold nameL at hN
      simp only [Bool.and_eq_true, Bool.not_eq_true'] at hN
      exact hasS_lv hN.2 y hy
    · have := lv_short' hlen y hy
      unfold maxLen; omega
end
end Go.Proofs.YtgcfgheamaoceaaGreatDoor
/- Layer 14: the document's SameTold (its drawn region's text: wip/tools/mkmatee.py). -/
namespace Go.Proofs.YtgcfgheamaoceaaGreatDoor
open Go.RowKit Go.MapKept Go.ChangeMaps Go.Maps

def tdV (x : Txt × Nat) : Value := .agg #[.string (str x.1), .int .i64 (x.2 : Int)]
theorem load_td {w : World} {b o : Nat} {x : Txt × Nat} (h0 : w.cell? ⟨b, o, none⟩ = some (.string (str x.1))) (h1 : w.cell? ⟨b, o + 1, none⟩ = some (.int .i64 (x.2 : Int))) : (Instr.loadAt 65 (.pointer (some ⟨b, o, none⟩))).run Tryz.prog w = .ok (.agg #[.string (str x.1), .int .i64 (x.2 : Int)]) w :=
  run_loadAt_mid w b o _ [.string (str x.1), .int .i64 (x.2 : Int)] _ (fun j v hv => by
    match j, hv with
    | 0, hv => cases hv; exact h0
    | 1, hv => cases hv; exact h1
    | j + 2, hv => cases hv) Tryz.underlying65 rfl (by kernel_rfl)
theorem index_td (w : World) (b o n cap i : Nat) (hi : i < n) : (Instr.indexAt 42 (.slice (some ⟨b, o, none⟩) n cap) (.int .i64 i)).run Tryz.prog w = .ok (.pointer (some ⟨b, o + i * 2, none⟩)) w := by
  have he : Tryz.prog.elem 42 = 65 := by kernel_rfl
  have hs : (sizeOf 65).run Tryz.prog w = .ok 2 w := by kernel_rfl
  refine (run_indexAt_slice (P := Tryz.prog) (w := w) 42 ⟨b, o, none⟩ n cap .i64 i (by rw [he]; exact Tryz.underlying42)).trans ?_
  rw [if_pos (by omega), he, hs]
  simp only [Result.andThen_ok, addr_add, Int.toNat_natCast]
theorem eq_td (x y : Txt × Nat) (w : World) : (Op.equalIn 10000 65 (.agg #[.string (str x.1), .int .i64 (x.2 : Int)]) (.agg #[.string (str y.1), .int .i64 (y.2 : Int)])).run Tryz.prog w = .ok (x == y) w := by
  rw [show (10000 : Nat) = 9999 + 1 from rfl, run_equalIn_agg _ _ _ _ _ (by kernel_rfl) (by kernel_rfl)]
  obtain ⟨a, p⟩ := x
  obtain ⟨b, q⟩ := y
  have h1 : (str a).toList = (str b).toList ↔ a = b := by rw [ByteArray.toList_eq, ByteArray.toList_eq, str_toList, str_toList]
  have h2 : ((p : Int) = (q : Int)) ↔ p = q := by omega
  simp [go_sem, Op.eqFields, h1, h2]
  by_cases hab : a = b <;> by_cases hpq : p = q <;> simp [hab, hpq]
theorem neq_td (x y : Txt × Nat) (w : World) : (binOp .neq 65 (.agg #[.string (str x.1), .int .i64 (x.2 : Int)]) (.agg #[.string (str y.1), .int .i64 (y.2 : Int)])).run Tryz.prog w = .ok (.bool (!(x == y))) w := by
  rw [run_neq_struct, eq_td, Result.andThen_ok]
theorem guard_td (x y : Txt × Nat) (p q : Operand) (w : World) : (eqGuard .neq 65 p q (.agg #[.string (str x.1), .int .i64 (x.2 : Int)]) (.agg #[.string (str y.1), .int .i64 (y.2 : Int)])).run Tryz.prog w = .ok () w := run_eqGuard_agg w .neq _ _ _ _ _ (by kernel_rfl)
theorem ownTd_at {w : World} {base : Nat} {v : Value} {L : List (Txt × Nat)} (h : OwnTd w base v L) {i : Nat} {s : Txt × Nat} (hs : L[i]? = some s) : ∃ B cap, v = .slice (some ⟨B, 0, none⟩) L.length cap ∧ w.cell? ⟨B, 0 + i * 2, none⟩ = some (.string (str s.1)) ∧ w.cell? ⟨B, 0 + i * 2 + 1, none⟩ = some (.int .i64 (s.2 : Int)) := by
  have hi := (List.getElem?_eq_some_iff.1 hs).1
  obtain ⟨hl, ⟨-, h0⟩ | ⟨g, cap, cur, rfl, hb, hh, hn, hcap, hcs, htk⟩⟩ := h
  · omega
  · have key : ∀ j u, j < 2 → (tdL s)[j]? = some u → w.cell? ⟨g, 0 + i * 2 + j, none⟩ = some u := fun j u hj hu => by
      rw [cell_of_row w g (0 + i * 2 + j) _ _ _ hh]
      have h1 : (cur.toList.take (L.length * 2))[0 + i * 2 + j]? = some u := by
        rw [htk]
        obtain ⟨A, C, rfl, hA⟩ : ∃ A C, L = A ++ s :: C ∧ A.length = i := ⟨L.take i, L.drop (i + 1), by rw [(List.getElem?_eq_some_iff.1 hs).2.symm]; simp, by simp; omega⟩
        rw [tdsL_app, List.getElem?_append_right (by rw [tdsL_len]; omega), tdsL_len, hA, show tdsL (s :: C) = tdL s ++ tdsL C from rfl, show 0 + i * 2 + j - i * 2 = j by omega, List.getElem?_append_left (by simp [tdL]; omega)]
        exact hu
      rw [List.getElem?_take, if_pos (by omega), Array.getElem?_toList] at h1
      exact h1
    exact ⟨g, cap, rfl, key 0 _ (by decide) rfl, key 1 _ (by decide) rfl⟩
def StV (B D n c1 c2 i : Nat) (x y : Txt × Nat) : Nat → Value → World → Prop
  | 0, v, _ => v = .slice (some ⟨B, 0, none⟩) n c1
  | 1, v, _ => v = .int .i64 (i : Int)
  | 2, v, _ => v = .pointer (some ⟨B, 0 + i * 2, none⟩)
  | 3, v, _ => v = .agg #[.string (str x.1), .int .i64 (x.2 : Int)]
  | 4, v, _ => v = .slice (some ⟨D, 0, none⟩) n c2
  | 5, v, _ => v = .int .i64 (i : Int)
  | 6, v, _ => v = .pointer (some ⟨D, 0 + i * 2, none⟩)
  | 7, v, _ => v = .agg #[.string (str y.1), .int .i64 (y.2 : Int)]
  | 8, v, _ => v = .bool (!(x == y))
  | _, _, _ => True
set_option maxRecDepth 100000 in
set_option maxHeartbeats 4000000 in
/-- The same in memory, row by row. -/
theorem same_told (w : World) (b1 b2 : Nat) (x1 x2 : Value) (L1 L2 : List (Txt × Nat)) (h1 : OwnTd w b1 x1 L1) (h2 : OwnTd w b2 x2 L2) (hle : L1.length ≤ 5000) :
    Calls Tryz.prog 18 #[x1, x2] w fun e w' => e = .returned (.bool (L1 == L2)) ∧ Below w.heap.size w w' := by
  obtain ⟨v1, c1, rfl⟩ := ownTd_slice h1
  obtain ⟨v2, c2, rfl⟩ := ownTd_slice h2
  by_cases hl : L1.length = L2.length
  case neg =>
    have hE : (L1 == L2) = false := by
      rw [Bool.eq_false_iff]
      intro e
      exact hl (by rw [eq_of_beq e])
    rw [hE]
    have hne : ((L1.length : Int) != (L2.length : Int)) = true := by simp; omega
    have hne2 : ¬ (L1.length : Int) = (L2.length : Int) := by omega
    have hne3 := hl
    clear h1 h2 hE hl
    go_enter Tryz.func18, Tryz.ntmps18
    go_wp2
    go_ret
    exact ⟨rfl, Below.refl _ _⟩
  case pos =>
    rw [← hl]
    obtain ⟨n, hn⟩ : ∃ n, L1.length = n := ⟨_, rfl⟩
    have hl2 : L2.length = n := by rw [← hl, hn]
    rw [hn]
    have HL := Lib.hid (And.intro h1 (And.intro h2 (And.intro hl2 hn)))
    rw [hn] at hle
    clear h1 h2 hl hn hl2
    go_enter Tryz.func18, Tryz.ntmps18
    go_wp2
    refine wp_loop_ghost (σ := Nat) (fun m a wr => ∃ u2 u3 u6 u7 u8 u9 u10 u11 u12 u13 u14 u15 u16 u17 u18 u19 u20 u21 u22 u23 u24 u25 : Value, a = { tmps := #[.slice v1 n c1, .slice v2 n c2, u2, u3, .bool false, .int .i64 (m : Int), u6, u7, u8, u9, u10, u11, u12, u13, u14, u15, u16, u17, u18, u19, u20, u21, u22, u23, u24, u25], defers := [] } ∧ m ≤ n ∧ L1.take m = L2.take m ∧ Below w.heap.size w wr) (fun m => n + 1 - m) (s0 := 0) ⟨_, _, _, _, _, _, _, _, _, _, _, _, _, _, _, _, _, _, _, _, _, _, rfl, Nat.zero_le _, rfl, Below.refl _ _⟩ ?_
    rintro m a wr ⟨u2, u3, u6, u7, u8, u9, u10, u11, u12, u13, u14, u15, u16, u17, u18, u19, u20, u21, u22, u23, u24, u25, rfl, hi, htk, hb⟩
    obtain ⟨h1, h2, hl, hn⟩ := HL.out
    rcases Nat.lt_or_ge m n with hin | hin
    · obtain ⟨x, hx⟩ : ∃ x, L1[m]? = some x := ⟨_, List.getElem?_eq_getElem (by omega)⟩
      obtain ⟨y, hy⟩ : ∃ y, L2[m]? = some y := ⟨_, List.getElem?_eq_getElem (by omega)⟩
      obtain ⟨B, d1, e1, hx0, hx1⟩ := ownTd_at (h1.below hb) hx
      obtain ⟨D, d2, e2, hy0, hy1⟩ := ownTd_at (h2.below hb) hy
      obtain ⟨rfl, rfl⟩ : v1 = some ⟨B, 0, none⟩ ∧ c1 = d1 := by injection e1 with q1 q2 q3; exact ⟨q1, q3⟩
      obtain ⟨rfl, rfl⟩ : v2 = some ⟨D, 0, none⟩ ∧ c2 = d2 := by injection e2 with q1 q2 q3; exact ⟨q1, q3⟩
      have hlt : (m : Int) < (n : Int) := by omega
      have hinc : IntKind.i64.wrap ((m : Int) + 1) = (m : Int) + 1 := by rw [IntKind.wrap_i64]; omega
      have HH := Lib.hid (And.intro htk (And.intro hb (And.intro hx (And.intro hy (And.intro hl (And.intro hn hi))))))
      clear htk hb hx hy hl hn hi h1 h2 e1 e2 HL
      go_wp2
      refine wp_region_m (fun _ W => W = wr.drew) (StV B D n c1 c2 m x y) (by kernel_rfl) (by kernel_rfl) (by kernel_rfl) (by kernel_rfl) rfl ?step ?fin
      case step =>
        intro i o ho listed a w' hI hn' hpre
        have hJ := hI.inv
        have hi : i < 9 := (Array.getElem?_eq_some_iff.1 ho).1
        match i, hi with
        | 0, _ =>
          cases ho
          exact wpOp_move rfl rfl (.inl rfl) (hI.kept (t := 0) (by kernel_rfl)) ⟨_, rfl, hJ, fun _ => rfl, fun _ _ _ h => h⟩
        | 1, _ =>
          cases ho
          exact wpOp_move rfl rfl (.inl rfl) (hI.kept (t := 5) (by kernel_rfl)) ⟨_, rfl, hJ, fun _ => rfl, fun _ _ _ h => h⟩
        | 2, _ =>
          cases ho
          exact wpOp_index rfl rfl rfl (hI.slot 0 17 rfl (hpre ⟨0, .data⟩ (by simp) rfl) rfl) (hI.slot 1 18 rfl (hpre ⟨1, .data⟩ (by simp) rfl) rfl) (index_td w' B 0 n c1 m hin) ⟨_, rfl, hJ, fun _ => rfl, fun _ _ _ h => h⟩
        | 3, _ =>
          cases ho
          exact wpOp_load rfl rfl rfl (hI.slot 2 19 rfl (hpre ⟨2, .data⟩ (by simp) rfl) rfl) (load_td (show w'.cell? _ = _ from by rw [hJ]; exact hx0) (show w'.cell? _ = _ from by rw [hJ]; exact hx1)) ⟨_, rfl, hJ, fun _ => rfl, fun _ _ _ h => h⟩
        | 4, _ =>
          cases ho
          exact wpOp_move rfl rfl (.inl rfl) (hI.kept (t := 1) (by kernel_rfl)) ⟨_, rfl, hJ, fun _ => rfl, fun _ _ _ h => h⟩
        | 5, _ =>
          cases ho
          exact wpOp_move rfl rfl (.inl rfl) (hI.kept (t := 5) (by kernel_rfl)) ⟨_, rfl, hJ, fun _ => rfl, fun _ _ _ h => h⟩
        | 6, _ =>
          cases ho
          exact wpOp_index rfl rfl rfl (hI.slot 4 21 rfl (hpre ⟨4, .data⟩ (by simp) rfl) rfl) (hI.slot 5 22 rfl (hpre ⟨5, .data⟩ (by simp) rfl) rfl) (index_td w' D 0 n c2 m hin) ⟨_, rfl, hJ, fun _ => rfl, fun _ _ _ h => h⟩
        | 7, _ =>
          cases ho
          exact wpOp_load rfl rfl rfl (hI.slot 6 23 rfl (hpre ⟨6, .data⟩ (by simp) rfl) rfl) (load_td (show w'.cell? _ = _ from by rw [hJ]; exact hy0) (show w'.cell? _ = _ from by rw [hJ]; exact hy1)) ⟨_, rfl, hJ, fun _ => rfl, fun _ _ _ h => h⟩
        | 8, _ =>
          cases ho
          exact wpOp_bin rfl rfl rfl (hI.slot 3 20 rfl (hpre ⟨3, .data⟩ (by simp) rfl) rfl) (hI.slot 7 24 rfl (hpre ⟨7, .data⟩ (by simp) rfl) rfl) (guard_td _ _ _ _ _) (neq_td _ _ _) ⟨_, rfl, hJ, fun _ => rfl, fun _ _ _ h => h⟩
      case fin =>
        intro listed a w' hI hall
        have hJ := hI.inv
        have eS25 : a.tmps.getD 25 undef = .bool (!(x == y)) := hI.slot 8 25 rfl (hall 8 (by decide)) rfl
        obtain ⟨vs, hvl, hvs, e⟩ := hI.frame 17 9 (Nat.le_of_ble_eq_true (by kernel_rfl)) (by kernel_rfl)
        have vS25 := hvs 8 (by decide)
        clear hI hall hvs
        match vs, hvl with
        | [x0, x1, x2, x3, x4, x5, x6, x7, x8], _ =>
        simp only [List.getElem?_cons_zero, List.getElem?_cons_succ, Option.some.injEq] at vS25
        rw [show 17 + 8 = 25 from rfl, eS25] at vS25
        subst vS25
        simp only [List.take_succ_cons, List.take_zero, List.drop_succ_cons, List.drop_zero, List.cons_append, List.nil_append, Nat.reduceAdd] at e
        subst e
        clear eS25
        subst hJ
        obtain ⟨htk, hb, hx, hy, hl, hn, hi⟩ := HH.out
        by_cases hxy : x = y
        · have hbe : (x == y) = true := by simp [hxy]
          rw [hbe]
          have hnx : L1.take (m + 1) = L2.take (m + 1) := by rw [List.take_add_one, List.take_add_one, htk, hx, hy, hxy]
          have hb' : Below w.heap.size w wr.drew := hb.drew
          have HZ := Lib.hid (And.intro hnx hb')
          have hm : n + 1 - (m + 1) < n + 1 - m := by omega
          clear htk hb hx hy hl hn hi hxy hbe hnx hb' HH hx0 hx1 hy0 hy1
          go_wp2
          change ∃ s' : Nat, _ ∧ _
          exact ⟨m + 1, hm, _, _, _, _, _, _, _, _, _, _, _, _, _, _, _, _, _, _, _, _, _, _, rfl, hin, HZ.out.1, HZ.out.2⟩
        · have hbe : (x == y) = false := by simp [hxy]
          have hE : (L1 == L2) = false := by
            rw [Bool.eq_false_iff]
            intro e
            rw [eq_of_beq e] at hx
            rw [hx] at hy
            injection hy with hy
            exact hxy hy
          rw [hbe]
          have HZ := Lib.hid (And.intro hE hb.drew)
          clear htk hb hx hy hl hn hi hxy hbe hE HH hx0 hx1 hy0 hy1
          go_wp2
          go_ret
          exact ⟨(congrArg (fun b => Ending.returned (Value.bool b)) HZ.out.1).symm, HZ.out.2⟩
    · have hge : ¬ (m : Int) < (n : Int) := by omega
      have hE : (L1 == L2) = true := by
        rw [beq_iff_eq]
        rwa [List.take_of_length_le (by omega), List.take_of_length_le (by omega)] at htk
      have HZ := Lib.hid (And.intro hE hb)
      clear htk hb hl hn hi h1 h2 HL hE hin
      go_wp2
      go_ret
      exact ⟨(congrArg (fun b => Ending.returned (Value.bool b)) HZ.out.1).symm, HZ.out.2⟩
end Go.Proofs.YtgcfgheamaoceaaGreatDoor
