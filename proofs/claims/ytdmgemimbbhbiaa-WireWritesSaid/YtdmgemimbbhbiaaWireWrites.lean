/- Layer 3: the law on writing. -/
import Derived.StillTailTactics
import Derived.Deep.CutBlock
import Derived.Deep.DeepCutAuto
import Derived.Test.YtdmgemimbbhbiaaRegOps
import Derived.Test.YtdmgemimbbhbiaaReg3
import Derived.Test.YtdmgemimbbhbiaaWireRef
import Derived.Test.YtdmgemimbbhbiaaWireBack
namespace Go.Proofs.Ytdmgemimbbhbiaa
open Go.RowKit

/-- May a part be written, were there room? -/
def ptFineB (p : PtV) : Bool := if p.kind = 1 then decide (1 ≤ p.bytes ∧ p.bytes ≤ 8 ∧ p.n < 2 ^ (8 * p.bytes.toNat)) else if p.kind = 2 then decide (p.text.size ≤ 65535) else true
theorem wPt_bad {l : List UInt8} {p : PtV} (h : ptFineB p = false) : wPt l p = (if p.kind = 1 then 2 else 3, l) ∧ (p.kind = 1 ∨ p.kind = 2) := by
  unfold ptFineB at h
  unfold wPt
  by_cases h1 : p.kind = 1
  · rw [if_pos h1] at h ⊢
    rw [if_pos h1]
    have h2 := of_decide_eq_false h
    unfold wNum
    rw [if_pos (by omega)]
    exact ⟨rfl, .inl h1⟩
  · rw [if_neg h1] at h ⊢
    rw [if_neg h1]
    by_cases h2 : p.kind = 2
    · rw [if_pos h2] at h ⊢
      have h3 := of_decide_eq_false h
      unfold wTextS
      rw [if_pos (by omega)]
      exact ⟨rfl, .inr h2⟩
    · rw [if_neg h2] at h; cases h
theorem ptB_len {p : PtV} : (ptB p).length = if p.kind = 1 then p.bytes.toNat else if p.kind = 2 then 2 + p.text.size else 1 := by
  unfold ptB
  split
  · exact laidB_len _ _ _
  · split
    · exact textB_len _
    · rfl
theorem wPt_good {l : List UInt8} {p : PtV} (h : ptFineB p = true) : wPt l p = if 65536 < l.length + (ptB p).length then (3, l) else (0, l ++ ptB p) := by
  rw [ptB_len]
  unfold ptFineB at h
  unfold wPt ptB
  by_cases h1 : p.kind = 1
  · simp only [if_pos h1] at h ⊢
    have h2 := of_decide_eq_true h
    unfold wNum
    rw [if_neg (by omega)]
  · simp only [if_neg h1] at h ⊢
    by_cases h2 : p.kind = 2
    · simp only [if_pos h2] at h ⊢
      unfold wTextS textB
      rw [show l.length + 2 + p.text.size = l.length + (2 + p.text.size) by omega]
    · simp only [if_neg h2]
      unfold wTruth
      by_cases h4 : 0 < p.n <;> simp [h4]

/-- Bytes that the call made lie apart from a writer's: they stay when it writes. -/
theorem OwnB.kept3 {w w' : World} {n₀ base B : Nat} {u v v' : Value} {l l' : List UInt8} (h : OwnB w base u l) (hW : IsWr n₀ w B v l') (hne : ∀ g, v.ownBlock = some g → u.ownBlock ≠ some g) (hg : Goes2 w w' B v v') : OwnB w' base u l := by
  refine ⟨h.1, ?_⟩
  rcases h.2 with e | ⟨g, cp, cur, e, hb, hh, r⟩
  · exact .inl e
  · subst e
    refine .inr ⟨g, cp, cur, rfl, hb, (hg.block g (Array.getElem?_eq_some_iff.1 hh).1 (fun e => ?_) (fun e => ?_)).trans hh, r⟩
    · rw [e, hW.cells] at hh; cases hh
    · exact hne g e.symm rfl
/-- What holds at the head of the loop. -/
structure Wri1 (w : World) (B : Nat) (v u : Value) (l : List UInt8) (wr : World) : Prop where
  wri : IsWr w.heap.size wr B v l
  row : OwnB wr w.heap.size u l
  ne : ∀ g, v.ownBlock = some g → u.ownBlock ≠ some g
  bel : Below w.heap.size w wr
theorem idxPart (w : World) (b off n c k : Nat) (hk : k < n) : (Instr.indexAt 69 (.slice (some ⟨b, off, none⟩) n c) (.int .i64 k)).run Try.prog w = .ok (.pointer (some ⟨b, off + k * 4, none⟩)) w := by
  have h1 : (k : Int) < (n : Int) := by omega
  simp [go_sem, h1, addr_add]
theorem fieldPart (b o : Nat) (w : World) : (Instr.fieldAt 75 (.pointer (some ⟨b, o, none⟩)) 1).run Try.prog w = .ok (.pointer (some ⟨b, o + 1, none⟩)) w := by simp [go_sem, addr_add]
theorem fieldPart2 (b o : Nat) (w : World) : (Instr.fieldAt 75 (.pointer (some ⟨b, o, none⟩)) 2).run Try.prog w = .ok (.pointer (some ⟨b, o + 2, none⟩)) w := by simp [go_sem, addr_add]
section
variable {ops : Array Oper} {Q : Exit → Act → World → Prop} {i : Nat} {o : Oper} {a : Act} {w w' : World} {K : Act → World → Prop}
theorem wpOp_extract0 {x : Operand} {u v : Value} (ho : ops[i]? = some o) (hg : Region.wanted o (yielded ops a.tmps) = true) (hop : o.op = .extract x 0) (hx : a.eval x = .tuple #[u, v]) (hK : K (a.put o.dst u) w) : wpOp Try.prog ops Q i K a w :=
  wpOp_val (v := u) (w' := w) ho hg (by simp only [execOp, hop, hx]; simp [go_sem]) hK
theorem wpOp_extract1 {x : Operand} {u v : Value} (ho : ops[i]? = some o) (hg : Region.wanted o (yielded ops a.tmps) = true) (hop : o.op = .extract x 1) (hx : a.eval x = .tuple #[u, v]) (hK : K (a.put o.dst v) w) : wpOp Try.prog ops Q i K a w :=
  wpOp_val (v := v) (w' := w) ho hg (by simp only [execOp, hop, hx]; simp [go_sem]) hK
end
/-- What the operations that ask the document's Number yield. -/
def R14Sp (b off nL cap k N : Nat) (Z : Int) (fb : Bool) (n₁ : Nat) (lB : List UInt8) : Nat → Value → World → Prop
  | 1, u, _ => u = .int .i64 k
  | 6, u, _ => u = .int .i64 k
  | 2, u, _ => u = .pointer (some ⟨b, off + k * 4, none⟩)
  | 7, u, _ => u = .pointer (some ⟨b, off + k * 4, none⟩)
  | 3, u, _ => u = .pointer (some ⟨b, off + k * 4 + 1, none⟩)
  | 8, u, _ => u = .pointer (some ⟨b, off + k * 4 + 2, none⟩)
  | 4, u, _ => u = .int .u64 N
  | 9, u, _ => u = .int .i64 Z
  | 10, u, w => ∃ x, u = .tuple #[x, .bool fb] ∧ (fb = true → OwnB w n₁ x lB)
  | 11, u, w => ∃ x, u = .tuple #[x, .bool fb] ∧ (fb = true → OwnB w n₁ x lB)
  | 12, u, w => fb = true → OwnB w n₁ u lB
  | 14, u, w => fb = true → OwnB w n₁ u lB
  | 13, u, _ => u = .bool fb
  | 15, u, _ => u = .bool fb
  | _, u, _ => u = .slice (some ⟨b, off, none⟩) nL cap
theorem R14Sp.below {b off nL cap k N n₁ : Nat} {Z : Int} {fb : Bool} {lB : List UInt8} {w w' : World} (hb : Below w.heap.size w w') : ∀ j x, R14Sp b off nL cap k N Z fb n₁ lB j x w → R14Sp b off nL cap k N Z fb n₁ lB j x w' := by
  intro j x h
  unfold R14Sp at h ⊢
  split at h
  all_goals first
    | exact h
    | exact fun e => OwnB.below (h e) hb
    | (obtain ⟨y, e, h⟩ := h; exact ⟨y, e, fun e2 => OwnB.below (h e2) hb⟩)

theorem refText_long {s : ByteArray} (h : 65535 < s.size) (w : World) : Calls Try.prog 39 #[.string s] w fun e w' => e = .returned (.tuple #[.slice none 0 0, .bool false]) ∧ w = w' :=
  (refText_any s w).mono fun e w' hp => by
    rcases hp with ⟨_, h1, h2⟩ | ⟨h1, _⟩
    · exact ⟨h1, h2⟩
    · omega
theorem refText_ok {s : ByteArray} (h : s.size ≤ 65535) (w : World) : Calls Try.prog 39 #[.string s] w fun e w' => ∃ a c, e = .returned (.tuple #[.slice a (textB s).length c, .bool true]) ∧ OwnB w' w.heap.size (.slice a (textB s).length c) (textB s) ∧ Below w.heap.size w w' :=
  (refText_any s w).mono fun e w' hp => by
    rcases hp with ⟨h1, _⟩ | ⟨_, h2⟩
    · omega
    · exact h2
/-- What the operations of the last statement yield. -/
def WrSp (n₁ B : Nat) (u : Value) (l : List UInt8) : Nat → Value → World → Prop
  | 1, x, w => OwnB w n₁ x l
  | 2, x, _ => x = .string ⟨l.toArray⟩
  | 3, x, _ => x = u
  | 4, x, _ => x = .string ⟨l.toArray⟩
  | 8, x, _ => x = .int .i64 l.length
  | 9, x, _ => x = u
  | 10, x, _ => x = .int .i64 l.length
  | 0, x, _ => x = wptr B
  | 7, x, _ => x = wptr B
  | _, x, _ => x = .bool true
theorem WrSp.below {n₁ B : Nat} {u : Value} {l : List UInt8} {w w' : World} (hb : Below w.heap.size w w') : ∀ j x, WrSp n₁ B u l j x w → WrSp n₁ B u l j x w' := by
  intro j x h
  unfold WrSp at h ⊢
  split at h
  all_goals first
    | exact OwnB.below h hb
    | exact h

set_option maxRecDepth 100000 in
set_option maxHeartbeats 8000000 in
theorem wireWrites_any (a : Option Addr) (L : List PtV) (cap : Nat) (hLl : L.length ≤ 9223372036854775807) (w : World) (hm : PtsAt w.heap.size w a L) :
    Calls Try.prog 9 #[.slice a L.length cap] w fun e w' => e = .returned (.bool true) ∧ Below w.heap.size w w' := by
  have HK := Lib.hid wknown_any
  have HF := Lib.hid (few30_any a L cap hLl w hm)
  have HM := Lib.hid hm
  clear hm
  go_enter Try.func9, Try.ntmps9
  go_wp2_with (first
    | (go_at_call 34; refine HF.out.mono ?_; rintro e w' ⟨b, rfl, rfl, -⟩; cases b)
    | (go_at_call 35; refine (HK.out _).mono ?_; rintro e w2 ⟨rfl, hb⟩)
    | (go_at_call 36; refine (newWriter_any _).mono ?_; rintro e w1 ⟨rfl, hW1, hb1⟩))
  · go_ret
    exact ⟨rfl, hb⟩
  · clear HF
    go_loopw [4, 5] (fun u y wr => ∃ (k : Nat) (v : Value) (l : List UInt8), y = .int .i64 k ∧ k ≤ L.length ∧ Wri1 w w.heap.size v u l wr)
      (fun _ y _ => L.length - (intOf y).toNat)
    case atStart => exact ⟨0, _, [], rfl, Nat.zero_le _, ⟨hW1, OwnB.nil _ _, (fun g hg => by cases hg), hb1⟩⟩
    case round =>
      clear hW1 hb1
      obtain ⟨k, v, l, rfl, hk, hC⟩ := hrel
      have hl64 := hC.wri.len
      obtain ⟨au, cu, hu, -, -, -, -, -⟩ := hC.row.form
      subst hu
      by_cases hlt : k < L.length
      · obtain ⟨b, off, rfl, hbw, hcs⟩ := HM.out (by rintro rfl; simp at hlt)
        obtain ⟨hp, hok⟩ := hcs k hlt
        obtain ⟨p, hpe⟩ : ∃ p, L.getD k default = p := ⟨_, rfl⟩
        rw [hpe] at hp hok
        have hp2 := hp.below hC.bel hbw
        have hkL : (k : Int) < (L.length : Int) := by omega
        have HP := Lib.hid hp2
        obtain ⟨c0, c1, c2, c3⟩ := hp2
        obtain ⟨K, hK⟩ : ∃ K, p.kind = K := ⟨_, rfl⟩
        obtain ⟨Z, hZ⟩ : ∃ Z, p.bytes = Z := ⟨_, rfl⟩
        obtain ⟨N, hN⟩ : ∃ N, p.n = N := ⟨_, rfl⟩
        obtain ⟨s, hs⟩ : ∃ s, p.text = s := ⟨_, rfl⟩
        rw [hK] at c0
        rw [hN] at c1
        rw [hZ] at c2
        rw [hs] at c3
        have HLO := Lib.hid hok
        have hN64 : N < 18446744073709551616 := by rw [← hN]; exact hok.n
        clear hcs hpe hok hp
        obtain ⟨fb, hfb⟩ : ∃ fb, ptFineB p = fb := ⟨_, rfl⟩
        obtain ⟨r, hr⟩ : ∃ r, wPt l p = r := ⟨_, rfl⟩
        go_upto_block 2 with fail
        go_cut [6, 7, 8] (fun x y z wx => z = .int .i64 r.1 ∧ y = .bool fb ∧ (fb = true → OwnB wx wr.heap.size x (ptB p)) ∧ ∃ v', IsWr w.heap.size wx w.heap.size v' r.2 ∧ Goes2 wr wx w.heap.size v v')
        case first =>
          by_cases hK1 : K = 1
          · subst hK1
            have e0 : wNum l N Z = r := by rw [← hr, ← hN, ← hZ]; unfold wPt; rw [if_pos hK]
            have E0 := Lib.hid e0
            have ef : decide (1 ≤ Z ∧ Z ≤ 8 ∧ N < 2 ^ (8 * Z.toNat)) = fb := by rw [← hfb, ← hN, ← hZ]; unfold ptFineB; rw [if_pos hK]
            have eB : ptB p = laidB N Z.toNat Z.toNat := by unfold ptB; rw [if_pos hK, hN, hZ]
            have EB := Lib.hid eB
            have EF := Lib.hid ef
            have HR := Lib.hid hr
            have HFB := Lib.hid hfb
            have c1d : wr.drew.cell? ⟨b, off + k * 4 + 1, none⟩ = some (.int .u64 N) := c1
            have c2d : wr.drew.cell? ⟨b, off + k * 4 + 2, none⟩ = some (.int .i64 Z) := c2
            clear e0 ef eB hr hfb
            cases fb with
            | false =>
              have hbad := wPt_bad (l := l) HFB.out
              have hr2 : r = (2, l) := by rw [← HR.out, hbad.1, if_pos hK]
              subst hr2
              go_wp2_with fail
              refine wp_region_m (fun _ w' => Below wr.heap.size wr w') (R14Sp b off L.length cap k N Z false wr.heap.size (laidB N Z.toNat Z.toNat)) (by kernel_rfl) (by kernel_rfl) (by kernel_rfl) (by kernel_rfl) (Below.refl _ _).drew ?step ?fin
              case step =>
                as_aux_lemma =>
                  intro q o ho listed a w' hI hn hpre
                  have hb := hI.inv
                  have hblt : b < wr.heap.size := Nat.lt_of_lt_of_le hbw hC.bel.size
                  have hq : q < 16 := (Array.getElem?_eq_some_iff.1 ho).1
                  match q, hq with
                  | 0, _ => exact wpOp_val ho (by cases ho; rfl) (by cases ho; rfl) ⟨_, rfl, hb, fun _ => hI.kept (t := 0) (by kernel_rfl), fun _ _ _ h => h⟩
                  | 1, _ => exact wpOp_val ho (by cases ho; rfl) (by cases ho; rfl) ⟨_, rfl, hb, fun _ => hI.kept (t := 5) (by kernel_rfl), fun _ _ _ h => h⟩
                  | 2, _ =>
                    cases ho
                    exact wpOp_index rfl rfl rfl (hI.slot 0 44 rfl (hpre ⟨0, .data⟩ (by simp) rfl) rfl) (hI.slot 1 45 rfl (hpre ⟨1, .data⟩ (by simp) rfl) rfl) (idxPart w' b off L.length cap k hlt) ⟨_, rfl, hb, fun _ => rfl, fun _ _ _ h => h⟩
                  | 3, _ =>
                    cases ho
                    exact wpOp_field rfl rfl rfl (hI.slot 2 46 rfl (hpre ⟨2, .data⟩ (by simp) rfl) rfl) (fieldPart b (off + k * 4) w') ⟨_, rfl, hb, fun _ => rfl, fun _ _ _ h => h⟩
                  | 4, _ =>
                    cases ho
                    exact wpOp_load rfl rfl rfl (hI.slot 3 47 rfl (hpre ⟨3, .data⟩ (by simp) rfl) rfl) (load_cellR (Try.isAgg73 w') ((hb.cell (p := ⟨b, off + k * 4 + 1, none⟩) hblt).trans c1)) ⟨_, rfl, hb, fun _ => rfl, fun _ _ _ h => h⟩
                  | 5, _ => exact wpOp_val ho (by cases ho; rfl) (by cases ho; rfl) ⟨_, rfl, hb, fun _ => hI.kept (t := 0) (by kernel_rfl), fun _ _ _ h => h⟩
                  | 6, _ => exact wpOp_val ho (by cases ho; rfl) (by cases ho; rfl) ⟨_, rfl, hb, fun _ => hI.kept (t := 5) (by kernel_rfl), fun _ _ _ h => h⟩
                  | 7, _ =>
                    cases ho
                    exact wpOp_index rfl rfl rfl (hI.slot 5 49 rfl (hpre ⟨5, .data⟩ (by simp) rfl) rfl) (hI.slot 6 50 rfl (hpre ⟨6, .data⟩ (by simp) rfl) rfl) (idxPart w' b off L.length cap k hlt) ⟨_, rfl, hb, fun _ => rfl, fun _ _ _ h => h⟩
                  | 8, _ =>
                    cases ho
                    exact wpOp_field rfl rfl rfl (hI.slot 7 51 rfl (hpre ⟨7, .data⟩ (by simp) rfl) rfl) (fieldPart2 b (off + k * 4) w') ⟨_, rfl, hb, fun _ => rfl, fun _ _ _ h => h⟩
                  | 9, _ =>
                    cases ho
                    exact wpOp_load rfl rfl rfl (hI.slot 8 52 rfl (hpre ⟨8, .data⟩ (by simp) rfl) rfl) (load_cellR (Try.isAgg3 w') ((hb.cell (p := ⟨b, off + k * 4 + 2, none⟩) hblt).trans c2)) ⟨_, rfl, hb, fun _ => rfl, fun _ _ _ h => h⟩
                  | 10, _ =>
                    cases ho
                    have e4 : a.eval (.tmp 48) = .int .u64 N := hI.slot 4 48 rfl (hpre ⟨4, .data⟩ (by simp) rfl) rfl
                    have e9 : a.eval (.tmp 53) = .int .i64 Z := hI.slot 9 53 rfl (hpre ⟨9, .data⟩ (by simp) rfl) rfl
                    refine wpOp_callFn rfl rfl rfl (vs := #[.int .u64 N, .int .i64 Z]) (by simp only [List.map_toArray, List.map_cons, List.map_nil, e4, e9]) (fun _ _ => by kernel_rfl) ((refNum_any N hN64 Z w').mono ?_)
                    rintro e w'' hpost
                    rcases hpost with ⟨hbad, rfl, rfl⟩ | ⟨hz1, hz8, g, rfl, hO5, hb5⟩
                    · refine ⟨_, rfl, _, rfl, hb, fun _ => ⟨.slice none 0 0, ?_, fun e => ?_⟩, fun _ _ _ h => h⟩
                      · first
                          | rfl
                          | (exfalso; have h9 := of_decide_eq_true EF.out; omega)
                      · first
                          | exact absurd e (by decide)
                          | (exfalso; have h9 := of_decide_eq_true EF.out; omega)
                    · have hdd : decide (N < 2 ^ (8 * Z.toNat)) = false := (decide_eq_decide.2 ⟨fun h => ⟨hz1, hz8, h⟩, fun h => h.2.2⟩).trans EF.out
                      exact ⟨_, rfl, _, rfl, hb.trans (hb5.mono hb.size), fun _ => ⟨_, by rw [hdd], fun e => hO5.mono hb.size⟩, fun j u _ h => R14Sp.below hb5 j u h⟩
                  | 11, _ =>
                    cases ho
                    obtain ⟨x, ex, hx⟩ : ∃ x, a.eval (.tmp 54) = .tuple #[x, .bool false] ∧ (false = true → OwnB w' wr.heap.size x (laidB N Z.toNat Z.toNat)) := hI.slot 10 54 rfl (hpre ⟨10, .data⟩ (by simp) rfl) rfl
                    exact wpOp_move rfl rfl (.inl rfl) ex ⟨_, rfl, hb, fun _ => ⟨x, rfl, hx⟩, fun _ _ _ h => h⟩
                  | 12, _ =>
                    cases ho
                    obtain ⟨x, ex, hx⟩ : ∃ x, a.eval (.tmp 43) = .tuple #[x, .bool false] ∧ (false = true → OwnB w' wr.heap.size x (laidB N Z.toNat Z.toNat)) := hI.slot 11 43 rfl (hpre ⟨11, .data⟩ (by simp) rfl) rfl
                    exact wpOp_extract0 rfl rfl rfl ex ⟨_, rfl, hb, fun _ => hx, fun _ _ _ h => h⟩
                  | 13, _ =>
                    cases ho
                    obtain ⟨x, ex, hx⟩ : ∃ x, a.eval (.tmp 43) = .tuple #[x, .bool false] ∧ (false = true → OwnB w' wr.heap.size x (laidB N Z.toNat Z.toNat)) := hI.slot 11 43 rfl (hpre ⟨11, .data⟩ (by simp) rfl) rfl
                    exact wpOp_extract1 rfl rfl rfl ex ⟨_, rfl, hb, fun _ => rfl, fun _ _ _ h => h⟩
                  | 14, _ =>
                    cases ho
                    have hx : false = true → OwnB w' wr.heap.size (a.eval (.tmp 55)) (laidB N Z.toNat Z.toNat) := hI.slot 12 55 rfl (hpre ⟨12, .data⟩ (by simp) rfl) rfl
                    exact wpOp_move rfl rfl (.inr rfl) rfl ⟨_, rfl, hb, fun _ => hx, fun _ _ _ h => h⟩
                  | 15, _ =>
                    cases ho
                    exact wpOp_move rfl rfl (.inr rfl) (hI.slot 13 56 rfl (hpre ⟨13, .data⟩ (by simp) rfl) rfl) ⟨_, rfl, hb, fun _ => rfl, fun _ _ _ h => h⟩
              case fin =>
                as_aux_lemma =>
                  intro listed a w5 hI hall
                  have hb5 := hI.inv
                  have e6 : false = true → OwnB w5 wr.heap.size (a.tmps.getD 6 undef) (laidB N Z.toNat Z.toNat) := hI.slot 14 6 rfl (hall 14 (by decide)) rfl
                  have e7 : a.tmps.getD 7 undef = .bool false := hI.slot 15 7 rfl (hall 15 (by decide)) rfl
                  obtain ⟨vs, us, hvl, hul, hvs, hus, e⟩ := hI.frame2 6 2 43 14 (by decide) (Nat.le_of_ble_eq_true (by kernel_rfl)) (by kernel_rfl)
                  have v0' := hvs 0 (by decide)
                  have v1' := hvs 1 (by decide)
                  clear hI hall hvs hus
                  match vs, us, hvl, hul with
                  | [v0, v1], [t0, t1, t2, t3, t4, t5, t6, t7, t8, t9, t10, t11, t12, t13], _, _ =>
                    simp only [List.getElem?_cons_succ, List.getElem?_cons_zero, Option.some.injEq] at v0' v1'
                    rw [Nat.add_zero] at v0'
                    rw [show 6 + 1 = 7 from rfl, e7] at v1'
                    rw [← v0'] at e6
                    subst v1'
                    clear e7 v0'
                    simp only [List.take_succ_cons, List.take_zero, List.drop_succ_cons, List.drop_zero, List.cons_append, List.nil_append, Nat.reduceAdd, Nat.reduceSub] at e
                    subst e
                    have c1d := (hb5.cell (p := ⟨b, off + k * 4 + 1, none⟩) (Nat.lt_of_lt_of_le hbw hC.bel.size)).trans c1
                    have c2d := (hb5.cell (p := ⟨b, off + k * 4 + 2, none⟩) (Nat.lt_of_lt_of_le hbw hC.bel.size)).trans c2
                    have c1e : w5.drew.cell? ⟨b, off + k * 4 + 1, none⟩ = some (.int .u64 N) := c1d
                    have c2e : w5.drew.cell? ⟨b, off + k * 4 + 2, none⟩ = some (.int .i64 Z) := c2d
                    have hW5 := hC.wri.below (hb5.drew)
                    clear c0 c1 c2 c3
                    go_wp2_with fail
                    go_still_tail 11, (by kernel_rfl)
                    change wpList _ _ _ _ _ w5.drew
                    go_wp2_with (go_at_call 38; refine (wnum_any hW5 N Z).mono ?_; rw [E0.out]; rintro e w6 ⟨rfl, v6, hW6, hg6⟩)
                    go_meet
                    case rel =>
                      have hb5d : Below wr.heap.size wr w5.drew := hb5.drew
                      refine ⟨rfl, rfl, fun e => ?_, v6, hW6, (Goes2.of_below w.heap.size v hb5d).trans hg6⟩
                      rw [EB.out]
                      exact OwnB.kept2 (show OwnB w5.drew wr.heap.size v0 _ from e6 e) hg6 hC.wri.lt (fun j hj => (World.ownsRow.lt hC.wri.own j hj).2)

            | true =>
              go_wp2_with fail
              refine wp_region_m (fun _ w' => Below wr.heap.size wr w') (R14Sp b off L.length cap k N Z true wr.heap.size (laidB N Z.toNat Z.toNat)) (by kernel_rfl) (by kernel_rfl) (by kernel_rfl) (by kernel_rfl) (Below.refl _ _).drew ?step ?fin
              case step =>
                as_aux_lemma =>
                  intro q o ho listed a w' hI hn hpre
                  have hb := hI.inv
                  have hblt : b < wr.heap.size := Nat.lt_of_lt_of_le hbw hC.bel.size
                  have hq : q < 16 := (Array.getElem?_eq_some_iff.1 ho).1
                  match q, hq with
                  | 0, _ => exact wpOp_val ho (by cases ho; rfl) (by cases ho; rfl) ⟨_, rfl, hb, fun _ => hI.kept (t := 0) (by kernel_rfl), fun _ _ _ h => h⟩
                  | 1, _ => exact wpOp_val ho (by cases ho; rfl) (by cases ho; rfl) ⟨_, rfl, hb, fun _ => hI.kept (t := 5) (by kernel_rfl), fun _ _ _ h => h⟩
                  | 2, _ =>
                    cases ho
                    exact wpOp_index rfl rfl rfl (hI.slot 0 44 rfl (hpre ⟨0, .data⟩ (by simp) rfl) rfl) (hI.slot 1 45 rfl (hpre ⟨1, .data⟩ (by simp) rfl) rfl) (idxPart w' b off L.length cap k hlt) ⟨_, rfl, hb, fun _ => rfl, fun _ _ _ h => h⟩
                  | 3, _ =>
                    cases ho
                    exact wpOp_field rfl rfl rfl (hI.slot 2 46 rfl (hpre ⟨2, .data⟩ (by simp) rfl) rfl) (fieldPart b (off + k * 4) w') ⟨_, rfl, hb, fun _ => rfl, fun _ _ _ h => h⟩
                  | 4, _ =>
                    cases ho
                    exact wpOp_load rfl rfl rfl (hI.slot 3 47 rfl (hpre ⟨3, .data⟩ (by simp) rfl) rfl) (load_cellR (Try.isAgg73 w') ((hb.cell (p := ⟨b, off + k * 4 + 1, none⟩) hblt).trans c1)) ⟨_, rfl, hb, fun _ => rfl, fun _ _ _ h => h⟩
                  | 5, _ => exact wpOp_val ho (by cases ho; rfl) (by cases ho; rfl) ⟨_, rfl, hb, fun _ => hI.kept (t := 0) (by kernel_rfl), fun _ _ _ h => h⟩
                  | 6, _ => exact wpOp_val ho (by cases ho; rfl) (by cases ho; rfl) ⟨_, rfl, hb, fun _ => hI.kept (t := 5) (by kernel_rfl), fun _ _ _ h => h⟩
                  | 7, _ =>
                    cases ho
                    exact wpOp_index rfl rfl rfl (hI.slot 5 49 rfl (hpre ⟨5, .data⟩ (by simp) rfl) rfl) (hI.slot 6 50 rfl (hpre ⟨6, .data⟩ (by simp) rfl) rfl) (idxPart w' b off L.length cap k hlt) ⟨_, rfl, hb, fun _ => rfl, fun _ _ _ h => h⟩
                  | 8, _ =>
                    cases ho
                    exact wpOp_field rfl rfl rfl (hI.slot 7 51 rfl (hpre ⟨7, .data⟩ (by simp) rfl) rfl) (fieldPart2 b (off + k * 4) w') ⟨_, rfl, hb, fun _ => rfl, fun _ _ _ h => h⟩
                  | 9, _ =>
                    cases ho
                    exact wpOp_load rfl rfl rfl (hI.slot 8 52 rfl (hpre ⟨8, .data⟩ (by simp) rfl) rfl) (load_cellR (Try.isAgg3 w') ((hb.cell (p := ⟨b, off + k * 4 + 2, none⟩) hblt).trans c2)) ⟨_, rfl, hb, fun _ => rfl, fun _ _ _ h => h⟩
                  | 10, _ =>
                    cases ho
                    have e4 : a.eval (.tmp 48) = .int .u64 N := hI.slot 4 48 rfl (hpre ⟨4, .data⟩ (by simp) rfl) rfl
                    have e9 : a.eval (.tmp 53) = .int .i64 Z := hI.slot 9 53 rfl (hpre ⟨9, .data⟩ (by simp) rfl) rfl
                    refine wpOp_callFn rfl rfl rfl (vs := #[.int .u64 N, .int .i64 Z]) (by simp only [List.map_toArray, List.map_cons, List.map_nil, e4, e9]) (fun _ _ => by kernel_rfl) ((refNum_any N hN64 Z w').mono ?_)
                    rintro e w'' hpost
                    rcases hpost with ⟨hbad, rfl, rfl⟩ | ⟨hz1, hz8, g, rfl, hO5, hb5⟩
                    · refine ⟨_, rfl, _, rfl, hb, fun _ => ⟨.slice none 0 0, ?_, fun e => ?_⟩, fun _ _ _ h => h⟩
                      · first
                          | rfl
                          | (exfalso; have h9 := of_decide_eq_true EF.out; omega)
                      · first
                          | exact absurd e (by decide)
                          | (exfalso; have h9 := of_decide_eq_true EF.out; omega)
                    · have hdd : decide (N < 2 ^ (8 * Z.toNat)) = true := (decide_eq_decide.2 ⟨fun h => ⟨hz1, hz8, h⟩, fun h => h.2.2⟩).trans EF.out
                      exact ⟨_, rfl, _, rfl, hb.trans (hb5.mono hb.size), fun _ => ⟨_, by rw [hdd], fun e => hO5.mono hb.size⟩, fun j u _ h => R14Sp.below hb5 j u h⟩
                  | 11, _ =>
                    cases ho
                    obtain ⟨x, ex, hx⟩ : ∃ x, a.eval (.tmp 54) = .tuple #[x, .bool true] ∧ (true = true → OwnB w' wr.heap.size x (laidB N Z.toNat Z.toNat)) := hI.slot 10 54 rfl (hpre ⟨10, .data⟩ (by simp) rfl) rfl
                    exact wpOp_move rfl rfl (.inl rfl) ex ⟨_, rfl, hb, fun _ => ⟨x, rfl, hx⟩, fun _ _ _ h => h⟩
                  | 12, _ =>
                    cases ho
                    obtain ⟨x, ex, hx⟩ : ∃ x, a.eval (.tmp 43) = .tuple #[x, .bool true] ∧ (true = true → OwnB w' wr.heap.size x (laidB N Z.toNat Z.toNat)) := hI.slot 11 43 rfl (hpre ⟨11, .data⟩ (by simp) rfl) rfl
                    exact wpOp_extract0 rfl rfl rfl ex ⟨_, rfl, hb, fun _ => hx, fun _ _ _ h => h⟩
                  | 13, _ =>
                    cases ho
                    obtain ⟨x, ex, hx⟩ : ∃ x, a.eval (.tmp 43) = .tuple #[x, .bool true] ∧ (true = true → OwnB w' wr.heap.size x (laidB N Z.toNat Z.toNat)) := hI.slot 11 43 rfl (hpre ⟨11, .data⟩ (by simp) rfl) rfl
                    exact wpOp_extract1 rfl rfl rfl ex ⟨_, rfl, hb, fun _ => rfl, fun _ _ _ h => h⟩
                  | 14, _ =>
                    cases ho
                    have hx : true = true → OwnB w' wr.heap.size (a.eval (.tmp 55)) (laidB N Z.toNat Z.toNat) := hI.slot 12 55 rfl (hpre ⟨12, .data⟩ (by simp) rfl) rfl
                    exact wpOp_move rfl rfl (.inr rfl) rfl ⟨_, rfl, hb, fun _ => hx, fun _ _ _ h => h⟩
                  | 15, _ =>
                    cases ho
                    exact wpOp_move rfl rfl (.inr rfl) (hI.slot 13 56 rfl (hpre ⟨13, .data⟩ (by simp) rfl) rfl) ⟨_, rfl, hb, fun _ => rfl, fun _ _ _ h => h⟩
              case fin =>
                as_aux_lemma =>
                  intro listed a w5 hI hall
                  have hb5 := hI.inv
                  have e6 : true = true → OwnB w5 wr.heap.size (a.tmps.getD 6 undef) (laidB N Z.toNat Z.toNat) := hI.slot 14 6 rfl (hall 14 (by decide)) rfl
                  have e7 : a.tmps.getD 7 undef = .bool true := hI.slot 15 7 rfl (hall 15 (by decide)) rfl
                  obtain ⟨vs, us, hvl, hul, hvs, hus, e⟩ := hI.frame2 6 2 43 14 (by decide) (Nat.le_of_ble_eq_true (by kernel_rfl)) (by kernel_rfl)
                  have v0' := hvs 0 (by decide)
                  have v1' := hvs 1 (by decide)
                  clear hI hall hvs hus
                  match vs, us, hvl, hul with
                  | [v0, v1], [t0, t1, t2, t3, t4, t5, t6, t7, t8, t9, t10, t11, t12, t13], _, _ =>
                    simp only [List.getElem?_cons_succ, List.getElem?_cons_zero, Option.some.injEq] at v0' v1'
                    rw [Nat.add_zero] at v0'
                    rw [show 6 + 1 = 7 from rfl, e7] at v1'
                    rw [← v0'] at e6
                    subst v1'
                    clear e7 v0'
                    simp only [List.take_succ_cons, List.take_zero, List.drop_succ_cons, List.drop_zero, List.cons_append, List.nil_append, Nat.reduceAdd, Nat.reduceSub] at e
                    subst e
                    have c1d := (hb5.cell (p := ⟨b, off + k * 4 + 1, none⟩) (Nat.lt_of_lt_of_le hbw hC.bel.size)).trans c1
                    have c2d := (hb5.cell (p := ⟨b, off + k * 4 + 2, none⟩) (Nat.lt_of_lt_of_le hbw hC.bel.size)).trans c2
                    have c1e : w5.drew.cell? ⟨b, off + k * 4 + 1, none⟩ = some (.int .u64 N) := c1d
                    have c2e : w5.drew.cell? ⟨b, off + k * 4 + 2, none⟩ = some (.int .i64 Z) := c2d
                    have hW5 := hC.wri.below (hb5.drew)
                    clear c0 c1 c2 c3
                    go_wp2_with fail
                    go_still_tail 11, (by kernel_rfl)
                    change wpList _ _ _ _ _ w5.drew
                    go_wp2_with (go_at_call 38; refine (wnum_any hW5 N Z).mono ?_; rw [E0.out]; rintro e w6 ⟨rfl, v6, hW6, hg6⟩)
                    go_meet
                    case rel =>
                      have hb5d : Below wr.heap.size wr w5.drew := hb5.drew
                      refine ⟨rfl, rfl, fun e => ?_, v6, hW6, (Goes2.of_below w.heap.size v hb5d).trans hg6⟩
                      rw [EB.out]
                      exact OwnB.kept2 (show OwnB w5.drew wr.heap.size v0 _ from e6 e) hg6 hC.wri.lt (fun j hj => (World.ownsRow.lt hC.wri.own j hj).2)

          · have hk1 : (K == 1) = false := by simpa using hK1
            by_cases hK2 : K = 2
            · subst hK2
              have e0 : wTextS l s = r := by rw [← hr, ← hs]; unfold wPt; rw [if_neg (by omega), if_pos hK]
              have ef : decide (s.size ≤ 65535) = fb := by rw [← hfb, ← hs]; unfold ptFineB; rw [if_neg (by omega), if_pos hK]
              have eB : ptB p = textB s := by unfold ptB; rw [if_neg (by omega), if_pos hK, hs]
              have hsl : s.size ≤ 9223372036854775807 := by rw [← hs]; exact HLO.out.text
              have EB := Lib.hid eB
              have E0 := Lib.hid e0
              cases fb with
              | false =>
                have hlong : 65535 < s.size := by have := of_decide_eq_false ef; omega
                have hbad := wPt_bad (l := l) hfb
                have hr2 : r = (3, l) := by rw [← hr, hbad.1, if_neg (by omega)]
                subst hr2
                have RT := Lib.hid (refText_long hlong wr)
                clear e0 ef eB hlong hbad hr hfb
                as_aux_lemma =>
                  go_wp2_with (first
                    | (go_at_call 39; refine RT.out.mono ?_; rintro e w5 ⟨rfl, rfl⟩)
                    | (go_at_call 40; refine (wtext_any hC.wri s hsl).mono ?_; rw [E0.out]; rintro e w6 ⟨rfl, v6, hW6, hg6⟩))
                  go_meet
                  case rel => exact ⟨rfl, rfl, (fun e => absurd e (by decide)), v6, hW6, hg6⟩
              | true =>
                have hshort := of_decide_eq_true ef
                have RT := Lib.hid (refText_ok hshort wr)
                clear e0 ef eB hshort hr hfb
                as_aux_lemma =>
                  go_wp2_with (first
                    | (go_at_call 39; refine RT.out.mono ?_; rintro e w5 ⟨a5, k5, rfl, hO5, hb5⟩; have c35 := (hb5.cell (p := ⟨b, off + k * 4 + 3, none⟩) (Nat.lt_of_lt_of_le hbw hC.bel.size)).trans c3; have hW5 := hC.wri.below hb5)
                    | (go_at_call 40; refine (wtext_any hW5 s hsl).mono ?_; rw [E0.out]; rintro e w6 ⟨rfl, v6, hW6, hg6⟩))
                  go_meet
                  case rel =>
                    refine ⟨rfl, rfl, fun e => ?_, v6, hW6, (Goes2.of_below w.heap.size v hb5).trans hg6⟩
                    rw [EB.out]
                    exact OwnB.kept2 hO5 hg6 hC.wri.lt (fun j hj => (World.ownsRow.lt hC.wri.own j hj).2)
            · have hk2 : (K == 2) = false := by simpa using hK2
              have ef : fb = true := by rw [← hfb]; unfold ptFineB; rw [if_neg (by omega), if_neg (by omega)]
              subst ef
              have e0 : wTruth l (decide (0 < N)) = r := by rw [← hr, ← hN]; unfold wPt; rw [if_neg (by omega), if_neg (by omega)]
              have eB : ptB p = [if 0 < N then 1 else 0] := by unfold ptB; rw [if_neg (by omega), if_neg (by omega), hN]
              have h1b : ∀ x : UInt8, OwnB (wr.alloc (.cells #[.int .u8 (x.toNat : Int)] 5)) wr.heap.size (.slice (some ⟨wr.heap.size, 0, none⟩) 1 1) [x] := fun x =>
                ⟨rfl, .inr ⟨wr.heap.size, 1, _, rfl, Nat.le_refl _, heap_alloc_new wr _, Nat.le_refl _, by unfold maxLen; omega, rfl, rfl⟩⟩
              by_cases h0 : 0 < N
              · by_cases hN1 : N = 1
                · subst hN1
                  rw [decide_eq_true h0] at e0
                  rw [if_pos h0] at eB
                  have c1' : wr.cell? ⟨b, off + k * 4 + 1, none⟩ = some (.int .u64 1) := c1
                  have hOb := h1b 1
                  have E0 := Lib.hid e0
                  have EB := Lib.hid eB
                  have HOB := Lib.hid (show OwnB (wr.alloc (.cells #[.int .u8 1] 5)) wr.heap.size (.slice (some ⟨wr.heap.size, 0, none⟩) 1 1) [1] from hOb)
                  have hbA : Below wr.heap.size wr (wr.alloc (.cells #[.int .u8 1] 5)) := (Below.refl _ _).alloc (Nat.le_refl _) _
                  have HWA := Lib.hid (hC.wri.below hbA)
                  have HBA := Lib.hid hbA
                  have c1A := (hbA.cell (p := ⟨b, off + k * 4 + 1, none⟩) (Nat.lt_of_lt_of_le hbw hC.bel.size)).trans c1'
                  clear e0 eB h1b hOb hbA hr hfb c1
                  go_wp2_with (go_at_call 41; refine (wtruth_any HWA.out true).mono ?_; rw [E0.out]; rintro e w6 ⟨rfl, v6, hW6, hg6⟩)
                  go_meet
                  case rel =>
                    refine ⟨rfl, rfl, fun e => ?_, v6, hW6, (Goes2.of_below w.heap.size v HBA.out).trans hg6⟩
                    rw [EB.out]
                    exact OwnB.kept2 HOB.out hg6 hC.wri.lt (fun j hj => (World.ownsRow.lt hC.wri.own j hj).2)
                · have hd0 : decide ((0 : Int) < (N : Int)) = true := decide_eq_true (by omega)
                  have hd00 : (0 : Int) < (N : Int) := by omega
                  have hd11 : ¬ ((N : Int) ≤ 1) := by omega
                  rw [decide_eq_true h0] at e0
                  rw [if_pos h0] at eB
                  have hOb := h1b 1
                  have E0 := Lib.hid e0
                  have EB := Lib.hid eB
                  have HOB := Lib.hid (show OwnB (wr.alloc (.cells #[.int .u8 1] 5)) wr.heap.size (.slice (some ⟨wr.heap.size, 0, none⟩) 1 1) [1] from hOb)
                  have hbA : Below wr.heap.size wr (wr.alloc (.cells #[.int .u8 1] 5)) := (Below.refl _ _).alloc (Nat.le_refl _) _
                  have HWA := Lib.hid (hC.wri.below hbA)
                  have HBA := Lib.hid hbA
                  have c1A := (hbA.cell (p := ⟨b, off + k * 4 + 1, none⟩) (Nat.lt_of_lt_of_le hbw hC.bel.size)).trans c1
                  clear e0 eB h1b hOb hbA hr hfb
                  go_wp2_with (go_at_call 41; refine (wtruth_any HWA.out true).mono ?_; rw [E0.out]; rintro e w6 ⟨rfl, v6, hW6, hg6⟩)
                  go_meet
                  case rel =>
                    refine ⟨rfl, rfl, fun e => ?_, v6, hW6, (Goes2.of_below w.heap.size v HBA.out).trans hg6⟩
                    rw [EB.out]
                    exact OwnB.kept2 HOB.out hg6 hC.wri.lt (fun j hj => (World.ownsRow.lt hC.wri.own j hj).2)
              · obtain rfl : N = 0 := by omega
                rw [decide_eq_false h0] at e0
                rw [if_neg h0] at eB
                have hOb := h1b 0
                have E0 := Lib.hid e0
                have EB := Lib.hid eB
                have HOB := Lib.hid (show OwnB (wr.alloc (.cells #[.int .u8 0] 5)) wr.heap.size (.slice (some ⟨wr.heap.size, 0, none⟩) 1 1) [0] from hOb)
                have hbA : Below wr.heap.size wr (wr.alloc (.cells #[.int .u8 0] 5)) := (Below.refl _ _).alloc (Nat.le_refl _) _
                have HWA := Lib.hid (hC.wri.below hbA)
                have HBA := Lib.hid hbA
                have c1' : wr.cell? ⟨b, off + k * 4 + 1, none⟩ = some (.int .u64 0) := c1
                have c1A := (hbA.cell (p := ⟨b, off + k * 4 + 1, none⟩) (Nat.lt_of_lt_of_le hbw hC.bel.size)).trans c1'
                clear e0 eB h1b hOb hbA hr hfb c1
                go_wp2_with (go_at_call 41; refine (wtruth_any HWA.out false).mono ?_; rw [E0.out]; rintro e w6 ⟨rfl, v6, hW6, hg6⟩)
                go_meet
                case rel =>
                  refine ⟨rfl, rfl, fun e => ?_, v6, hW6, (Goes2.of_below w.heap.size v HBA.out).trans hg6⟩
                  rw [EB.out]
                  exact OwnB.kept2 HOB.out hg6 hC.wri.lt (fun j hj => (World.ownsRow.lt hC.wri.own j hj).2)
        case rest =>
          obtain ⟨rfl, rfl, hx, v6, hW6, hg6⟩ := hcut
          have hu6 := hC.row.kept3 hC.wri hC.ne hg6
          have hult : ∀ g, Value.ownBlock (.slice au l.length cu) = some g → g < wr.heap.size := fun g hg => (World.ownsRow.lt hC.row g hg).2
          have hne6 : ∀ g, v6.ownBlock = some g → Value.ownBlock (.slice au l.length cu) ≠ some g := fun g hg e => by
            rcases hg6.near with e2 | ⟨g2, e2, h2⟩
            · exact hC.ne g (e2.symm.trans hg) e
            · have e3 := Option.some.inj (e2.symm.trans hg)
              have := hult g e
              omega
          have hB6 := hC.bel.trans (hg6.below hC.bel.size hC.wri.lo hC.wri.own.block)
          clear hult
          cases fb with
          | false =>
            have hbad := wPt_bad (l := l) hfb
            have hr2 : r.2 = l := by rw [← hr, hbad.1]
            rw [hr2] at hW6
            have HN6 := Lib.hid hne6
            have HB6 := Lib.hid hB6
            clear hbad hr2 hr hfb hx hC hne6 hB6 c0 c1 c2 c3 hg6
            as_aux_lemma =>
              go_wp2
              exact ⟨⟨k + 1, v6, l, by rw [show ((k + 1 : Nat) : Int) = (k : Int) + 1 by omega], hlt, ⟨hW6, hu6, HN6.out, HB6.out⟩⟩, by simp only [intOf]; omega⟩
          | true =>
            have hgood := wPt_good (l := l) hfb
            rw [hr] at hgood
            have hO6 := hx rfl
            have hpl : 0 < (ptB p).length := by
              rw [ptB_len]
              split
              · rename_i h1
                unfold ptFineB at hfb
                rw [if_pos h1] at hfb
                have := of_decide_eq_true hfb
                omega
              · split <;> omega
            have hpu : (ptB p).length ≤ 65537 := by
              rw [ptB_len]
              unfold ptFineB at hfb
              split
              · rename_i h1
                rw [if_pos h1] at hfb
                have := of_decide_eq_true hfb
                omega
              · rename_i h1
                rw [if_neg h1] at hfb
                split
                · rename_i h2
                  rw [if_pos h2] at hfb
                  have := of_decide_eq_true hfb
                  omega
                · omega
            obtain ⟨m, hm6⟩ : ∃ m, ptB p = m := ⟨_, rfl⟩
            rw [hm6] at hgood hO6 hpl hpu
            obtain ⟨gx, cx, hx6, hbx, hlx⟩ : ∃ g c, u6 = .slice (some ⟨g, 0, none⟩) m.length c ∧ BytesAt wc.heap.size wc (some ⟨g, 0, none⟩) m ∧ m.length ≤ c := by
              rcases hO6.bytes with ⟨_, e⟩ | ⟨g, c, e, _, _, h5, _, h6, _⟩
              · rw [e] at hpl; simp at hpl
              · exact ⟨g, c, e, h6, h5⟩
            subst hx6
            have HN6 := Lib.hid hne6
            have HB6 := Lib.hid hB6
            have hw6 := hW6
            by_cases hlong : 65536 < l.length + m.length
            · rw [if_pos hlong] at hgood
              subst hgood
              have hd9 : decide ((65536 : Int) < (l.length : Int) + (m.length : Int)) = true := decide_eq_true (by omega)
              have hd10 : (65536 : Int) < (l.length : Int) + (m.length : Int) := by omega
              clear hw6 hr hfb hx hO6 hC hne6 hB6 c0 c1 c2 c3 hg6 hbx
              as_aux_lemma =>
                go_wp2
                exact ⟨⟨k + 1, v6, l, by rw [show ((k + 1 : Nat) : Int) = (k : Int) + 1 by omega], hlt, ⟨hW6, hu6, HN6.out, HB6.out⟩⟩, by simp only [intOf]; omega⟩
            · rw [if_neg hlong] at hgood
              subst hgood
              have hd9 : decide ((65536 : Int) < (l.length : Int) + (m.length : Int)) = false := decide_eq_false (by omega)
              have hbd : l.length + m.length ≤ 1099511627776 := by omega
              clear hw6 hr hfb hx hO6 hC hne6 hB6 c0 c1 c2 c3 hg6 hlong
              go_wp2_with (at_builtin; refine wpList_append_goes rfl _ _ rfl w.heap.size wc.heap.size _ l rfl hu6 ⟨gx, 0, none⟩ m cx rfl hbx hbd HB6.out.size ?_; intro u7 w7 hu7 hg7 _)
              have hg7' : Goes wc w7 (.slice au l.length cu) u7 := hg7
              have hW7 : IsWr w.heap.size w7 w.heap.size v6 (l ++ m) := by
                refine hW6.kept hg7'.grown (fun e => ?_) ?_
                · obtain ⟨cs, hh⟩ := own_block hu6 w.heap.size e.symm
                  rw [hW6.cells] at hh; cases hh
                · cases hv : v6.ownBlock with
                  | none => exact .inl rfl
                  | some g => exact .inr (fun e => HN6.out g hv e.symm)
              have hne7 : ∀ g, v6.ownBlock = some g → u7.ownBlock ≠ some g := fun g hg e => by
                rcases hg7'.near with e2 | ⟨g2, e2, h2⟩
                · exact HN6.out g hg (e2.symm.trans e)
                · have e3 := Option.some.inj (e2.symm.trans e)
                  have := (World.ownsRow.lt hW6.own g hg).2
                  omega
              have hB7 := HB6.out.trans (hg7'.below HB6.out.size (fun j hj => (World.ownsRow.lt hu6 j hj).1))
              exact ⟨⟨k + 1, v6, l ++ m, by rw [show ((k + 1 : Nat) : Int) = (k : Int) + 1 by omega], hlt, ⟨hW7, hu7, hne7, hB7⟩⟩, by simp only [intOf]; omega⟩
      · obtain rfl : k = L.length := by omega
        have hkL : ¬ ((L.length : Int) < (L.length : Int)) := by omega
        have HC := Lib.hid hC
        clear hC
        go_wp2_with fail
        refine wp_region_m (fun _ w' => Below wr.heap.size wr w') (WrSp w.heap.size w.heap.size (.slice au l.length cu) l) (by kernel_rfl) (by kernel_rfl) (by kernel_rfl) (by kernel_rfl) (Below.refl _ _).drew ?step ?fin
        case step =>
          as_aux_lemma =>
            intro q o ho listed a w' hI hn hpre
            have hb := hI.inv
            have hW := HC.out.wri.below hb
            have hu := HC.out.row.below hb
            have hq : q < 17 := (Array.getElem?_eq_some_iff.1 ho).1
            match q, hq with
            | 0, _ => exact wpOp_val ho (by cases ho; rfl) (by cases ho; rfl) ⟨_, rfl, hb, fun _ => hI.kept (t := 3) (by kernel_rfl), fun _ _ _ h => h⟩
            | 1, _ =>
              cases ho
              have e : a.eval (.tmp 116) = wptr w.heap.size := hI.slot 0 116 rfl (hpre ⟨0, .data⟩ (by simp) rfl) rfl
              refine wpOp_callFn rfl rfl rfl (vs := #[wptr w.heap.size]) (by simp only [List.map_toArray, List.map_cons, List.map_nil, e]) (fun _ _ => by kernel_rfl) ((wbytes_any hW).mono ?_)
              rintro e w'' ⟨x, rfl, hO, hb2⟩
              exact ⟨_, rfl, _, rfl, hb.trans (hb2.mono hb.size), fun _ => hO.mono hW.n_le, fun j u _ h => WrSp.below hb2 j u h⟩
            | 2, _ =>
              cases ho
              have e1 : OwnB w' w.heap.size (a.eval (.tmp 117)) l := hI.slot 1 117 rfl (hpre ⟨1, .data⟩ (by simp) rfl) rfl
              obtain ⟨az, cz, hz, hmz, -, -, -, -⟩ := e1.form
              exact wpOp_conv rfl rfl rfl hz (conv_at w' az l cz _ hmz) ⟨_, rfl, hb, fun _ => rfl, fun _ _ _ h => h⟩
            | 3, _ => exact wpOp_val ho (by cases ho; rfl) (by cases ho; rfl) ⟨_, rfl, hb, fun _ => hI.kept (t := 4) (by kernel_rfl), fun _ _ _ h => h⟩
            | 4, _ =>
              cases ho
              obtain ⟨az, cz, hz, hmz, -, -, -, -⟩ := hu.form
              have e3 : a.eval (.tmp 119) = .slice au l.length cu := hI.slot 3 119 rfl (hpre ⟨3, .data⟩ (by simp) rfl) rfl
              exact wpOp_conv rfl rfl rfl (e3.trans hz) (conv_at w' az l cz _ hmz) ⟨_, rfl, hb, fun _ => rfl, fun _ _ _ h => h⟩
            | 5, _ =>
              cases ho
              exact wpOp_eqS rfl rfl rfl (hI.slot 2 118 rfl (hpre ⟨2, .data⟩ (by simp) rfl) rfl) (hI.slot 4 120 rfl (hpre ⟨4, .data⟩ (by simp) rfl) rfl) ⟨_, rfl, hb, fun _ => by simp [WrSp], fun _ _ _ h => h⟩
            | 6, _ =>
              cases ho
              exact wpOp_move rfl rfl (.inl rfl) (hI.slot 5 121 rfl (hpre ⟨5, .data⟩ (by simp) rfl) rfl) ⟨_, rfl, hb, fun _ => rfl, fun _ _ _ h => h⟩
            | 7, _ =>
              have e6 : a.eval (.tmp 122) = .bool true := hI.slot 6 122 rfl (hpre ⟨6, .guard⟩ (by cases ho; simp) rfl) rfl
              exact wpOp_val ho (wantedOf (by cases ho; rfl) rfl rfl (by rw [hI.len]; exact Nat.le_of_ble_eq_true (by kernel_rfl)) e6) (by cases ho; rfl) ⟨_, rfl, hb, fun _ => hI.kept (t := 3) (by kernel_rfl), fun _ _ _ h => h⟩
            | 8, _ =>
              cases ho
              have e6 : a.eval (.tmp 122) = .bool true := hI.slot 6 122 rfl (hpre ⟨6, .guard⟩ (by simp) rfl) rfl
              have e : a.eval (.tmp 123) = wptr w.heap.size := hI.slot 7 123 rfl (hpre ⟨7, .data⟩ (by simp) rfl) rfl
              refine wpOp_callFn rfl (wantedOf rfl rfl rfl (by rw [hI.len]; exact Nat.le_of_ble_eq_true (by kernel_rfl)) e6) rfl (vs := #[wptr w.heap.size]) (by simp only [List.map_toArray, List.map_cons, List.map_nil, e]) (fun _ _ => by kernel_rfl) ((wlen_any hW).mono ?_)
              rintro e w'' ⟨rfl, rfl⟩
              exact ⟨_, rfl, _, rfl, hb, fun _ => rfl, fun _ _ _ h => h⟩
            | 9, _ =>
              have e6 : a.eval (.tmp 122) = .bool true := hI.slot 6 122 rfl (hpre ⟨6, .guard⟩ (by cases ho; simp) rfl) rfl
              exact wpOp_val ho (wantedOf (by cases ho; rfl) rfl rfl (by rw [hI.len]; exact Nat.le_of_ble_eq_true (by kernel_rfl)) e6) (by cases ho; rfl) ⟨_, rfl, hb, fun _ => hI.kept (t := 4) (by kernel_rfl), fun _ _ _ h => h⟩
            | 10, _ =>
              cases ho
              have e6 : a.eval (.tmp 122) = .bool true := hI.slot 6 122 rfl (hpre ⟨6, .guard⟩ (by simp) rfl) rfl
              exact wpOp_lenS rfl (wantedOf rfl rfl rfl (by rw [hI.len]; exact Nat.le_of_ble_eq_true (by kernel_rfl)) e6) rfl (hI.slot 9 125 rfl (hpre ⟨9, .data⟩ (by simp) rfl) rfl) ⟨_, rfl, hb, fun _ => rfl, fun _ _ _ h => h⟩
            | 11, _ =>
              cases ho
              have e6 : a.eval (.tmp 122) = .bool true := hI.slot 6 122 rfl (hpre ⟨6, .guard⟩ (by simp) rfl) rfl
              exact wpOp_eqI rfl (wantedOf rfl rfl rfl (by rw [hI.len]; exact Nat.le_of_ble_eq_true (by kernel_rfl)) e6) rfl (hI.slot 8 124 rfl (hpre ⟨8, .data⟩ (by simp) rfl) rfl) (hI.slot 10 126 rfl (hpre ⟨10, .data⟩ (by simp) rfl) rfl) ⟨_, rfl, hb, fun _ => by simp [WrSp], fun _ _ _ h => h⟩
            | 12, _ =>
              cases ho
              have e6 : a.eval (.tmp 122) = .bool true := hI.slot 6 122 rfl (hpre ⟨6, .data⟩ (by simp) rfl) rfl
              exact wpOp_pick2 (v := .bool true) rfl rfl rfl e6 (fun _ => hI.slot 11 127 rfl (hpre ⟨11, .data⟩ (by simp) rfl) rfl) (fun h => by cases h) rfl ⟨_, rfl, hb, fun _ => rfl, fun _ _ _ h => h⟩
            | 13, _ =>
              cases ho
              exact wpOp_move rfl rfl (.inl rfl) (hI.slot 12 128 rfl (hpre ⟨12, .data⟩ (by simp) rfl) rfl) ⟨_, rfl, hb, fun _ => rfl, fun _ _ _ h => h⟩
            | 14, _ =>
              cases ho
              have e13 : a.eval (.tmp 129) = .bool true := hI.slot 13 129 rfl (hpre ⟨13, .guard⟩ (by simp) rfl) rfl
              refine wpOp_callFn rfl (wantedOf rfl rfl rfl (by rw [hI.len]; exact Nat.le_of_ble_eq_true (by kernel_rfl)) e13) rfl (vs := #[]) (by simp only [List.map_toArray, List.map_nil]) (fun _ _ => by kernel_rfl) ((HK.out w').mono ?_)
              rintro e w'' ⟨rfl, hb2⟩
              exact ⟨_, rfl, _, rfl, hb.trans (hb2.mono hb.size), fun _ => rfl, fun j u _ h => WrSp.below hb2 j u h⟩
            | 15, _ =>
              cases ho
              have e13 : a.eval (.tmp 129) = .bool true := hI.slot 13 129 rfl (hpre ⟨13, .data⟩ (by simp) rfl) rfl
              exact wpOp_pick2 (v := .bool true) rfl rfl rfl e13 (fun _ => hI.slot 14 130 rfl (hpre ⟨14, .data⟩ (by simp) rfl) rfl) (fun h => by cases h) rfl ⟨_, rfl, hb, fun _ => rfl, fun _ _ _ h => h⟩
            | 16, _ =>
              cases ho
              exact wpOp_move rfl rfl (.inr rfl) (hI.slot 15 131 rfl (hpre ⟨15, .data⟩ (by simp) rfl) rfl) ⟨_, rfl, hb, fun _ => rfl, fun _ _ _ h => h⟩
        case fin =>
          as_aux_lemma =>
            intro listed a w' hI hall
            have hb := hI.inv
            have e2 : a.tmps.getD 2 undef = .bool true := hI.slot 16 2 rfl (hall 16 (by decide)) rfl
            obtain ⟨vs, us, hvl, hul, hvs, hus, e⟩ := hI.frame2 2 1 116 16 (by decide) (Nat.le_of_ble_eq_true (by kernel_rfl)) (by kernel_rfl)
            have v0' := hvs 0 (by decide)
            clear hI hall hvs hus
            match vs, us, hvl, hul with
            | [v0], [t0, t1, t2, t3, t4, t5, t6, t7, t8, t9, t10, t11, t12, t13, t14, t15], _, _ =>
              simp only [List.getElem?_cons_zero, Option.some.injEq] at v0'
              rw [Nat.add_zero, e2] at v0'
              subst v0'
              clear e2
              simp only [List.take_succ_cons, List.take_zero, List.drop_succ_cons, List.drop_zero, List.cons_append, List.nil_append, Nat.reduceAdd, Nat.reduceSub] at e
              subst e
              go_wp2
              go_ret
              exact ⟨rfl, HC.out.bel.trans (hb.mono HC.out.bel.size)⟩
end Go.Proofs.Ytdmgemimbbhbiaa
