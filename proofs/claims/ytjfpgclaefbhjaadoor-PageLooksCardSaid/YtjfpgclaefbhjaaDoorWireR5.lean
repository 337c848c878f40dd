/- Layer 3: Rest: what is left, a copy. -/
import Derived.Test.YtjfpgclaefbhjaaDoorWireR4
import Derived.Test.YtjfpgclaefbhjaaDoorFrames
namespace Go.Proofs.YtjfpgclaefbhjaaDoor
open Go.RowKit

section
variable {n₀ : Nat} {w : World} {B : Nat}
theorem load_cellR {P : Program} {T : TypeId} {w : World} {a : Addr} {v : Value} (hT : (isAgg T).run P w = .ok false w) (h : w.cell? a = some v) : (Instr.loadAt T (.pointer (some a))).run P w = .ok v w := by
  simp [Instr.loadAt, Instr.sureAddr, loadVar, hT, go_sem, Result.andThen, h]
theorem fieldR98_0 (B : Nat) (w : World) : (Instr.fieldAt 94 (wptr B) 0).run Tryd.prog w = .ok (wptr B) w := by simp [go_sem]
theorem fieldR98_1 (B : Nat) (w : World) : (Instr.fieldAt 94 (wptr B) 1).run Tryd.prog w = .ok (.pointer (some ⟨B, 2, none⟩)) w := by simp [go_sem]
theorem fieldR94_1 (B : Nat) (w : World) : (Instr.fieldAt 85 (wptr B) 1).run Tryd.prog w = .ok (.pointer (some ⟨B, 1, none⟩)) w := by simp [go_sem]
def slFrom (ao : Option Addr) (c i : Nat) : Option Addr := if c = i then ao else ao.map fun x => x.add (i * 1)
theorem sliceFrom (w : World) (ao : Option Addr) (n c i : Nat) (hi : i ≤ n) : (Instr.sliceAt 23 (.slice ao n c) (some (.int .i64 i)) none none).run Tryd.prog w = .ok (.slice (slFrom ao c i) (n - i) (c - i)) w := by
  have hel : Tryd.prog.elem 23 = 5 := by kernel_rfl
  have hu : Tryd.prog.underlying 23 = some (.slice (Tryd.prog.elem 23)) := by rw [hel]; exact Tryd.underlying23
  have hs : (sizeOf 5).run Tryd.prog w = .ok 1 w := by kernel_rfl
  have h1 := (run_sliceAt_slice (P := Tryd.prog) w 23 _ _ _ _ hu).trans (run_slice_l (P := Tryd.prog) w 23 ao n c hu .i64 (i : Int) (by omega) (by omega))
  rw [hel, hs] at h1
  simp only [Result.andThen_ok, Int.toNat_natCast, sliced] at h1
  exact h1
theorem slFrom_none {ao : Option Addr} {c i : Nat} (h : ao = none → c = 0) (h2 : slFrom ao c i = none) : c - i = 0 := by
  cases ao with
  | none => have := h rfl; omega
  | some a =>
    unfold slFrom at h2
    split at h2 <;> cases h2
theorem rest_at {n₁ : Nat} {ao : Option Addr} {l : List UInt8} {c i : Nat} (hm : BytesAt n₁ w ao l) (hc : l.length ≤ c) : BytesAt n₁ w (slFrom ao c i) (l.drop i) := fun hne => by
  have hi : i < l.length := by
    rcases Nat.lt_or_ge i l.length with h | h
    · exact h
    · exact absurd (List.drop_of_length_le h) hne
  obtain ⟨b, off, rfl, hb, hcc⟩ := hm (by rintro rfl; simp at hi)
  refine ⟨b, off + i, ?_, hb, fun j hj => ?_⟩
  · unfold slFrom
    rw [if_neg (by omega), Option.map_some, Nat.mul_one, addr_add]
  · rw [List.length_drop] at hj
    rw [List.getElem?_drop, Nat.add_assoc]
    exact hcc (i + j) (by omega)

/-- What the operations of Rest's last statement yield. -/
def RestSp (B n₁ n c i : Nat) (ao : Option Addr) (r : List UInt8) : Nat → Value → World → Prop
  | 3, u, _ => u = .pointer (some ⟨B, 1, none⟩)
  | 4, u, _ => u = .slice ao n c
  | 7, u, _ => u = .pointer (some ⟨B, 2, none⟩)
  | 8, u, _ => u = .int .i64 i
  | 9, u, _ => u = .slice (slFrom ao c i) (n - i) (c - i)
  | 10, u, w => OwnB w n₁ u r
  | 11, u, w => OwnB w n₁ u r
  | _, u, _ => u = wptr B
theorem RestSp.below {B n₁ n c i : Nat} {ao : Option Addr} {r : List UInt8} {w w' : World} (hb : Below w.heap.size w w') : ∀ j u, RestSp B n₁ n c i ao r j u w → RestSp B n₁ n c i ao r j u w' := by
  intro j u h
  have hk : ∀ v l, OwnB w n₁ v l → OwnB w' n₁ v l := fun v l ho => World.ownsRow.kept ho (below_grown hb) (by cases v.ownBlock <;> simp)
  unfold RestSp at h ⊢
  split at h
  all_goals first
    | exact hk _ _ h
    | exact h
def RestPost (w : World) (r : List UInt8) (e : Ending) (w' : World) : Prop := ∃ v, e = .returned v ∧ OwnB w' w.heap.size v r ∧ Below w.heap.size w w'
set_option maxRecDepth 100000 in
set_option maxHeartbeats 1000000 in
theorem rrest_any {r : List UInt8} (h : IsRd n₀ w B r) : Calls Tryd.prog 39 #[wptr B] w fun e w' => RestPost w r e w' := by
  obtain ⟨v, l, i, h, rfl⟩ := h
  have T := Lib.hid (rthere_any h)
  obtain ⟨ao, cap, hv, hm, h1, h2, h3, -⟩ := h.own.form
  subst hv
  have hle := h.le
  have hlen := h.len
  go_enter Tryd.func39, Tryd.ntmps39
  have H := Lib.hid h
  have HM := Lib.hid hm
  have H3 := Lib.hid h3
  clear h hm h3
  go_wp2_with (go_at_call 53; refine T.out.mono ?_; rintro e w' ⟨rfl, rfl⟩)
  refine wp_region_l (fun _ w' => Below w.heap.size w w') (RestSp B w.heap.size l.length cap i ao (l.drop i)) (by kernel_rfl) (by kernel_rfl) (by kernel_rfl) (by kernel_rfl) (Below.refl _ _).drew ?step ?fin
  case step =>
    intro k o ho listed a w' hI hn hpre
    have hb := hI.inv
    have hR := H.out.below hb
    have hk : k < 12 := (Array.getElem?_eq_some_iff.1 ho).1
    match k, hk with
    | 0, _ => exact wpOp_val ho (by cases ho; rfl) (by cases ho; rfl) ⟨_, rfl, hb, fun _ => hI.kept (t := 0) (by kernel_rfl), fun _ _ _ h => h⟩
    | 1, _ =>
      cases ho
      exact wpOp_nilCheck rfl rfl rfl (hI.slot 0 6 rfl (hpre ⟨0, .data⟩ (by simp) rfl) rfl) ⟨_, rfl, hb, fun _ => rfl, fun _ _ _ h => h⟩
    | 2, _ =>
      cases ho
      exact wpOp_field rfl rfl rfl (hI.slot 1 7 rfl (hpre ⟨1, .data⟩ (by simp) rfl) rfl) (fieldR98_0 B w') ⟨_, rfl, hb, fun _ => rfl, fun _ _ _ h => h⟩
    | 3, _ =>
      cases ho
      exact wpOp_field rfl rfl rfl (hI.slot 2 8 rfl (hpre ⟨2, .data⟩ (by simp) rfl) rfl) (fieldR94_1 B w') ⟨_, rfl, hb, fun _ => rfl, fun _ _ _ h => h⟩
    | 4, _ =>
      cases ho
      exact wpOp_load rfl rfl rfl (hI.slot 3 9 rfl (hpre ⟨3, .data⟩ (by simp) rfl) rfl) (load_cellR (Tryd.isAgg23 w') hR.cell1) ⟨_, rfl, hb, fun _ => rfl, fun _ _ _ h => h⟩
    | 5, _ => exact wpOp_val ho (by cases ho; rfl) (by cases ho; rfl) ⟨_, rfl, hb, fun _ => hI.kept (t := 0) (by kernel_rfl), fun _ _ _ h => h⟩
    | 6, _ =>
      cases ho
      exact wpOp_nilCheck rfl rfl rfl (hI.slot 5 11 rfl (hpre ⟨5, .data⟩ (by simp) rfl) rfl) ⟨_, rfl, hb, fun _ => rfl, fun _ _ _ h => h⟩
    | 7, _ =>
      cases ho
      exact wpOp_field rfl rfl rfl (hI.slot 6 12 rfl (hpre ⟨6, .data⟩ (by simp) rfl) rfl) (fieldR98_1 B w') ⟨_, rfl, hb, fun _ => rfl, fun _ _ _ h => h⟩
    | 8, _ =>
      cases ho
      exact wpOp_load rfl rfl rfl (hI.slot 7 13 rfl (hpre ⟨7, .data⟩ (by simp) rfl) rfl) (load_cellR (Tryd.isAgg3 w') hR.cell2) ⟨_, rfl, hb, fun _ => rfl, fun _ _ _ h => h⟩
    | 9, _ =>
      cases ho
      have e4 : a.eval (.tmp 10) = .slice ao l.length cap := hI.slot 4 10 rfl (hpre ⟨4, .data⟩ (by simp) rfl) rfl
      have e8 : a.eval (.tmp 14) = .int .i64 i := hI.slot 8 14 rfl (hpre ⟨8, .data⟩ (by simp) rfl) rfl
      exact wpOp_slice rfl rfl rfl e4 (congrArg some e8) rfl rfl (sliceFrom w' ao l.length cap i hle) ⟨_, rfl, hb, fun _ => rfl, fun _ _ _ h => h⟩
    | 10, _ =>
      cases ho
      have e9 : a.eval (.tmp 15) = .slice (slFrom ao cap i) (l.length - i) (cap - i) := hI.slot 9 15 rfl (hpre ⟨9, .data⟩ (by simp) rfl) rfl
      have hcl := clone_wire w' (slFrom ao cap i) (l.drop i) (cap - i) w.heap.size (rest_at (HM.out.below hb) h1) (slFrom_none H3.out) (by rw [List.length_drop]; omega) (by rw [List.length_drop]; omega)
      rw [List.length_drop] at hcl
      refine wpOp_callFn rfl rfl rfl (vs := #[.slice (slFrom ao cap i) (l.length - i) (cap - i)]) (by simp only [List.map_toArray, List.map_cons, List.map_nil, e9]) (fun _ _ => by kernel_rfl) (hcl.mono ?_)
      rintro e w'' ⟨v', rfl, hO, hb2⟩
      refine ⟨_, rfl, _, rfl, hb.trans (hb2.mono hb.size), fun _ => ?_, fun j u _ h => RestSp.below hb2 j u h⟩
      refine ⟨hO.1, ?_⟩
      rcases hO.2 with e | ⟨g, cp, cur, e, hg, r⟩
      · exact .inl e
      · exact .inr ⟨g, cp, cur, e, Nat.le_trans hb.size hg, r⟩
    | 11, _ =>
      cases ho
      have e10 := hI.slot 10 16 rfl (hpre ⟨10, .data⟩ (by simp) rfl) rfl
      exact wpOp_move rfl rfl (.inr rfl) rfl ⟨_, rfl, hb, fun _ => e10, fun _ _ _ h => h⟩
  case fin =>
    intro listed a w' hI hall
    have hb := hI.inv
    have e2 : OwnB w' w.heap.size (a.eval (.tmp 2)) (l.drop i) := hI.slot 11 2 rfl (hall 11 (by decide)) rfl
    rcases a with ⟨T, D⟩
    obtain rfl : D = [] := hI.defers
    obtain ⟨t0, t1, t2, t3, t4, t5, t6, t7, t8, t9, t10, t11, t12, t13, t14, t15, t16, rfl⟩ := frame17 hI.len
    clear hI hall
    go_wp2
    go_ret
    exact ⟨_, rfl, e2, hb⟩
end
end Go.Proofs.YtjfpgclaefbhjaaDoor
