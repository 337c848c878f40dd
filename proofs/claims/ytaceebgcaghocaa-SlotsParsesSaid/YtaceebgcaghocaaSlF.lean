/- Layer 5: the bytes of cells, one by one (laid). -/
import Derived.Deep.RegionWith
import Derived.Deep.QuietTactic
import Derived.BigQuiet
import Derived.Deep.DeepCutAuto
import Derived.WalkSmall
import Derived.Test.YtaceebgcaghocaaStops
import Derived.Test.YtaceebgcaghocaaSlD
import Derived.Test.YtaceebgcaghocaaSlE
namespace Go.Proofs.Ytaceebgcaghocaa
open Go.RowKit

/-- A kind's own words: its bytes, and whether something was not within its bounds; what it has. -/
def handOf (leaf : Bool) (c : Cv) : List UInt8 × Bool := if leaf then leafHand c else branchHand c
def hasOf (leaf : Bool) (c : Cv) : Cv := if leaf then leafHas c else branchHas c
def CellOk (leaf : Bool) (c : Cv) : Prop := (hasOf leaf c).same c = true ∧ (handOf leaf c).2 = false
def Rises (L : List Cv) (j : Nat) : Prop := 0 < j → Op.bytesLess (L.getD (j - 1) default).key.toList (L.getD j default).key.toList = true
def OkUpto (leaf : Bool) (L : List Cv) (i : Nat) : Prop := ∀ j, j < i → CellOk leaf (L.getD j default) ∧ Rises L j
def RightC (k : Int) (L : List Cv) : Prop := (k = 2 ∨ k = 3) ∧ (k = 3 → L ≠ []) ∧ OkUpto (k == 2) L L.length
def bytesOf (leaf : Bool) (L : List Cv) : List (List UInt8) := L.map fun c => (handOf leaf c).1
def LaidC (w : World) (k : Int) (L : List Cv) (e : Ending) (w' : World) : Prop := Below w.heap.size w w' ∧
  ((RightC k L ∧ ∃ v, e = .returned (.tuple #[v, .bool true]) ∧ OwnL w' w.heap.size v (bytesOf (k == 2) L)) ∨ (¬ RightC k L ∧ e = .returned (.tuple #[.slice none 0 0, .bool false])))
/-- What holds where laid jumps to its last line. -/
def LaidJump (w : World) (k : Int) (x : Value) (a' : Act) (w' : World) : Prop :=
  Below w.heap.size w w' ∧ ∃ u2 u3 u4 u5 u6 u7 u8 u9 u10 u11 u12 u13 u14 u15 u16 u17 u18 u19 u20 u21 u22 u23 u24 u25 u26 u27 u28 u29 u30 u31 u32 u33 u34 u35 u36 u37 u38 u39 u40 u41 u42 u43 u44 u45 u46 u47 u48 u49 u50 u51 u52 u53 u54 u55 u56 u57 u58 u59 u60 u61 u62 u63 u64 u65 u66 u67 u68 u69 u70 u71 u72 u73 : Value, a' = { tmps := #[.int .i64 k, x, u2, u3, u4, u5, u6, u7, u8, u9, u10, u11, u12, u13, u14, u15, u16, u17, u18, u19, u20, u21, u22, u23, u24, u25, u26, u27, u28, u29, u30, u31, u32, u33, u34, u35, u36, u37, u38, u39, u40, u41, u42, u43, u44, u45, u46, u47, u48, u49, u50, u51, u52, u53, u54, u55, u56, u57, u58, u59, u60, u61, u62, u63, u64, u65, u66, u67, u68, u69, u70, u71, u72, u73], defers := [] }
theorem kindF_2 : kindF 2 = some (.func (.func 26) #[] #[]) := rfl
theorem kindF_3 : kindF 3 = some (.func (.func 27) #[] #[]) := rfl
theorem kindF_none {k : Int} (h2 : k ≠ 2) (h3 : k ≠ 3) : ∀ j : Nat, k = j → kindF j = none := fun j hj => by
  unfold kindF putAt
  rw [if_neg (by omega), if_neg (by omega)]
theorem take_map {α β : Type} (f : α → β) (L : List α) (k : Nat) (d : α) (h : k < L.length) : (L.take (k + 1)).map f = (L.take k).map f ++ [f (L.getD k d)] := by
  rw [List.take_add_one, List.getElem?_eq_getElem h, List.map_append]; simp only [Option.toList_some, List.map_cons, List.map_nil, List.getD, List.getElem?_eq_getElem h, Option.getD_some]
theorem eq_cell (c d : Cv) (w : World) : (Op.equalIn 10000 36 (cellv c) (cellv d)).run Try.prog w = .ok (c.same d) w := by
  rw [show (10000 : Nat) = 9999 + 1 from rfl, run_equalIn_agg _ _ _ _ _ (by kernel_rfl) (by kernel_rfl)]
  simp [go_sem, Op.eqFields, Cv.same]
  by_cases h1 : c.key.toList = d.key.toList <;> by_cases h2 : c.text.toList = d.text.toList <;> by_cases h3 : c.long = d.long <;> by_cases h4 : c.page = d.page <;> by_cases h5 : c.size = d.size <;> simp [h1, h2, h3, h4, h5]
theorem neq_cell (c d : Cv) (w : World) : (binOp .neq 36 (cellv c) (cellv d)).run Try.prog w = .ok (.bool (!c.same d)) w := by
  rw [run_neq_struct, eq_cell, Result.andThen_ok]
theorem less_not : ∀ a b : List UInt8, (Op.bytesLess a b || a == b) = !Op.bytesLess b a
  | [], [] => rfl
  | [], b :: y => rfl
  | a :: x, [] => rfl
  | a :: x, b :: y => by
    have ih := less_not x y
    simp only [Op.bytesLess]
    rcases Nat.lt_trichotomy a.toNat b.toNat with h | h | h
    · have h1 : a < b := h
      have h2 : ¬ b < a := by show ¬ b.toNat < a.toNat; omega
      have h3 : (b == a) = false := by simp; intro e; subst e; omega
      simp [h1, h2, h3]
    · obtain rfl : a = b := UInt8.toNat_inj.1 h
      have h1 : ¬ a < a := by show ¬ a.toNat < a.toNat; omega
      simp only [h1, decide_false, Bool.false_or, beq_self_eq_true, Bool.true_and]
      rw [← ih]; simp
    · have h1 : ¬ a < b := by show ¬ a.toNat < b.toNat; omega
      have h2 : b < a := h
      have h3 : (a == b) = false := by simp; intro e; subst e; omega
      have h4 : ((a :: x) == (b :: y)) = false := by simp; intro e; subst e; omega
      simp [h1, h2, h3, h4]
set_option maxRecDepth 100000 in
set_option maxHeartbeats 1000000 in
theorem laid_none (k : Int) (hw : (Lit.int .i64 k).wf = true) (hk2 : k ≠ 2) (hk3 : k ≠ 3) (w : World) (a : Option Addr) (L : List Cv) (cap : Nat) :
    Calls Try.prog 18 #[.int .i64 k, .slice a L.length cap] w fun e w' => LaidC w k L e w' := by
  have hno : ¬ RightC k L := fun h => by rcases h.1 with h | h; exact hk2 h; exact hk3 h
  have HK := Lib.hid (kindF_none hk2 hk3)
  have HN := Lib.hid hno
  clear hk2 hk3 hno
  go_enter Try.func18, Try.ntmps18
  go_wp2
  refine wp_scope_jumps 0 (LaidJump w k (.slice a L.length cap)) (fun _ _ => 0) rfl ?first ?pass
  case first =>
    go_wp2_with fail
    refine (kinds_any w).mono ?_
    rintro e w1 ⟨rfl, hm, hb⟩
    have HB := Lib.hid hb
    clear hb
    go_wp2_with (refine wpList_look_none rfl _ _ true rfl Try.underlying22 Try.underlying43 zeroPart hm rfl k hw HK.out rfl ?_; clear hm)
    go_step3
    exact ⟨rfl, HB.out, _, _, _, _, _, _, _, _, _, _, _, _, _, _, _, _, _, _, _, _, _, _, _, _, _, _, _, _, _, _, _, _, _, _, _, _, _, _, _, _, _, _, _, _, _, _, _, _, _, _, _, _, _, _, _, _, _, _, _, _, _, _, _, _, _, _, _, _, _, _, _, _, rfl⟩
  case pass =>
    rintro a' w' ⟨hb, u2, u3, u4, u5, u6, u7, u8, u9, u10, u11, u12, u13, u14, u15, u16, u17, u18, u19, u20, u21, u22, u23, u24, u25, u26, u27, u28, u29, u30, u31, u32, u33, u34, u35, u36, u37, u38, u39, u40, u41, u42, u43, u44, u45, u46, u47, u48, u49, u50, u51, u52, u53, u54, u55, u56, u57, u58, u59, u60, u61, u62, u63, u64, u65, u66, u67, u68, u69, u70, u71, u72, u73, rfl⟩
    have HB := Lib.hid hb
    clear hb
    go_wp2
    simp only [Exit.jump]
    go_ret2
    exact ⟨HB.out, .inr ⟨HN.out, rfl⟩⟩
set_option maxRecDepth 100000 in
set_option maxHeartbeats 1000000 in
theorem laid_empty (w : World) (a : Option Addr) (cap : Nat) :
    Calls Try.prog 18 #[.int .i64 3, .slice a 0 cap] w fun e w' => LaidC w 3 [] e w' := by
  have HN := Lib.hid (show ¬ RightC 3 [] from fun h => h.2.1 rfl rfl)
  go_enter Try.func18, Try.ntmps18
  go_wp2
  refine wp_scope_jumps 0 (LaidJump w 3 (.slice a 0 cap)) (fun _ _ => 0) rfl ?first ?pass
  case first =>
    go_wp2_with fail
    refine (kinds_any w).mono ?_
    rintro e w1 ⟨rfl, hm, hb⟩
    have HB := Lib.hid hb
    have hkf := kindF_3
    clear hb
    go_wp2_with (refine wpList_look rfl _ _ true rfl Try.underlying22 Try.underlying43 zeroPart hm rfl 3 (by omega) rfl ?_; rw [hkf]; simp only [Option.isSome_some, Option.getD_some, if_true]; clear hm hkf)
    go_step3
    exact ⟨rfl, HB.out, _, _, _, _, _, _, _, _, _, _, _, _, _, _, _, _, _, _, _, _, _, _, _, _, _, _, _, _, _, _, _, _, _, _, _, _, _, _, _, _, _, _, _, _, _, _, _, _, _, _, _, _, _, _, _, _, _, _, _, _, _, _, _, _, _, _, _, _, _, _, _, _, rfl⟩
  case pass =>
    rintro a' w' ⟨hb, u2, u3, u4, u5, u6, u7, u8, u9, u10, u11, u12, u13, u14, u15, u16, u17, u18, u19, u20, u21, u22, u23, u24, u25, u26, u27, u28, u29, u30, u31, u32, u33, u34, u35, u36, u37, u38, u39, u40, u41, u42, u43, u44, u45, u46, u47, u48, u49, u50, u51, u52, u53, u54, u55, u56, u57, u58, u59, u60, u61, u62, u63, u64, u65, u66, u67, u68, u69, u70, u71, u72, u73, rfl⟩
    have HB := Lib.hid hb
    clear hb
    go_wp2
    simp only [Exit.jump]
    go_ret2
    exact ⟨HB.out, .inr ⟨HN.out, rfl⟩⟩
end Go.Proofs.Ytaceebgcaghocaa
