/- Layer 15: All, Raw. -/
import Derived.Lib.SlBytesConst
import Derived.Test.YtmbjdfmbbmeofaaDoorLgB
import Derived.Test.YtmbjdfmbbmeofaaDoorWireB
import Derived.Lib.SmallJoins
import Derived.Below
namespace Go.Proofs.YtmbjdfmbbmeofaaDoor
open Go.RowKit

/-- From the slice's address on lie these numbers, in a block that K names. -/
def LgOn (K : Nat → Prop) (W : World) (a : Option Addr) (l : List Int) : Prop := l ≠ [] → ∃ b off, a = some ⟨b, off, none⟩ ∧ K b ∧ ∀ j, j < l.length → W.cell? ⟨b, off + j, none⟩ = some (.int .i64 (l[j]?.getD 0))
theorem LgOn.keeps {K : Nat → Prop} {A B : World} {a : Option Addr} {l : List Int} (h : KeepsOn K A B) (k : LgOn K A a l) : LgOn K B a l := fun hl => by
  obtain ⟨b, off, rfl, hb, hc⟩ := k hl
  exact ⟨b, off, rfl, hb, fun j hj => (h.cell hb).trans (hc j hj)⟩
def lgMay (n : Int) : Prop := 0 ≤ n ∧ n ≤ 268435455
/-- The bytes of lengths, one behind the other. -/
def lgAll (ns : List Int) : List UInt8 := ns.flatMap fun n => lgRaw n.toNat
theorem lgAll_snoc (ns : List Int) (n : Int) : lgAll (ns ++ [n]) = lgAll ns ++ lgRaw n.toNat := by simp [lgAll]
theorem lgAll_len (ns : List Int) : (lgAll ns).length ≤ 4 * ns.length := by
  induction ns with
  | nil => simp [lgAll]
  | cons n t ih =>
    have h1 := lgRaw_len n.toNat
    have h2 := lgSize_pos n.toNat
    simp only [lgAll, List.flatMap_cons, List.length_append, List.length_cons] at ih ⊢
    omega
def lgOk (ns : List Int) : Prop := ∀ n ∈ ns, lgMay n
def AllPost (w : World) (ns : List Int) (e : Ending) (w' : World) : Prop :=
  (lgOk ns ∧ ∃ v, e = .returned (.tuple #[v, .int .i64 0]) ∧ OwnB w' w.heap.size v (lgAll ns) ∧ Below w.heap.size w w') ∨ (¬ lgOk ns ∧ e = .returned (.tuple #[.slice none 0 0, .int .i64 2]) ∧ Below w.heap.size w w')
def AllJ (w : World) (ns : List Int) (a' : Act) (w' : World) : Prop := ¬ lgOk ns ∧ a'.defers = [] ∧ a'.tmps.size = 32 ∧ Below w.heap.size w w'
theorem all_jump {w w' : World} {ns : List Int} {T : Array Value} (hT : T.size = 32) (hn : ¬ lgOk ns) (hb : Below w.heap.size w w') :
    AllPost w ns (.returned (.tuple #[((T.setIfInBounds 2 (Value.slice none 0 0)).setIfInBounds 3 (Value.int IntKind.i64 2)).getD 2 undef, ((T.setIfInBounds 2 (Value.slice none 0 0)).setIfInBounds 3 (Value.int IntKind.i64 2)).getD 3 undef])) w' := by
  refine .inr ⟨hn, ?_, hb⟩
  simp [Array.getD_eq_getD_getElem?, hT]
set_option maxRecDepth 100000 in
set_option maxHeartbeats 2000000 in
theorem lgall_any (a : Option Addr) (ns : List Int) (c : Nat) (hc : ns.length ≤ 100000) (w : World) (ht : LgTab w) (hR : LgOn (fun k => k < w.heap.size) w a ns) :
    Calls Tryd.prog 13 #[.slice a ns.length c] w fun e w' => AllPost w ns e w' := by
  have HT := Lib.hid ht
  have HR := Lib.hid hR
  have hbs := ht.lt
  obtain ⟨B, hB⟩ : ∃ B, w.heap.size = B := ⟨_, rfl⟩
  have HBe := Lib.hid hB
  rw [hB] at hbs
  clear hR ht hB
  go_enter Tryd.func13, Tryd.ntmps13
  go_wp2
  refine wp_scope_jumps 0 (AllJ w ns) (fun _ _ => 0) rfl ?first ?pass
  case first =>
    go_wp2
    go_loopw [4, 6, 7, 8, 11, 12, 13, 14, 15, 16, 17, 18, 19, 20, 21, 22, 23, 24, 25, 26, 27, 28, 29, 30] (fun u _ _ _ x _ _ _ _ _ _ _ _ _ _ _ _ _ _ _ _ _ _ _ wr => ∃ k : Nat, x = .int .i64 k ∧ k ≤ ns.length ∧ OwnB wr B u (lgAll (ns.take k)) ∧ Below B w wr ∧ lgOk (ns.take k))
      (fun _ _ _ _ x _ _ _ _ _ _ _ _ _ _ _ _ _ _ _ _ _ _ _ _ => ns.length - (intOf x).toNat)
    case atStart => exact ⟨0, rfl, Nat.zero_le _, OwnB.nil _ _, by rw [← HBe.out]; exact Below.refl _ _, fun _ h => by cases h⟩
    case round =>
      obtain ⟨k, rfl, hk, hO, hBr, hok⟩ := hrel
      by_cases hlt : k < ns.length
      · obtain ⟨b, off, rfl, hb, hcl⟩ := HR.out.keeps (KeepsOn.of_below hBr fun b hb => by have : b < w.heap.size := hb; have := HBe.out; omega) (by intro e; rw [e] at hlt; simp at hlt)
        have hck := hcl k hlt
        have hge : ns[k]?.getD 0 = ns[k] := by simp [hlt]
        rw [hge] at hck
        have hts : ns.take (k + 1) = ns.take k ++ [ns[k]] := List.take_succ_eq_append_getElem hlt
        have htx : lgAll (ns.take (k + 1)) = lgAll (ns.take k) ++ lgRaw (ns[k]).toNat := by rw [hts, lgAll_snoc]
        have hle := lgAll_len (ns.take k)
        rw [List.length_take] at hle
        have hmem := List.getElem_mem hlt
        generalize ns[k] = r at *
        have hlk : (k : Int) < ns.length := by omega
        have HS := Lib.hid (size_any r wr (HT.out.below hBr hbs))
        have hHB := Nat.le_trans (Nat.le_of_eq HBe.out.symm) hBr.size
        by_cases hr : lgMay r
        · obtain ⟨m, rfl⟩ : ∃ m : Nat, r = m := ⟨r.toNat, by have := hr.1; omega⟩
          have hm : m ≤ 268435455 := by have := hr.2; omega
          rw [lgSz_nat hm] at HS
          have hsp := lgSize_pos m
          have HL := Lib.hid (fun j => lgRaw_step hm j)
          have HRL := Lib.hid (lgRaw_len m)
          simp only [Int.toNat_natCast] at htx
          have HX := Lib.hid (And.intro hBr (And.intro hok (And.intro hts (And.intro htx (And.intro hr hO)))))
          generalize lgSize m = n at *
          have hn0 : ((n : Int) == 0) = false := by simp; omega
          obtain ⟨N, hN⟩ : ∃ N, wr.heap.size = N := ⟨_, rfl⟩
          have HNe := Lib.hid hN
          have hBN : B ≤ N := by omega
          clear hcl hge hts htx hBr hok hr hO hHB hmem
          go_wp2_with (first
            | (go_at_call 10; refine HS.out.mono ?_; rintro e w' ⟨rfl, rfl⟩)
            | (go_at_call 16; refine (laid_lg _ _).mono ?_; rintro e w' ⟨rfl, hw2⟩; have HW2 := Lib.hid hw2; clear hw2))
          have hw0 : Boxed w' N 2 (.int .i64 m) := by rw [← HW2.out, ← HNe.out]; exact Boxed.new wr _ _
          have hb0 : Below B wr w' := by rw [← HW2.out]; exact (Below.refl _ _).alloc (by have := HNe.out; omega) _
          have HH := Lib.hid (And.intro hw0 hb0)
          obtain ⟨wq, hwq⟩ : ∃ wq, wr = wq := ⟨_, rfl⟩
          rw [hwq] at HX HS HW2 HNe HH
          clear hw0 hb0 hwq
          go_loopw [4, 22, 23, 24, 25, 26, 27, 28, 29] (fun u x _ _ _ _ _ _ _ wr => ∃ j : Nat, x = .int .i64 j ∧ j ≤ n ∧ Boxed wr N 2 (.int .i64 ((m / 128 ^ j : Nat) : Int)) ∧ OwnB wr B u (lgAll (ns.take k) ++ (lgRaw m).take j) ∧ Below B wq wr)
            (fun _ x _ _ _ _ _ _ _ _ => n - (intOf x).toNat)
          case atStart =>
            exact ⟨0, rfl, Nat.zero_le _, by simpa using HH.out.1, by rw [← HW2.out]; simpa using HX.out.2.2.2.2.2.alloc _, HH.out.2⟩
          case round =>
            obtain ⟨j, rfl, hj, hbx, hO, hbq⟩ := hrel
            by_cases hjn : j < n
            · have hlj : (j : Int) < n := by omega
              have hstep := HL.out j hjn
              have hmj : m / 128 ^ j ≤ 268435455 := Nat.le_trans (Nat.div_le_self _ _) hm
              have HNX := Lib.hid (next_any (m / 128 ^ j) N hmj wr hbx)
              have hnx := lgNext_lt (m / 128 ^ j)
              have hdv : m / 128 ^ j / 128 = m / 128 ^ (j + 1) := by rw [Nat.div_div_eq_div_mul, Nat.pow_succ]
              rw [hdv] at HNX
              generalize lgNext (m / 128 ^ j) = bb at *
              have hlen : ((lgAll (ns.take k)) ++ (lgRaw m).take j).length ≤ 1000000 := by
                rw [List.length_append, List.length_take]
                have := HRL.out
                omega
              have hgs := hbx.not_row (show 2 ≠ 5 by decide) hO
              have hO2 : OwnB (wr.setCell ⟨N, 0, none⟩ (.int .i64 ((m / 128 ^ (j + 1) : Nat) : Int))) B u4 (lgAll (ns.take k) ++ (lgRaw m).take j) := World.ownsRow.kept hO (grownBy_setCell' wr N _) (.inr (Ne.symm hgs))
              have hbx2 := hbx.set (.int .i64 ((m / 128 ^ (j + 1) : Nat) : Int))
              have hb2 : Below B wq (wr.setCell ⟨N, 0, none⟩ (.int .i64 ((m / 128 ^ (j + 1) : Nat) : Int))) := hbq.setCell hBN _
              have hsz : (wr.setCell ⟨N, 0, none⟩ (.int .i64 ((m / 128 ^ (j + 1) : Nat) : Int))).heap.size = wr.heap.size := by simp
              have hNw := hbx.lt
              obtain ⟨w4, hw4⟩ : ∃ w4, wr.setCell ⟨N, 0, none⟩ (.int .i64 ((m / 128 ^ (j + 1) : Nat) : Int)) = w4 := ⟨_, rfl⟩
              rw [hw4] at hO2 hbx2 hb2 hsz HNX
              have h1 := one_byte w4 (UInt8.ofNat bb)
              rw [ofNat_to hnx] at h1
              have hq : (lgAll (ns.take k) ++ (lgRaw m).take j).length + 1 ≤ 1099511627776 := by omega
              have OA := hO2.alloc (.cells #[.int .u8 (bb : Int)] 5)
              have hBw : B ≤ w4.heap.size := by omega
              have HY := Lib.hid (And.intro hbx2 (And.intro hb2 (And.intro hstep hO2)))
              have HS3 := Lib.hid (And.intro hw4 hsz)
              clear hbx2 hb2 hstep hO2 hdv hgs hO hbx hbq hlen hw4 hsz hnx
              go_wp2_with (first
                | (go_at_call 19; refine HNX.out.mono ?_; rintro e w' ⟨rfl, rfl⟩)
                | (at_builtin; refine wpList_append_goes rfl _ _ rfl B (w4.heap.size + 1) _ _ rfl OA ⟨w4.heap.size, 0, none⟩ [UInt8.ofNat bb] 1 rfl h1 hq (by simp; omega) ?_; intro v' w5 O' G' _))
              go_roundw
              case rel =>
                obtain ⟨hbx2, hb2, hstep, hO2⟩ := HY.out
                exact ⟨j + 1, by go_num, by omega, (hbx2.alloc _).kept G'.grown ((hbx2.alloc _).not_row (show 2 ≠ 5 by decide) OA), by rw [hstep, ← List.append_assoc]; exact O', hb2.trans (G'.alloc.below (by omega) hO2.block)⟩
              case measure => simp [intOf]; omega
            · obtain rfl : j = n := by omega
              have hlj : ¬ (j : Int) < j := by omega
              have HY := Lib.hid (And.intro hbx (And.intro hO hbq))
              clear hbx hO hbq
              go_wp2
              go_roundw
              case rel =>
                obtain ⟨hbx, hO, hbq⟩ := HY.out
                obtain ⟨hBr, hok, hts, htx, hr, -⟩ := HX.out
                rw [List.take_of_length_le (Nat.le_of_eq HRL.out)] at hO
                exact ⟨k + 1, by go_num, by omega, by rw [htx]; exact hO, hBr.trans hbq, fun x hx => by
                  rw [hts] at hx
                  rcases List.mem_append.1 hx with hx | hx
                  · exact hok x hx
                  · obtain rfl : x = (m : Int) := by simpa using hx
                    exact hr⟩
              case measure => simp [intOf]; omega
        · have hno : ¬ lgOk ns := fun h => hr (h r hmem)
          rw [lgSz_no (by unfold lgMay at hr; omega)] at HS
          have HX := Lib.hid (And.intro hBr hno)
          clear hge hts htx hBr hok hr hno hmem hle hcl hO
          go_wp2_with (first
            | (go_at_call 10; refine HS.out.mono ?_; rintro e w' ⟨rfl, rfl⟩)
            | (go_at_call 16; refine (laid_lg _ _).mono ?_; rintro e w' ⟨rfl, rfl⟩))
          go_step3
          obtain ⟨hBr, hno⟩ := HX.out
          refine ⟨rfl, hno, rfl, rfl, ?_⟩
          have h1 := HBe.out
          rw [h1]
          exact hBr.alloc (by omega) _
      · obtain rfl : k = ns.length := by omega
        rw [List.take_length] at hO hok
        have hlk : ¬ ((ns.length : Int) < ns.length) := by omega
        have HX := Lib.hid (And.intro hBr (And.intro hok hO))
        clear hO hBr hok
        go_wp2
        simp only [Exit.jump]
        go_ret2
        obtain ⟨hBr, hok, hO⟩ := HX.out
        exact .inl ⟨hok, _, rfl, by rw [HBe.out]; exact hO, by rw [HBe.out]; exact hBr⟩
  case pass =>
    rintro ⟨T, D⟩ w' ⟨hno, hD, hT, hb⟩
    simp only at hD hT
    subst hD
    have HX := Lib.hid (And.intro hno (And.intro hT hb))
    clear hno hT hb
    go_wp2
    simp only [Exit.jump]
    go_ret2
    exact all_jump HX.out.2.1 HX.out.1 HX.out.2.2
theorem lgRaw_any (n : Int) (w : World) (ht : LgTab w) : Calls Tryd.prog 8 #[.int .i64 n] w fun e w' => AllPost w [n] e w' := by
  obtain ⟨w1, hw1⟩ : ∃ w1, w.alloc (.cells #[.int .i64 n] 2) = w1 := ⟨_, rfl⟩
  have hb1 : Below w.heap.size w w1 := by rw [← hw1]; exact (Below.refl _ w).alloc (Nat.le_refl _) _
  have hA := lgall_any (some ⟨w.heap.size, 0, none⟩) [n] 1 (by simp) w1 (ht.below hb1 ht.lt) (fun _ => ⟨_, 0, rfl, by rw [← hw1]; simp, fun j hj => by
    simp at hj; subst hj; rw [← hw1]; simp⟩)
  have HA := Lib.hid hA
  have HW := Lib.hid (And.intro hw1 hb1)
  clear hA hw1 hb1 ht
  go_enter Tryd.func8, Tryd.ntmps8
  go_wp2_with fail
  rw [HW.out.1]
  refine HA.out.mono ?_
  rintro e w2 (⟨hok, v, rfl, hO, hb⟩ | ⟨hno, rfl, hb⟩)
  · obtain ⟨a', c', rfl, -⟩ := hO.form
    have HX := Lib.hid (And.intro hok (And.intro hO hb))
    clear hok hO hb
    go_wp2
    go_ret2
    obtain ⟨hok, hO, hb⟩ := HX.out
    exact .inl ⟨hok, _, rfl, Joins.ownsRow_le hO HW.out.2.size, HW.out.2.trans (hb.mono HW.out.2.size)⟩
  · have HX := Lib.hid (And.intro hno hb)
    clear hno hb
    go_wp2
    go_ret2
    exact .inr ⟨HX.out.1, rfl, HW.out.2.trans (HX.out.2.mono HW.out.2.size)⟩
end Go.Proofs.YtmbjdfmbbmeofaaDoor
