/- Layer 2: maps.Copy and maps.Clone over maps of pages. -/
import Derived.Maps.RangeWalk
import Derived.Shelf.SlMaps.Clone
import Derived.Test.YtkophpipehdkmaaDskWrite
namespace Go.Proofs.Ytkophpipehdkmaa
open Go.RowKit Go.Maps

theorem zero77w (w : World) : (zeroValue 66).run Try.prog w = .ok (pageV noughts) w := (zero_of_info zero77).1 w
def orF (fs fd : Nat → Option Value) : Nat → Option Value := fun k => (fs k).orElse fun _ => fd k
def midF (left : Lit → Bool) (fs fd : Nat → Option Value) : Nat → Option Value := fun k => if left (.int .i64 k) = true then fd k else (fs k).orElse fun _ => fd k
theorem midF_step (left : Lit → Bool) (fs fd : Nat → Option Value) (k : Nat) (c : Value) (hc : fs k = some c) : putAt (midF left fs fd) k c = midF (fun z => left z && !z.sameKey (.int .i64 k)) fs fd := by
  funext j
  unfold putAt midF
  by_cases hj : j = k
  · subst hj
    have : (Lit.int .i64 (j : Int)).sameKey (.int .i64 j) = true := WideAt.sameKey_self (by trivial)
    simp [this, hc]
  · have hne : (Lit.int .i64 (j : Int)).sameKey (.int .i64 k) = false := Maps.sameKey_ne (fun e => by
      have : (j : Int) = k := by injection e
      exact hj (by omega))
    simp [hj, hne]

set_option maxRecDepth 100000 in
set_option maxHeartbeats 4000000 in
theorem copy_any {w : World} {bd bs : Nat} {fd fs : Nat → Option Value} (hd : IntMap Try.prog 3 w bd fd) (hs : IntMap Try.prog 3 w bs fs) (hne : bd ≠ bs) (hfs : ∀ k v, fs k = some v → ∃ l : Page, l.length = 256 ∧ v = pageV l) :
    Calls Try.prog 40 #[.map (some bd), .map (some bs)] w fun e w' => e = .returned (.tuple #[]) ∧ IntMap Try.prog 3 w' bd (orF fs fd) ∧ w.grownBy w' (some bd) := by
  obtain ⟨Ds, hso, hsr⟩ := hs
  have hbd := hd.lt
  have hbs := hso.lt
  have K : Maps.Keyed Try.prog 3 := Maps.int_keyed Try.underlying3
  go_enter Try.func40, Try.ntmps40
  go_wp2_with (at_range; refine wpList_range_own _ rfl _ 59 rfl 3 66 K Try.underlying59 heldR bs 4096 _ rfl hso ?_; intro w0 hrg0 hg0 hs0)
  go_frame
  go_loopw [4, 5, 8] (fun _ _ _ wr => ∃ (left : Lit → Bool) (cnt : Nat), wr.ranges Try.prog 3 heldR bs w.heap.size 4096 Ds left cnt ∧ IntMap Try.prog 3 wr bd (midF left fs fd) ∧ w.grownBy wr (some bd))
    (fun _ _ _ wr => wr.rangeLeft bs w.heap.size)
  case atStart =>
    refine ⟨_, _, hrg0, ?_, hg0.but _⟩
    have e : midF (Maps.has Ds) fs fd = fd := by
      funext k
      unfold midF
      rw [hsr.has]
      cases h : fs k <;> simp
    rw [e]
    exact hd.kept hg0 (by simp)
  case round =>
    obtain ⟨left, cnt, hrg, hout, hgw⟩ := hrel
    go_wp2_with (at_next; refine wpList_next_ranges _ rfl _ rfl 3 K heldR (Value.int .i64) id (fun key kl hk => by obtain ⟨x, hx, _⟩ := Maps.keyOf_int_inv Try.underlying3 hk; exact ⟨x, hx⟩) (fun v _ _ => ⟨v, rfl⟩) bs w.heap.size 4096 _ _ _ rfl hrg ?_ ?_)
    · intro hc0 hl0
      have e : midF left fs fd = orF fs fd := by
        funext k; unfold midF orF; rw [hl0]; simp
      rw [e] at hout
      go_wp2
      go_end0
      exact ⟨rfl, hout, hgw⟩
    · intro x c kl yd yp w1 cnt1 hkey hlx hv hat hrg1 hlt hg1 hs1 hen
      have hb' := hout.kept hg1 (fun e => by have := Option.some.inj e; omega)
      obtain ⟨x', ex, rfl, -⟩ := Maps.keyOf_int_inv Try.underlying3 hkey
      cases ex
      obtain ⟨k, ek, hk⟩ := hsr.keys _ (Maps.has_true_of_atKey hat)
      obtain rfl : x = (k : Int) := by injection ek
      have hc : fs k = some c := by
        have h1 := hat .nil
        rw [hsr.at_] at h1
        unfold heldR at hv
        cases hv
        cases hf : fs k with
        | none => rw [hf] at h1; cases h1
        | some v' => rw [hf] at h1; injection h1 with h1; rw [h1]
      obtain ⟨l, hl, rfl⟩ := hfs k c hc
      have hP := PageAt.new' w1 l
      have hstep := midF_step left fs fd k (pageV l) hc
      have HS := Lib.hid hstep
      have HL := Lib.hid hl
      have HB := Lib.hid hbd
      have HBS := Lib.hid hbs
      have HZ := Lib.hid hs1
      have HA := Lib.hid hat
      have HGW := Lib.hid hgw
      clear hstep hl hc hlx hv hkey ek hat hs1 hs0 hgw
      have tokA : True := trivial
      have tokS : True := trivial
      have tokL : True := trivial
      have tokU : True := trivial
      go_wp2_with (first
        | (have _t := tokA; refine wpList_alloc77 rfl rfl ?_; clear tokA)
        | (have _t := tokS; refine wpList_store77 rfl _ _ rfl noughts l noughts_len HL.out rfl rfl ?_; clear tokS)
        | (have _t := tokL; refine wpList_load77 rfl _ rfl w1.heap.size l HL.out rfl hP ?_; clear tokL)
        | (have _t := tokU; refine wpList_update rfl _ _ _ rfl Try.underlying3 Try.underlying59 (hb'.alloc _) rfl k hk rfl ?_; intro w2 hM2 hG2; clear tokU))
      have hrg2 := (hrg1.alloc (.cells (pageCells l) 66)).kept hG2 (fun e => hne (Option.some.inj e).symm) (fun e => by have := Option.some.inj e; have := HB.out; omega)
      replace hM2 : IntMap Try.prog 3 w2 bd (putAt (midF left fs fd) k (pageV l)) := hM2
      rw [HS.out] at hM2
      refine ⟨⟨_, ⟨_, hrg2⟩, hM2, ?_⟩, ?_⟩
      · exact ((HGW.out.andThen hg1 (fun j hj => .inl (by cases hj; exact Nat.le_refl _))).andThen (World.grownBy_alloc w1 _ (some bd)) (fun j hj => .inr hj)).andThen hG2 (fun j hj => .inr hj)
      · rw [hrg2.left_eq, hrg.left_eq]; exact hlt

set_option maxRecDepth 100000 in
set_option maxHeartbeats 2000000 in
/-- maps.Clone: a new block with the same entries. -/
theorem clone_any {w : World} {b : Nat} {f : Nat → Option Value} (h : IntMap Try.prog 3 w b f) :
    Calls Try.prog 28 #[.map (some b)] w fun e w' => e = .returned (.map (some w.heap.size)) ∧ IntMap Try.prog 3 w' w.heap.size f ∧ Below w.heap.size w w' ∧ w'.heap.size = w.heap.size + 1 := by
  obtain ⟨es, clock, hb, hnew⟩ := h.copied
  have hq := fun w => run_eql_map_nil_sl (P := Try.prog) w 59 _ _ (some b) Try.underlying59
  have HN := Lib.hid hnew
  clear hnew
  go_enter Try.func28, Try.ntmps28
  go_wp2
  rw [run_callFunc_extern Try.func44 (by kernel_rfl) (by kernel_rfl) (by kernel_rfl) (e := Extern.MapsClone.clone) (by kernel_rfl), run_maps_clone_sl w 59 hb]
  simp only [Result.andThen]
  rw [Oper.upon_value]
  go_wp2
  rw [run_typeAssert_map_sl _ 59 20 _ _ _ Try.underlying59]
  simp only [Result.andThen]
  rw [Oper.upon_value]
  go_wp2
  go_ret
  exact ⟨rfl, HN.out, (Below.refl _ w).alloc (Nat.le_refl _) _, by simp⟩
end Go.Proofs.Ytkophpipehdkmaa
