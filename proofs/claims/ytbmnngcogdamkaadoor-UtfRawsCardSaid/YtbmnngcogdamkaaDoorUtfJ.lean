/- Layer 12: Raw. -/
import Derived.Lib.SlBytesConst
import Derived.Test.YtbmnngcogdamkaaDoorUtfH
import Derived.Test.YtbmnngcogdamkaaDoorUtfI
namespace Go.Proofs.YtbmnngcogdamkaaDoor
open Go.RowKit Go.Shelf

theorem conv_at (w : World) (ao : Option Addr) (l : List UInt8) (cap n₁ : Nat) (hm : BytesAt n₁ w ao l) : (convert 51 9 (.slice ao l.length cap)).run Tryd.prog w = .ok (.string ⟨l.toArray⟩) w := by
  cases l with
  | nil => cases ao <;> (simp [go_sem, convert, Conv.bytesToString]; try rfl)
  | cons x t =>
    obtain ⟨b, o, rfl, hb, hc⟩ := hm (by simp)
    generalize x :: t = l at hc
    have := run_convert_bytes_arg (P := Tryd.prog) (w := w) 51 5 Tryd.underlying51 Tryd.underlying5 b o l.length cap (l.map fun x => (x.toNat : Int)) (by simp) (fun i hi => by
      rw [hc i hi]
      simp [List.getD, hi]) 9 Tryd.underlying9
    rw [this]
    refine congrArg (fun s => Result.ok (Value.string s) w) ?_
    apply ByteArray.ext
    apply Array.toList_inj.1
    rw [strOfNums_data, List.map_map]
    show _ = l
    conv => rhs; rw [← List.map_id l]
    apply List.map_congr_left
    intro x _
    simp

/-- May runes, all of which may be, be said? -/
def okR (ns : List Nat) : Prop := (∀ r ∈ ns, 0 < r) ∧ (textR ns).length ≤ 65535
theorem okR_nil : okR [] := ⟨(fun _ h => by cases h), by decide⟩
theorem okR_take {ns : List Nat} (h : okR ns) (k : Nat) : okR (ns.take k) := ⟨fun r hr => h.1 r (List.mem_of_mem_take hr), Nat.le_trans (textR_take_le ns k) h.2⟩
def RawsPost (w : World) (ns : List Nat) (e : Ending) (w' : World) : Prop := (okR ns ∧ RawPost w (textR ns) 0 e w') ∨ (¬ okR ns ∧ RawPost w [] 220 e w')
def RawJ (w : World) (ns : List Nat) (a' : Act) (w' : World) : Prop := ¬ okR ns ∧ a'.defers = [] ∧ a'.tmps.size = 31 ∧ Below w.heap.size w w'
theorem raw_jump {w w' : World} {T : Array Value} (hT : T.size = 31) (hb : Below w.heap.size w w') :
    RawPost w [] 220 (.returned (.tuple #[((T.setIfInBounds 2 (Value.string { data := #[] })).setIfInBounds 3 (Value.int IntKind.i64 220)).getD 2 undef, ((T.setIfInBounds 2 (Value.string { data := #[] })).setIfInBounds 3 (Value.int IntKind.i64 220)).getD 3 undef])) w' := by
  refine ⟨?_, hb⟩
  simp [Array.getD_eq_getD_getElem?, hT]
set_option maxRecDepth 100000 in
set_option maxHeartbeats 4000000 in
theorem raw_bad (a : Option Addr) (rs : List Int) (c : Nat) (hc : rs.length ≤ 100000) (w : World) (hR : RnOn (Lt w.heap.size) w a rs) (hn : ¬ ∀ q ∈ rs, mayZ q = true) :
    Calls Tryd.prog 15 #[.slice a rs.length c] w fun e w' => RawPost w [] 2 e w' := by
  obtain ⟨w1, hw1⟩ : ∃ w1, w.alloc (.cells #[.slice a rs.length c] 23) = w1 := ⟨_, rfl⟩
  have hb1 : Below w.heap.size w w1 := by rw [← hw1]; exact (Below.refl _ w).alloc (Nat.le_refl _) _
  have HL := Lib.hid (look_any a rs c hc w w1 hw1 hR)
  have HA := Lib.hid (callsIn_wide.1 (all_in Fence.wide 4 trivial rfl a rs.length c w))
  have hf := filter_some hn
  have HB1 := Lib.hid hb1
  have HW := Lib.hid hw1
  unfold LookAt at HL
  generalize (rs.filter fun q => !mayZ q).length = m at *
  clear hR hn hb1 hw1
  go_enter Tryd.func15, Tryd.ntmps15
  go_wp2
  go_step3
  go_wp2_with (first
    | (go_at_call 24; refine HA.out.mono ?_; rintro e w' ⟨rfl, hw'⟩; obtain rfl : w1 = w' := HW.out.symm.trans hw'; clear hw')
    | (go_at_call 23; refine HL.out.mono ?_; rintro e w3 ⟨a', c', rfl, hb3⟩))
  rw [Exit.noGoto_ret]
  go_ret2
  exact ⟨rfl, HB1.out.trans (hb3.mono HB1.out.size)⟩
set_option maxRecDepth 100000 in
set_option maxHeartbeats 8000000 in
theorem raw_all (a : Option Addr) (ns : List Nat) (c : Nat) (hc : ns.length ≤ 100000) (w : World) (ht : Tabs w) (hR : RnOn (Lt w.heap.size) w a (ns.map fun (n : Nat) => (n : Int))) (hn : ∀ r ∈ ns, mayN r = true) :
    Calls Tryd.prog 15 #[.slice a ns.length c] w fun e w' => RawsPost w ns e w' := by
  have hlm : (ns.map fun (n : Nat) => (n : Int)).length = ns.length := List.length_map _
  have hmz : ∀ q ∈ ns.map fun (n : Nat) => (n : Int), mayZ q = true := by
    intro q hq
    obtain ⟨r, hr, rfl⟩ := List.mem_map.1 hq
    rw [mayZ_nat]; exact hn r hr
  obtain ⟨w1, hw1⟩ : ∃ w1, w.alloc (.cells #[.slice a ns.length c] 23) = w1 := ⟨_, rfl⟩
  have hb1 : Below w.heap.size w w1 := by rw [← hw1]; exact (Below.refl _ w).alloc (Nat.le_refl _) _
  have hL := look_any a (ns.map fun (n : Nat) => (n : Int)) c (by omega) w w1 (by rw [hlm]; exact hw1) hR
  unfold LookAt at hL
  rw [filter_none hmz] at hL
  have HL := Lib.hid hL
  have HA := Lib.hid (callsIn_wide.1 (all_in Fence.wide 4 trivial rfl a ns.length c w))
  have HB1 := Lib.hid hb1
  have HW := Lib.hid hw1
  have HN := Lib.hid hn
  have HT := Lib.hid ht
  have HR := Lib.hid hR
  have hbs := ht.two
  obtain ⟨B, hB⟩ : ∃ B, w.heap.size = B := ⟨_, rfl⟩
  have HBe := Lib.hid hB
  rw [hB] at hbs
  clear hR hn hb1 hw1 hlm hmz hL ht hB
  go_enter Tryd.func15, Tryd.ntmps15
  go_wp2
  refine wp_scope_jumps 0 (RawJ w ns) (fun _ _ => 0) rfl ?first ?pass
  case first =>
    go_wp2_with (first
      | (go_at_call 24; refine HA.out.mono ?_; rintro e w' ⟨rfl, hw'⟩; obtain rfl : w1 = w' := HW.out.symm.trans hw'; clear hw')
      | (go_at_call 23; refine HL.out.mono ?_; rintro e w3 ⟨a', c', rfl, hb3⟩))
    have HB3 := Lib.hid (show Below B w w3 by rw [← HBe.out]; exact HB1.out.trans (hb3.mono HB1.out.size))
    clear hb3
    go_loopw [4, 6, 14, 15, 16, 17, 18, 19, 20, 21, 22, 23, 24, 25, 26, 27, 28] (fun u _ x _ _ _ _ _ _ _ _ _ _ _ _ _ _ wr => ∃ k : Nat, x = .int .i64 k ∧ k ≤ ns.length ∧ OwnB wr B u (textR (ns.take k)) ∧ Below B w wr ∧ okR (ns.take k))
      (fun _ _ x _ _ _ _ _ _ _ _ _ _ _ _ _ _ _ => ns.length - (intOf x).toNat)
    case atStart => exact ⟨0, rfl, Nat.zero_le _, OwnB.nil _ _, HB3.out, okR_nil⟩
    case round =>
      obtain ⟨k, rfl, hk, hO, hBr, hok⟩ := hrel
      by_cases hlt : k < ns.length
      · obtain ⟨b, off, rfl, hb, hcl⟩ := HR.out.keeps (KeepsOn.of_below hBr fun b hb => by have : b < w.heap.size := hb; have := HBe.out; omega) (by intro e; have := congrArg List.length e; simp at this; rw [this] at hlt; simp at hlt)
        have hck := hcl k (by simpa using hlt)
        have hge : (ns.map fun (n : Nat) => (n : Int))[k]?.getD 0 = (ns[k] : Int) := by simp [hlt]
        rw [hge] at hck
        have hts : ns.take (k + 1) = ns.take k ++ [ns[k]] := List.take_succ_eq_append_getElem hlt
        have hmr := HN.out ns[k] (List.getElem_mem hlt)
        have htx : textR (ns.take (k + 1)) = textR (ns.take k) ++ rawR ns[k] := by rw [hts, textR_append, textR_one]
        generalize ns[k] = r at *
        have hlk : (k : Int) < ns.length := by omega
        have hLA := lay_any r hmr wr (HT.out.below hBr hbs) B u4 (textR (ns.take k)) hO hbs (by have := hBr.size; have := HBe.out; omega) (by have := hok.2; omega)
        rw [← htx] at hLA
        have HLA := Lib.hid hLA
        have hown := hO.block
        have HX := Lib.hid (And.intro hBr (And.intro hown (And.intro hok hts)))
        clear hLA hO hBr hcl hge hts htx hown hok hmr
        have hrl := rawR_length r
        by_cases hr0 : r = 0
        · have hno : ¬ okR ns := fun h => by
            have h2 := (okR_take h (k + 1)).1 r (by rw [HX.out.2.2.2]; simp)
            omega
          have HNO := Lib.hid hno
          have hz : ((r : Int) == 0) = true := by simpa using hr0
          clear hno hr0 hrl
          go_wp2_with (go_at_call 27; refine HLA.out.mono ?_; rintro e w4 ⟨v4, rfl, hO4, hG4⟩; have HO4 := Lib.hid (And.intro hO4 hG4); clear hO4 hG4)
          go_step3
          obtain ⟨hBr, hown, -⟩ := HX.out
          have h1 := HBe.out
          refine ⟨rfl, HNO.out, rfl, rfl, ?_⟩
          rw [h1]
          exact hBr.trans (HO4.out.2.below (by have := hBr.size; omega) hown)
        · have hz : ((r : Int) == 0) = false := by simpa using hr0
          by_cases hlen : 65535 < (textR (ns.take (k + 1))).length
          · have hno : ¬ okR ns := fun h => by have := (okR_take h (k + 1)).2; omega
            have HNO := Lib.hid hno
            clear hno hr0 hrl
            go_wp2_with (go_at_call 27; refine HLA.out.mono ?_; rintro e w4 ⟨v4, rfl, hO4, hG4⟩; obtain ⟨ao, cp, rfl, -⟩ := hO4.form; have HO4 := Lib.hid (And.intro hO4 hG4); clear hO4 hG4)
            go_step3
            obtain ⟨hBr, hown, -⟩ := HX.out
            have h1 := HBe.out
            refine ⟨rfl, HNO.out, rfl, rfl, ?_⟩
            rw [h1]
            exact hBr.trans (HO4.out.2.below (by have := hBr.size; omega) hown)
          · have hlen' : (textR (ns.take (k + 1))).length ≤ 65535 := by omega
            have hok2 : okR (ns.take (k + 1)) := ⟨fun x hx => by
              rw [HX.out.2.2.2] at hx
              rcases List.mem_append.1 hx with hx | hx
              · exact HX.out.2.2.1.1 x hx
              · obtain rfl : x = r := by simpa using hx
                omega, hlen'⟩
            have HOK := Lib.hid hok2
            clear hok2 hr0 hrl hlen
            go_wp2_with (go_at_call 27; refine HLA.out.mono ?_; rintro e w4 ⟨v4, rfl, hO4, hG4⟩; obtain ⟨ao, cp, rfl, -⟩ := hO4.form; have HO4 := Lib.hid (And.intro hO4 hG4); clear hO4 hG4)
            go_roundw
            case rel =>
              obtain ⟨hBr, hown, -⟩ := HX.out
              exact ⟨k + 1, by go_num, by omega, HO4.out.1, hBr.trans (HO4.out.2.below (by have := hBr.size; have := HBe.out; omega) hown), HOK.out⟩
            case measure => simp [intOf]; omega
      · obtain rfl : k = ns.length := by omega
        rw [List.take_length] at hO hok
        have hlk : ¬ ((ns.length : Int) < ns.length) := by omega
        obtain ⟨ao, cp, rfl, hm, -⟩ := hO.form
        have hcv := conv_at wr ao (textR ns) cp _ hm
        have HX := Lib.hid (And.intro hBr hok)
        clear hO hBr hok hm
        go_wp2
        simp only [Exit.jump]
        go_ret2
        exact .inl ⟨HX.out.2, rfl, by rw [HBe.out]; exact HX.out.1⟩
  case pass =>
    rintro ⟨T, D⟩ w' ⟨hno, hD, hT, hb⟩
    simp only at hD hT
    subst hD
    have HX := Lib.hid (And.intro hno (And.intro hT hb))
    clear hno hT hb
    go_wp2
    simp only [Exit.jump]
    go_ret2
    exact .inr ⟨HX.out.1, raw_jump HX.out.2.1 HX.out.2.2⟩
end Go.Proofs.YtbmnngcogdamkaaDoor
