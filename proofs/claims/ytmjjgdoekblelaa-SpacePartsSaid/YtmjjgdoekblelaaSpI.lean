/- Layer 7: Lasts, walked. -/
import Derived.Test.YtmjjgdoekblelaaSpH
namespace Go.Proofs.Ytmjjgdoekblelaa
open Go.RowKit Go.Maps

/-- Between its loops Lasts has a world in which the space's own map alone has turned. -/
structure LoopAt (w0 w : World) (bp : Nat) (f : Pl) : Prop where
  map : IntMap Try.prog 2 w bp (plV f)
  keeps : Beside [bp] w0 w
theorem LoopAt.row {w0 w : World} {bp B lh m h : Nat} {vl : Value} {f : Pl} (l : LoopAt w0 w bp f) (r : SpRow w0 B lh vl m h bp) (hne : B ≠ bp) : SpRow w B lh vl m h bp := (l.keeps.block B r.lt (by simpa using hne)).trans r
theorem of_len {s : Spc} (h : s.Ok) (ls : List Nat) : (s.of ls).length ≤ 4096 := by
  have h1 := ofL_len ls (pgL s.high s.now s.high)
  rw [pgL_len] at h1
  have := h.hi; have := h.most_hi
  unfold Spc.of; omega
set_option maxRecDepth 100000 in
set_option maxHeartbeats 4000000 in
theorem lasts_any {w : World} {B bl bp : Nat} {s : Spc} (h : SpAt w B bl bp s) :
    Calls Try.prog 23 #[ptr B] w fun e w' => e = .returned (.int .i64 0) ∧ ∃ bl', w.heap.size ≤ bl' ∧ SpAt w' B bl' bp s.lasts ∧ Beside [B, bp] w w' := by
  have ht := there_yes h.row h.pos
  have hnw := Lib.hid (new_pages h)
  have hpB := h.row.ne_map h.now
  have hlt0 := h.row.lt
  have hpl := h.now.lt
  have hll := h.last.lt
  have hmost := Nat.le_trans h.ok.hi h.ok.most_hi
  have hlen1 := of_len h.ok [2]
  go_enter Try.func23, Try.ntmps23
  go_wp2_with (first
    | (go_at_call 25; refine ht.mono ?_; rintro e w' ⟨rfl, rfl⟩)
    | (go_at_call 13; refine hnw.out.mono ?_; rintro e w1 ⟨v, rfl, hv, hb1⟩; obtain ⟨va, vc, rfl⟩ := row_slice hv))
  go_loopw [4, 13, 14, 15, 16, 17, 18, 19, 20, 21, 22] (fun _ x _ _ _ _ _ _ _ _ _ wr => ∃ k : Nat, x = .int .i64 k ∧ k ≤ (s.of [2]).length ∧ LoopAt w1 wr bp (delL s.now ((s.of [2]).take k)))
    (fun _ x _ _ _ _ _ _ _ _ _ _ => (s.of [2]).length - (intOf x).toNat)
  case atStart => exact ⟨0, rfl, Nat.zero_le _, by rw [List.take_zero, delL_nil]; exact (h.below hb1).now, Beside.refl _ _⟩
  case round =>
    obtain ⟨k, rfl, hk, hL⟩ := hrel
    have hrow := hL.row (h.below hb1).row hpB
    obtain ⟨-, -, -, -, c4, -⟩ := hrow.all
    by_cases hlt : k < (s.of [2]).length
    · obtain ⟨g, cap, ev, hg1, hg2⟩ := row_some hv (by omega)
      cases ev
      have hcell := (hL.keeps.block g hg2 (by simp; omega))
      have hc : wr.cell? ⟨g, k, none⟩ = some (.int .i64 ((s.of [2])[k]?.getD 0 : Nat)) := (World.cell?_of_block (a := ⟨g, k, none⟩) hcell).trans (row_nat hv hlt)
      have htk := nat_take hlt
      have hmem : (s.of [2])[k]?.getD 0 ∈ s.of [2] := by rw [List.getElem?_eq_getElem hlt]; exact List.getElem_mem hlt
      obtain ⟨q, hq⟩ : ∃ q, (s.of [2])[k]?.getD 0 = q := ⟨_, rfl⟩
      rw [hq] at hc htk hmem
      have hq4 : q ≤ 9223372036854775807 := by have := (mem_of.1 hmem).2.1; omega
      have HT := Lib.hid htk
      have HL := Lib.hid hL
      have HV := Lib.hid hv
      have HH := Lib.hid h
      clear htk hq hmem hL hv h hcell hrow
      go_wp2_with (refine wpList_drop rfl _ _ rfl Try.underlying2 Try.underlying55 HL.out.map rfl q hq4 rfl ?_; intro w2 hM2 hG2)
      refine ⟨⟨k + 1, by go_num, by omega, ?_, HL.out.keeps.grown hG2 (fun j e => by cases e; exact .inl (by simp))⟩, ?_⟩
      · rw [HT.out]; rw [delL_snoc] at hM2; exact hM2
      · simp [intOf]; omega
    · obtain rfl : k = (s.of [2]).length := by omega
      obtain ⟨wo, rfl⟩ : ∃ wo : World, wo = wr := ⟨_, rfl⟩
      have hmid : SpAt wo B bl bp s.mid := ⟨h.ok.mid, hrow, (h.below hb1).last.at_block (hL.keeps.block bl (Nat.lt_of_lt_of_le hll hb1.size) (by simpa using h.ne)), by have := hL.map; rw [List.take_length] at this; exact this, h.ne⟩
      have hb2 : Beside [bp] w wo := (Beside.of_below hb1 [bp]).trans hL.keeps (fun j hj => .inl hj)
      have hhd := Lib.hid (held_any hmid)
      have hlen2 := of_len h.ok.mid [3]
      have hlh : s.mid.lhigh = s.lhigh := rfl
      have H0 := Lib.hid h
      have HMID := Lib.hid hmid
      clear hL hv h hlt hk hrow c4 hlh
      go_wp2_with (go_at_call 14; refine hhd.out.mono ?_; rintro e w3 ⟨v, rfl, hv, hb3⟩; obtain ⟨va, vc, rfl⟩ := row_slice hv)
      go_loopw [6, 26, 27, 28, 29, 30, 31, 32, 33, 34, 35] (fun _ x _ _ _ _ _ _ _ _ _ wq => ∃ k : Nat, x = .int .i64 k ∧ k ≤ (s.mid.of [3]).length ∧ LoopAt w3 wq bp (putL s.mid.now ((s.mid.of [3]).take k) 4))
        (fun _ x _ _ _ _ _ _ _ _ _ _ => (s.mid.of [3]).length - (intOf x).toNat)
      case atStart => exact ⟨0, rfl, Nat.zero_le _, by rw [List.take_zero, putL_nil]; exact (HMID.out.below hb3).now, Beside.refl _ _⟩
      case round =>
        obtain ⟨k, rfl, hk, hL⟩ := hrel
        have hrow := hL.row (HMID.out.below hb3).row hpB
        obtain ⟨-, -, -, -, c4, -⟩ := hrow.all
        by_cases hlt : k < (s.mid.of [3]).length
        · obtain ⟨g, cap, ev, hg1, hg2⟩ := row_some hv (by omega)
          cases ev
          have hbpo := HMID.out.now.lt
          have hcell := (hL.keeps.block g hg2 (by simp; omega))
          have hc : wr.cell? ⟨g, k, none⟩ = some (.int .i64 ((s.mid.of [3])[k]?.getD 0 : Nat)) := (World.cell?_of_block (a := ⟨g, k, none⟩) hcell).trans (row_nat hv hlt)
          have htk := nat_take hlt
          have hmem : (s.mid.of [3])[k]?.getD 0 ∈ s.mid.of [3] := by rw [List.getElem?_eq_getElem hlt]; exact List.getElem_mem hlt
          obtain ⟨q, hq⟩ : ∃ q, (s.mid.of [3])[k]?.getD 0 = q := ⟨_, rfl⟩
          rw [hq] at hc htk hmem
          have hq4 : q < 4096 := by have := (mem_of.1 hmem).2.1; have : s.mid.high = s.high := rfl; omega
          have HT := Lib.hid htk
          have HL := Lib.hid hL
          have HV := Lib.hid hv
          clear htk hq hmem hL hv hcell hrow
          go_wp2_with (refine wpList_update rfl _ _ _ rfl Try.underlying2 Try.underlying55 HL.out.map rfl q hq4 rfl ?_; intro w2 hM2 hG2)
          refine ⟨⟨k + 1, by go_num, by omega, ?_, HL.out.keeps.grown hG2 (fun j e => by cases e; exact .inl (by simp))⟩, ?_⟩
          · rw [HT.out]; rw [show (Act.eval _ _ : Value) = .int .i64 ((4 : Nat) : Int) from rfl, putL_snoc] at hM2; exact hM2
          · simp [intOf]; omega
        · obtain rfl : k = (s.mid.of [3]).length := by omega
          have hrow' : SpRow wr B s.lhigh (.map (some bl)) s.most s.high bp := hrow
          have hmap := hL.map
          rw [List.take_length, lasted_eq H0.out.ok] at hmap
          have hkp := Lib.hid (keep_any hrow' hmap)
          have HL := Lib.hid hL
          have HM := Lib.hid hmap
          have HR := Lib.hid hrow'
          clear hL hmap hrow hrow' hlt hk
          go_wp2_with (go_at_call 24; refine hkp.out.mono ?_; rintro e w5 ⟨rfl, hr5, hm5, hb5⟩)
          go_ret
          have hbp5 : wr.heap[bp]? = wr.heap[bp]? := rfl
          have hx : Beside [B, bp] w wr := (Beside.trans hb2 (Beside.of_below hb3 []) (by simp)).trans HL.out.keeps (fun j hj => .inl hj) |> fun q => ⟨q.os, q.tape, q.output, q.size, fun k hk hn => q.block k hk (by simp at hn ⊢; exact hn.2)⟩
          have hbpr := HM.out.lt
          refine ⟨rfl, wr.heap.size, hx.size, ⟨H0.out.ok.lasts, hr5, hm5, HM.out.at_block (hb5.block bp hbpr (by simpa using hpB.symm)), by omega⟩, hx.trans hb5 (fun j hj => .inl (by simp at hj ⊢; exact .inl hj))⟩
end Go.Proofs.Ytmjjgdoekblelaa
