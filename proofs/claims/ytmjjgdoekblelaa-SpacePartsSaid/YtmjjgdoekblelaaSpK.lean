/- Layer 7: New. -/
import Derived.ScopeJumps
import Derived.Test.YtmjjgdoekblelaaSpJ
namespace Go.Proofs.Ytmjjgdoekblelaa
open Go.RowKit Go.Maps

/-- From the slice's address on lie these numbers, in a block below n₀. -/
def IntsAt (n₀ : Nat) (W : World) (a : Option Addr) (l : List Int) : Prop := l ≠ [] → ∃ b off, a = some ⟨b, off, none⟩ ∧ b < n₀ ∧ ∀ j, j < l.length → W.cell? ⟨b, off + j, none⟩ = some (.int .i64 (l[j]?.getD 0))
theorem IntsAt.below {n₀ : Nat} {A B : World} {a : Option Addr} {l : List Int} (h : Below n₀ A B) (k : IntsAt n₀ A a l) : IntsAt n₀ B a l := fun hl => by
  obtain ⟨b, off, rfl, hb, hc⟩ := k hl
  exact ⟨b, off, rfl, hb, fun j hj => (h.cell (p := ⟨b, off + j, none⟩) hb).trans (hc j hj)⟩
/-- These numbers rise, from 2 on, below h. -/
def Rise (h : Int) (l : List Int) : Prop := (∀ x ∈ l, 2 ≤ x ∧ x < h) ∧ l.Pairwise (· < ·)
def NewOk (m h : Int) (l : List Int) : Prop := 2 ≤ m ∧ m ≤ 4096 ∧ 2 ≤ h ∧ h ≤ m ∧ Rise h l
def newPl (l : List Int) : Pl := fun k => if (k : Int) ∈ l then some 4 else none
def Spc.new (m h : Nat) (l : List Int) : Spc := { most := m, lhigh := h, high := h, last := newPl l, now := newPl l }
theorem newPl_nil : newPl [] = fun _ => none := by funext k; simp [newPl]
theorem newPl_snoc (l : List Int) (k : Nat) : plPut (newPl l) k 4 = newPl (l ++ [(k : Int)]) := by
  funext j; unfold plPut newPl
  by_cases hj : j = k
  · simp [hj]
  · have : (j : Int) ≠ k := by omega
    simp [hj, this]
theorem Rise.snoc {h : Int} {l : List Int} {x : Int} (hl : Rise h l) (h2 : 2 ≤ x) (hx : x < h) (hlt : ∀ y ∈ l, y < x) : Rise h (l ++ [x]) := by
  refine ⟨fun y hy => ?_, List.pairwise_append.2 ⟨hl.2, List.pairwise_singleton _ _, fun y hy z hz => ?_⟩⟩
  · rcases List.mem_append.1 hy with hy | hy
    · exact hl.1 y hy
    · rw [List.mem_singleton.1 hy]; exact ⟨h2, hx⟩
  · rw [List.mem_singleton.1 hz]; exact hlt y hy
theorem int_take {l : List Int} {k : Nat} (hk : k < l.length) : l.take (k + 1) = l.take k ++ [l[k]?.getD 0] := by
  rw [List.take_succ_eq_append_getElem hk]; simp [hk]
theorem Rise.take {h : Int} {l : List Int} (hl : Rise h l) (k : Nat) : Rise h (l.take k) := ⟨fun x hx => hl.1 x (List.mem_of_mem_take hx), hl.2.sublist (List.take_sublist _ _)⟩
/-- Of numbers that rise all ahead of one are less. -/
theorem Rise.lt {h : Int} {l : List Int} (hl : Rise h l) {k : Nat} (hk : k < l.length) : ∀ y ∈ l.take k, y < l[k]?.getD 0 := by
  have := (hl.take (k + 1)).2
  rw [int_take hk] at this
  exact fun y hy => (List.pairwise_append.1 this).2.2 y hy _ (by simp)
theorem le_last {h : Int} {l : List Int} (hl : Rise h l) {k : Nat} (hk : k < l.length) : ∀ y ∈ l.take (k + 1), y ≤ l[k]?.getD 0 := by
  intro y hy
  rw [int_take hk] at hy
  rcases List.mem_append.1 hy with hy | hy
  · exact Int.le_of_lt (hl.lt hk y hy)
  · rw [List.mem_singleton.1 hy]; exact Int.le_refl _
theorem new_ok {m h : Nat} {l : List Int} (hk : NewOk m h l) : (Spc.new m h l).Ok := by
  obtain ⟨h1, h2, h3, h4, h5⟩ := hk
  have hp : ∀ k p, newPl l k = some p → 2 ≤ k ∧ k < h ∧ p = 4 := fun k p hk => by
    unfold newPl at hk
    split at hk
    · rename_i hm
      cases hk
      have := h5.1 _ hm
      exact ⟨by omega, by omega, rfl⟩
    · cases hk
  exact ⟨by show m ≤ 4096; omega, by show 2 ≤ h; omega, Nat.le_refl _, by show h ≤ m; omega, fun k p hk => by obtain ⟨a, b, c⟩ := hp k p hk; exact ⟨a, b, .inr (.inr c)⟩, hp⟩
theorem isP_one {h : Nat} {t : List Int} {x : Int} : isP h (newPl t) x = 1 ↔ 2 ≤ x ∧ x < h ∧ x ∉ t := by
  unfold isP newPl
  by_cases hx : 2 ≤ x ∧ x < h
  · rw [if_pos hx]
    have e : ((x.toNat : Nat) : Int) = x := by omega
    rw [e]
    by_cases hm : x ∈ t
    · simp [hm]
    · simp [hm, hx]
  · rw [if_neg hx]
    constructor
    · intro h; cases h
    · rintro ⟨a, b, -⟩; exact absurd ⟨a, b⟩ hx
theorem rise_is {h : Nat} {l : List Int} (hl : Rise h l) {k : Nat} (hk : k < l.length) : isP h (newPl (l.take k)) (l[k]?.getD 0) = 1 := by
  have hm : l[k]?.getD 0 ∈ l := by rw [List.getElem?_eq_getElem hk]; exact List.getElem_mem hk
  exact isP_one.2 ⟨(hl.1 _ hm).1, (hl.1 _ hm).2, fun hin => by have := hl.lt hk _ hin; omega⟩
theorem HB5w (w wr w5 : World) (N0 : Nat) (h : Below N0 w wr) (hb : Beside [N0 + 1] wr w5) (hn : N0 ≤ wr.heap.size) : Below N0 w w5 :=
  h.trans (hb.below hn (fun k hk => by simp at hk; omega))
/-- What New leaves. -/
def NewPost (w : World) (m h : Int) (l : List Int) (e : Ending) (w' : World) : Prop := Below w.heap.size w w' ∧
  ((NewOk m h l ∧ ∃ B bl bp, e = .returned (.tuple #[ptr B, .int .i64 0]) ∧ w.heap.size ≤ B ∧ w.heap.size ≤ bl ∧ w.heap.size ≤ bp ∧ SpAt w' B bl bp (Spc.new m.toNat h.toNat l)) ∨
   (¬ NewOk m h l ∧ e = .returned (.tuple #[.pointer none, .int .i64 2])))
def NewJump (w : World) (m h : Int) (l : List Int) (a : Act) (w' : World) : Prop := Below w.heap.size w w' ∧ ¬ NewOk m h l ∧ a.tmps.size = 62 ∧ a.defers = []
set_option maxRecDepth 100000 in
set_option maxHeartbeats 4000000 in
theorem new_any (m h : Int) (ao : Option Addr) (l : List Int) (cap : Nat) (hcap : l.length ≤ 9223372036854775807) (w : World) (hl : IntsAt w.heap.size w ao l) :
    Calls Try.prog 7 #[.int .i64 m, .int .i64 h, .slice ao l.length cap] w fun e w' => NewPost w m h l e w' := by
  have hmm := @run_makeMap Try.prog
  have hm0 := IntMap.made (P := Try.prog) (kT := 2) w
  go_enter Try.func7, Try.ntmps7
  go_wp2
  refine wp_scope_jumps 0 (NewJump w m h l) (fun _ _ => 0) rfl ?first ?pass
  case pass =>
    rintro a' w' ⟨hb, hno, hsz, hd⟩
    go_wp2
    simp only [Exit.jump]
    refine bodyPost_ret (results_tmp2 rfl _ _ _) rfl ?_
    exact ⟨hb, .inr ⟨hno, by simp [hsz]⟩⟩
  case first =>
    have hb1 : Below w.heap.size w ((w.alloc (.map #[] 0)).alloc (.cells #[.int .i64 0, .map none, .int .i64 m, .int .i64 h, .map (some w.heap.size)] 59)) := ((Below.refl _ w).alloc (Nat.le_refl _) _).alloc (by simp) _
    by_cases h1 : m < 2
    · have hno : ¬ NewOk m h l := fun q => by have := q.1; omega
      have HB := Lib.hid (And.intro hb1 hno)
      clear hb1 hno
      go_wp2
      go_step3
      exact ⟨rfl, HB.out.1, HB.out.2, rfl, rfl⟩
    by_cases h2 : 4096 < m
    · have hno : ¬ NewOk m h l := fun q => by have := q.2.1; omega
      have HB := Lib.hid (And.intro hb1 hno)
      clear hb1 hno
      go_wp2
      go_step3
      exact ⟨rfl, HB.out.1, HB.out.2, rfl, rfl⟩
    by_cases h3 : h < 2
    · have hno : ¬ NewOk m h l := fun q => by have := q.2.2.1; omega
      have HB := Lib.hid (And.intro hb1 hno)
      clear hb1 hno
      go_wp2
      go_step3
      exact ⟨rfl, HB.out.1, HB.out.2, rfl, rfl⟩
    by_cases h4 : m < h
    · have hno : ¬ NewOk m h l := fun q => by have := q.2.2.2.1; omega
      have HB := Lib.hid (And.intro hb1 hno)
      clear hb1 hno
      go_wp2
      go_step3
      exact ⟨rfl, HB.out.1, HB.out.2, rfl, rfl⟩
    obtain ⟨mn, rfl⟩ : ∃ mn : Nat, m = mn := ⟨m.toNat, by omega⟩
    obtain ⟨hn, rfl⟩ : ∃ hn : Nat, h = hn := ⟨h.toNat, by omega⟩
    have HB := Lib.hid hb1
    have HM := Lib.hid hm0
    have HL := Lib.hid hl
    clear hb1 hm0 hl
    have hB1 : SpRow ((w.alloc (.map #[] 0)).alloc (.cells #[.int .i64 0, .map none, .int .i64 mn, .int .i64 hn, .map (some w.heap.size)] 59)) (w.heap.size + 1) 0 (.map none) mn hn w.heap.size := by
      have := (MapKept.heap_alloc (w.alloc (.map #[] 0)) (.cells #[.int .i64 0, .map none, .int .i64 mn, .int .i64 hn, .map (some w.heap.size)] 59)).1
      rw [World.size_alloc] at this
      exact this
    have HB1 := Lib.hid hB1
    clear hB1
    go_wp2_with fail
    obtain ⟨N0, hN0⟩ : ∃ N0, w.heap.size = N0 := ⟨_, rfl⟩
    have hr1 := HB1.out
    have hm1 := HM.out.alloc (.cells #[.int .i64 0, .map none, .int .i64 mn, .int .i64 hn, .map (some w.heap.size)] 59)
    have hb1 := HB.out
    rw [hN0] at hr1 hm1 hb1
    rw [hN0]
    generalize ((w.alloc (.map #[] 0)).alloc (.cells #[.int .i64 0, .map none, .int .i64 mn, .int .i64 hn, .map (some N0)] 59)) = W1 at hr1 hm1 hb1 ⊢
    have HL1 := Lib.hid (show IntsAt N0 W1 ao l from by have := HL.out; rw [hN0] at this; exact this.below hb1)
    have hN0' := Lib.hid hN0
    clear HB HB1 HM HL hN0
    go_loopw [9, 10, 31, 32, 33, 34, 35, 36, 37, 38, 39, 40, 41, 42, 43, 44, 45, 46, 47, 48, 49, 50, 51, 52, 53, 54, 55, 56, 57, 58] (fun _ _ x _ _ _ _ _ _ _ _ _ _ _ _ _ _ _ _ _ _ _ _ _ _ _ _ _ _ _ wr => ∃ k : Nat, x = .int .i64 k ∧ k ≤ l.length ∧ Rise hn (l.take k) ∧ SpRow wr (N0 + 1) 0 (.map none) mn hn N0 ∧ IntMap Try.prog 2 wr N0 (plV (newPl (l.take k))) ∧ Below N0 w wr ∧ Below N0 W1 wr)
      (fun _ _ x _ _ _ _ _ _ _ _ _ _ _ _ _ _ _ _ _ _ _ _ _ _ _ _ _ _ _ _ => l.length - (intOf x).toNat)
    case atStart =>
      refine ⟨0, rfl, Nat.zero_le _, ⟨by simp, by simp⟩, hr1, ?_, hb1, Below.refl _ _⟩
      rw [List.take_zero, newPl_nil]; exact hm1
    case round =>
      obtain ⟨k, rfl, hk, hR, hrow, hmap, hbw, hb1r⟩ := hrel
      obtain ⟨-, -, -, -, c4, -⟩ := hrow.all
      by_cases hlt : k < l.length
      · obtain ⟨b, off, rfl, hbN, hcs⟩ := HL1.out (by rintro rfl; simp at hlt)
        have hc := (hb1r.cell (p := ⟨b, off + k, none⟩) hbN).trans (hcs k hlt)
        have htk := int_take hlt
        have hLt := @Rise.lt hn l
        obtain ⟨x, hx⟩ : ∃ x, l[k]?.getD 0 = x := ⟨_, rfl⟩
        rw [hx] at hc htk
        have hI := is_yes hrow (by omega) hmap x (by omega)
        have hone := @isP_one hn (l.take k) x
        have hris : Rise hn l → isP hn (newPl (l.take k)) x = 1 := fun hr => by have := rise_is hr hlt; rwa [hx] at this
        have hbelow : Rise hn l → ∀ y ∈ l.take k, y < x := fun hr y hy => by have := hr.lt hlt y hy; rwa [hx] at this
        obtain ⟨q, hq⟩ : ∃ q, isP hn (newPl (l.take k)) x = q := ⟨_, rfl⟩
        rw [hq] at hI hone hris
        by_cases hq1 : q = 1
        · subst hq1
          obtain ⟨hx2, hxh, hxt⟩ := hone.1 rfl
          obtain ⟨xn, rfl⟩ : ∃ xn : Nat, x = xn := ⟨x.toNat, by omega⟩
          have hx4 : xn < 4096 := by omega
          have fin : (∀ y ∈ l.take k, y < (xn : Int)) → Rise hn (l.take (k + 1)) := fun hy => by rw [htk]; exact hR.snoc hx2 hxh hy
          have HT := Lib.hid htk
          have HH := Lib.hid (And.intro hrow (And.intro hbw hb1r))
          have HMM := Lib.hid hmap
          have HII := Lib.hid hI
          by_cases hk0 : (0 : Int) < k
          · have hkl : k - 1 < l.length := by omega
            have hcj := (hb1r.cell (p := ⟨b, off + (k - 1), none⟩) hbN).trans (hcs (k - 1) hkl)
            have hle : ∀ z ∈ l.take k, z ≤ l[k - 1]?.getD 0 := fun z hz => by
              have hsub : l.take k = (l.take k).take ((k - 1) + 1) := by rw [List.take_take, show min (k - 1 + 1) k = k by omega]
              rw [hsub] at hz
              have := le_last hR (k := k - 1) (by rw [List.length_take]; omega) z hz
              rwa [List.getElem?_take, if_pos (by omega)] at this
            have hmj : l[k - 1]?.getD 0 ∈ l.take k := by
              have e : (l.take k)[k - 1]? = l[k - 1]? := by rw [List.getElem?_take, if_pos (by omega)]
              rw [← e, List.getElem?_eq_getElem (by rw [List.length_take]; omega)]; exact List.getElem_mem _
            obtain ⟨y, hy⟩ : ∃ y, l[k - 1]?.getD 0 = y := ⟨_, rfl⟩
            rw [hy] at hcj hle hmj
            by_cases hlty : (xn : Int) < y
            · have hno : ¬ NewOk mn hn l := fun q => by have := hbelow q.2.2.2.2 y hmj; omega
              have HNO := Lib.hid hno
              clear hone hris hbelow hq htk hx hR hrow hbw hb1r hmap hLt hcs hxt hI fin hle hmj hy hno
              go_wp2_with (first
                | (go_at_call 9; refine HII.out.mono ?_; rintro e w' ⟨rfl, rfl⟩))
              go_step3
              exact ⟨rfl, by rw [hN0'.out]; exact HH.out.2.1, HNO.out, rfl, rfl⟩
            · have HS := Lib.hid (fin (fun z hz => by
                have h1 := hle z hz
                by_cases e : z = xn
                · subst e; exact absurd hz hxt
                · omega))
              clear hone hris hbelow hq htk hx hR hrow hbw hb1r hmap hLt hcs hxt hI fin hle hmj hy
              go_wp2_with (first
                | (go_at_call 9; refine HII.out.mono ?_; rintro e w' ⟨rfl, rfl⟩)
                | (refine wpList_update rfl _ _ _ rfl Try.underlying2 Try.underlying55 HMM.out rfl xn hx4 rfl ?_; intro w2 hM2 hG2))
              refine ⟨⟨k + 1, by go_num, by omega, HS.out, ?_, ?_, ?_, ?_⟩, by simp [intOf]; omega⟩
              · exact (hG2.block _ HH.out.1.lt (fun e => by have := Option.some.inj e; omega)).trans HH.out.1
              · rw [HT.out, ← newPl_snoc, ← plV_put]; exact hM2
              · exact HH.out.2.1.grown hG2 (by have := HMM.out.lt; omega) (fun q e => by cases e; exact Nat.le_refl _)
              · exact HH.out.2.2.grown hG2 (by have := HMM.out.lt; omega) (fun q e => by cases e; exact Nat.le_refl _)
          · have HS := Lib.hid (fin (fun z hz => by rw [show k = 0 by omega] at hz; simp at hz))
            clear hone hris hbelow hq htk hx hR hrow hbw hb1r hmap hLt hcs hxt hI fin
            go_wp2_with (first
              | (go_at_call 9; refine HII.out.mono ?_; rintro e w' ⟨rfl, rfl⟩)
              | (refine wpList_update rfl _ _ _ rfl Try.underlying2 Try.underlying55 HMM.out rfl xn hx4 rfl ?_; intro w2 hM2 hG2))
            refine ⟨⟨k + 1, by go_num, by omega, HS.out, ?_, ?_, ?_, ?_⟩, by simp [intOf]; omega⟩
            · exact (hG2.block _ HH.out.1.lt (fun e => by have := Option.some.inj e; omega)).trans HH.out.1
            · rw [HT.out, ← newPl_snoc, ← plV_put]; exact hM2
            · exact HH.out.2.1.grown hG2 (by have := HMM.out.lt; omega) (fun q e => by cases e; exact Nat.le_refl _)
            · exact HH.out.2.2.grown hG2 (by have := HMM.out.lt; omega) (fun q e => by cases e; exact Nat.le_refl _)
        · have hno : ¬ NewOk mn hn l := fun hk => hq1 (hris hk.2.2.2.2)
          have hq1' : ((q : Int) != 1) = true := by simp; omega
          have HH := Lib.hid (And.intro hbw hno)
          have HII := Lib.hid hI
          clear hone hris hbelow hq htk hx hR hrow hbw hb1r hmap hLt hcs hI hno hq1
          go_wp2_with (first
            | (go_at_call 9; refine HII.out.mono ?_; rintro e w' ⟨rfl, rfl⟩))
          go_step3
          exact ⟨rfl, by rw [hN0'.out]; exact HH.out.1, HH.out.2, rfl, rfl⟩
      · obtain rfl : k = l.length := by omega
        rw [List.take_length] at hR hmap
        have hkp := Lib.hid (keep_any hrow hmap)
        have hok : NewOk mn hn l := ⟨by omega, by omega, by omega, by omega, hR⟩
        have HH := Lib.hid (And.intro hrow (And.intro hbw hmap))
        have HOK := Lib.hid hok
        clear hok hrow hbw hmap hR hb1r c4
        go_wp2_with (go_at_call 24; refine hkp.out.mono ?_; rintro e w5 ⟨rfl, hr5, hm5, hb5⟩)
        simp only [Exit.jump]
        go_ret2
        have hB := HB5w w wr w5 N0 HH.out.2.1 hb5 (by have := HH.out.1.lt; omega)
        have e0 := hN0'.out
        have hwr := HH.out.1.lt
        refine ⟨by rw [e0]; exact hB, .inl ⟨HOK.out, N0 + 1, wr.heap.size, N0, rfl, by omega, by omega, by omega, new_ok HOK.out, hr5, hm5, HH.out.2.2.at_block (hb5.block N0 HH.out.2.2.lt (by simp)), by omega⟩⟩
end Go.Proofs.Ytmjjgdoekblelaa
