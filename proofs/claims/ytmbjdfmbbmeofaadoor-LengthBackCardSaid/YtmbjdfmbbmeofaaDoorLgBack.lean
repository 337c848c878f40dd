/- Layer 15: LengthBack. -/
import Derived.Test.YtmbjdfmbbmeofaaDoorLgJ
import Derived.Test.YtmbjdfmbbmeofaaDoorReg4
import Derived.Deep.QuietTactic
import Derived.BigQuiet
namespace Go.Proofs.YtmbjdfmbbmeofaaDoor
open Go.RowKit

set_option maxRecDepth 100000 in
set_option maxHeartbeats 1000000 in
theorem lengthBack_long (a : Option Addr) (ls : List (List UInt8)) (c : Nat) (z : Int) (w : World) (ht : LgTab w) (h1 : 20 < ls.length) :
    Calls Tryd.prog 5 #[.slice a ls.length c, .int .i64 z] w fun e w' => LgTrue w e w' := by
  have HK := Lib.hid (lg_known w ht)
  have h2 : (20 : Int) < ls.length := by omega
  clear ht h1
  go_enter Tryd.func5, Tryd.ntmps5
  go_wp2_with (go_at_call 7; refine HK.out.mono ?_; rintro e w' ⟨rfl, hb⟩; have HB := Lib.hid hb; clear hb)
  go_ret
  exact ⟨rfl, HB.out⟩
/-- What the statement lays that puts a run behind its length. -/
def V14 (vb vx v4 v5 : Value) (a : Option Addr) (m c : Nat) (b o k : Nat) (ai : Option Addr) (n ci : Nat) : Nat → Value → World → Prop
  | 0, u, _ => u = vb
  | 1, u, _ => u = vx
  | 2, u, _ => u = v4
  | 3, u, _ => u = .slice a m c
  | 4, u, _ => u = .int .i64 k
  | 5, u, _ => u = .pointer (some ⟨b, o, none⟩)
  | 6, u, _ => u = .slice ai n ci
  | 7, u, _ => u = v5
  | 8, u, _ => u = v5
  | _, _, _ => True
theorem V14.any {vb vx v4 v5 : Value} {a : Option Addr} {m c b o k : Nat} {ai : Option Addr} {n ci : Nat} {w w' : World} : ∀ j u, V14 vb vx v4 v5 a m c b o k ai n ci j u w → V14 vb vx v4 v5 a m c b o k ai n ci j u w' := by
  intro j u h
  unfold V14 at h ⊢
  split at h <;> first | exact h | trivial
/-- Where the world stands: ahead of both appends, between them, behind them. -/
structure I14 (w0 w4 w5 : World) (L : Array Bool) (W : World) : Prop where
  a : L.getD 2 false = false → W = w0
  b : L.getD 2 false = true → L.getD 7 false = false → W = w4
  c : L.getD 7 false = true → W = w5
theorem I14.still {w0 w4 w5 : World} {L : Array Bool} {W : World} (h : I14 w0 w4 w5 L W) {i : Nat} (h2 : 2 ≠ i) (h7 : 7 ≠ i) : I14 w0 w4 w5 (L.setIfInBounds i true) W := by
  refine ⟨?_, ?_, ?_⟩
  · rw [listed_other h2]; exact h.a
  · rw [listed_other h2, listed_other h7]; exact h.b
  · rw [listed_other h7]; exact h.c
/-- What the last statement lays. -/
def V39 (au : Option Addr) (U cu : Nat) (ab : Option Addr) (J cb E come : Nat) (X : List UInt8) : Nat → Value → World → Prop
  | 0, u, _ => u = .slice au U cu
  | 1, u, _ => u = .string ⟨X.toArray⟩
  | 2, u, _ => u = .slice ab J cb
  | 3, u, _ => u = .int .i64 E
  | 4, u, _ => u = .int .i64 come
  | 5, u, _ => u = .slice (lgCutAt ab cb E) (come - E) (cb - E)
  | 6, u, _ => u = .string ⟨X.toArray⟩
  | 7, u, _ => u = .bool true
  | 8, u, _ => u = .bool true
  | 9, u, _ => u = .bool true
  | 10, u, _ => u = .bool true
  | 11, u, _ => u = .bool true
  | _, _, _ => True
theorem V39.any {au : Option Addr} {U cu : Nat} {ab : Option Addr} {J cb E come : Nat} {X : List UInt8} {w w' : World} : ∀ j u, V39 au U cu ab J cb E come X j u w → V39 au U cu ab J cb E come X j u w' := by
  intro j u h
  unfold V39 at h ⊢
  split at h <;> first | exact h | trivial
structure I39 (B : Nat) (w w0 : World) (L : Array Bool) (W : World) : Prop where
  a : L.getD 9 false = false → W = w0.drew
  b : Below B w W
theorem I39.still {B : Nat} {w w0 : World} {L : Array Bool} {W : World} (h : I39 B w w0 L W) {i : Nat} (h9 : 9 ≠ i) : I39 B w w0 (L.setIfInBounds i true) W := by
  refine ⟨?_, h.b⟩
  rw [listed_other h9]; exact h.a
theorem results_tmp15 {T : Array Value} {W : World} {v : Value} (h : T.getD 4 undef = v) : (results Tryd.f5 T).run Tryd.prog W = .ok v W := by
  simp only [Array.getD_eq_getD_getElem?] at h
  simp [results, Tryd.results5, h]
theorem lg_index {w : World} {b off n c k : Nat} (h : k < n) : (Instr.indexAt 36 (.slice (some ⟨b, off, none⟩) n c) (.int .i64 k)).run Tryd.prog w = .ok (.pointer (some ⟨b, off + k, none⟩)) w := by
  have h1 : (0 : Int) ≤ k := by omega
  have h2 : (k : Int) < n := by omega
  simp [go_sem, h1, h2]
set_option maxRecDepth 100000 in
set_option maxHeartbeats 8000000 in
theorem lengthBack_some (a : Option Addr) (ls : List (List UInt8)) (c : Nat) (z : Int) (w : World) (hm : LgRuns w.heap.size w a ls) (ht : LgTab w) (h1 : ls.length ≤ 20) :
    Calls Tryd.prog 5 #[.slice a ls.length c, .int .i64 z] w fun e w' => LgTrue w e w' := by
  have HT := Lib.hid ht
  have HM := Lib.hid hm
  have hlt := ht.lt
  have h2 : ¬ (20 : Int) < ls.length := by omega
  obtain ⟨B, hB⟩ : ∃ B, w.heap.size = B := ⟨_, rfl⟩
  have HBe := Lib.hid hB
  rw [hB] at hlt
  clear ht hm hB
  go_enter Tryd.func5, Tryd.ntmps5
  go_wp2
  go_loopw [4, 5, 6, 7, 8, 9, 10, 25, 26, 27, 28, 29, 30, 31, 32, 33, 34, 35, 36, 37, 38, 39, 40, 41, 42, 43, 44, 45, 46, 47, 48, 49, 50, 51, 52, 53, 54, 55, 56, 57, 58, 59, 60, 61, 62, 63, 64, 65, 66, 67, 68, 69] (fun _ ub ue us x _ _ _ _ _ _ _ _ _ _ _ _ _ _ _ _ _ _ _ _ _ _ _ _ _ _ _ _ _ _ _ _ _ _ _ _ _ _ _ _ _ _ _ _ _ _ _ wr => ∃ k : Nat, x = .int .i64 k ∧ k ≤ ls.length ∧ OwnB wr B ub (lgJoin (ls.take k)) ∧ LgRow 3 wr B ue (lgEnds ls k) ∧ LgRow 2 wr B us (lgSizes ls k) ∧ Below B w wr ∧ ∀ j, j < k → (ls.getD j []).length ≤ 300)
    (fun _ _ _ _ x _ _ _ _ _ _ _ _ _ _ _ _ _ _ _ _ _ _ _ _ _ _ _ _ _ _ _ _ _ _ _ _ _ _ _ _ _ _ _ _ _ _ _ _ _ _ _ _ => ls.length - (intOf x).toNat)
  case atStart => exact ⟨0, rfl, Nat.zero_le _, OwnB.nil _ _, LgRow.nil _ _ _, LgRow.nil _ _ _, by rw [← HBe.out]; exact Below.refl _ _, fun j hj => by omega⟩
  case round =>
    obtain ⟨k, rfl, hk, hO, hE, hS, hbr, h300⟩ := hrel
    have hBw : B ≤ wr.heap.size := by have := hbr.size; have := HBe.out; omega
    by_cases hlk : k < ls.length
    · have hkc : (k : Int) < ls.length := by omega
      obtain ⟨b, off, rfl, hbB, hcl⟩ := (HM.out.below (by rw [HBe.out]; exact hbr)) (by intro e; rw [e] at hlk; simp at hlk)
      obtain ⟨ai, ci, hck, hmk⟩ := hcl k hlk
      have hbl : b < wr.heap.size := by have := HBe.out; omega
      obtain ⟨l, hl⟩ : ∃ l, ls.getD k [] = l := ⟨_, rfl⟩
      have hjs := lgJoin_succ hlk
      have hss := lgSizes_succ hlk
      have hes := lgEnds_succ ls k
      have hend := lgEnd_succ hlk
      rw [hl] at hck hmk hjs hss hend
      by_cases hbig : 300 < l.length
      · have hbig2 : (300 : Int) < l.length := by omega
        have HX := Lib.hid hbr
        have HK := Lib.hid (lg_known wr (HT.out.below hbr hlt))
        clear hO hE hS hbr h300 hcl hmk hjs hss hes hend hl hbig
        go_wp2_with (go_at_call 7; refine HK.out.mono ?_; rintro e w' ⟨rfl, hb⟩; have HB := Lib.hid hb; clear hb)
        go_ret
        exact ⟨rfl, by rw [HBe.out]; exact HX.out.trans (HB.out.mono hBw)⟩
      · have hbig2 : ¬ (300 : Int) < l.length := by omega
        have hR := lgRaw_any (l.length : Int) wr (HT.out.below hbr hlt)
        have hall : lgAll [(l.length : Int)] = lgRaw l.length := by simp [lgAll]
        have hok : lgOk [(l.length : Int)] := fun z hz => by
          obtain rfl : z = (l.length : Int) := by simpa using hz
          exact ⟨by omega, by omega⟩
        have hrl := lgRaw_len l.length
        have hsp := lgSize_pos l.length
        have hJl : lgEnd ls k ≤ 304 * k := lgEnd_bound hk h300
        have HX := Lib.hid (And.intro hO (And.intro hE (And.intro hS (And.intro hbr (And.intro h300 (And.intro hmk (And.intro hjs (And.intro hss (And.intro hes (And.intro hend hl))))))))))
        have HR := Lib.hid hR
        have HOK := Lib.hid (And.intro hok hall)
        clear hO hE hS hbr h300 hcl hmk hjs hss hes hend hl hR hall hok
        go_wp2_with fail
        refine HR.out.mono ?_
        rintro e w1 (⟨-, vx, rfl, hOx, b1⟩ | ⟨hno, -⟩)
        rotate_left
        · exact absurd HOK.out.1 hno
        rw [HOK.out.2] at hOx
        obtain ⟨ax, cx, ex, mx, -⟩ := hOx.form
        rw [hrl] at ex
        have HRL := Lib.hid hrl
        clear hrl
        subst ex
        obtain ⟨hO, hE, hS, hbr, h300, hmk, hjs, hss, hes, hend, hl⟩ := HX.out
        have hO1 : OwnB w1.drew B u5 (lgJoin (ls.take k)) := ownB_below hO b1.drew
        have hE1 : LgRow 3 w1.drew B u6 (lgEnds ls k) := hE.far (below_grown b1.drew) (fun r e => by cases e)
        have hS1 : LgRow 2 w1.drew B u7 (lgSizes ls k) := hS.far (below_grown b1.drew) (fun r e => by cases e)
        have hb1 : Below B w w1.drew := (hbr.trans (b1.mono hBw)).drew
        have hmk1 : BytesAt B w1.drew ai l := by
          have h := hmk.below (b1.mono (by rw [HBe.out]; exact hBw))
          rw [HBe.out] at h; exact h
        have hJ1 : (lgJoin (ls.take k)).length = lgEnd ls k := rfl
        obtain ⟨v4, w4, hr4, hO4, hg4⟩ := lg_app w1.drew B 22 w1.heap.size u5 (lgJoin (ls.take k)) hO1 ax (lgRaw l.length) cx mx (by have := HRL.out; omega) (Nat.le_trans hBw b1.size)
        have b4 : Below B w w4 := hb1.grown hg4 (Nat.le_trans hBw b1.size) hO1.block
        have hE4 := hE1.far hg4 (ownB_kind hO1 (by decide))
        have hS4 := hS1.far hg4 (ownB_kind hO1 (by decide))
        have c4 : Below B w1.drew w4 := (Below.refl _ _).grown hg4 (Nat.le_trans hBw b1.size) hO1.block
        obtain ⟨v5, w5, hr5, hO5, hg5⟩ := lg_app w4 B 22 B v4 (lgJoin (ls.take k) ++ lgRaw l.length) hO4 ai l ci (hmk1.below c4) (by have := HRL.out; rw [List.length_append]; omega) (by have := b4.size; have := HBe.out; omega)
        have b5 : Below B w w5 := b4.grown hg5 (by have := b4.size; have := HBe.out; omega) hO4.block
        have hE5 := hE4.far hg5 (ownB_kind hO4 (by decide))
        have hS5 := hS4.far hg5 (ownB_kind hO4 (by decide))
        have hB5 : B ≤ w5.heap.size := by have := b5.size; have := HBe.out; omega
        rw [← hjs] at hO5
        obtain ⟨a5, c5, e5, -, -, -, -⟩ := hO5.form
        have hJ5 : (lgJoin (ls.take (k + 1))).length = lgEnd ls (k + 1) := rfl
        rw [hJ5] at e5
        rw [HRL.out] at hr4
        subst e5
        obtain ⟨v6, w6, hr6, hE6, hg6⟩ := lg_app_row Tryd.underlying37 lg_infoInt (w5.alloc (.cells #[.int .i64 (lgEnd ls (k + 1) : Int)] 3)) B 37 u6 (lgEnds ls k) (hE5.far (World.grownBy_alloc _ _ none) (fun r e => by cases e)) w5.heap.size 1 (lgEnd ls (k + 1) : Int) (Boxed.new _ _ _).cell (by rw [lgEnds_len]; omega) (by simp; omega)
        have b6 : Below B w w6 := (b5.alloc hB5 _).grown hg6 (by simp; omega) hE5.block
        have hB6 : B ≤ w6.heap.size := by have := b6.size; have := HBe.out; omega
        have hEa : LgRow 3 (w5.alloc (.cells #[.int .i64 (lgEnd ls (k + 1) : Int)] 3)) B u6 (lgEnds ls k) := hE5.far (World.grownBy_alloc _ _ none) (fun r e => by cases e)
        have hS6 : LgRow 2 w6 B u7 (lgSizes ls k) := (hS5.far (World.grownBy_alloc _ _ none) (fun r e => by cases e)).far hg6 (hEa.kind (by decide))
        have hO6 : OwnB w6 B (.slice a5 (lgEnd ls (k + 1)) c5) (lgJoin (ls.take (k + 1))) := ownB_far (hO5.alloc _) hg6 (hEa.kind (by decide))
        have hck6 : w6.cell? ⟨b, off + k, none⟩ = some (.slice ai l.length ci) := ((b6.cell (p := ⟨b, off + k, none⟩) (by show b < B; have := HBe.out; omega)).trans (hbr.cell (p := ⟨b, off + k, none⟩) (by show b < B; have := HBe.out; omega)).symm).trans hck
        obtain ⟨v7, w7, hr7, hS7, hg7⟩ := lg_app_row Tryd.underlying38 lg_infoI64 (w6.alloc (.cells #[.int .i64 (l.length : Int)] 2)) B 38 u7 (lgSizes ls k) (hS6.far (World.grownBy_alloc _ _ none) (fun r e => by cases e)) w6.heap.size 1 (l.length : Int) (Boxed.new _ _ _).cell (by rw [lgSizes_len ls hk]; omega) (by simp; omega)
        have hSa : LgRow 2 (w6.alloc (.cells #[.int .i64 (l.length : Int)] 2)) B u7 (lgSizes ls k) := hS6.far (World.grownBy_alloc _ _ none) (fun r e => by cases e)
        have b7 : Below B w w7 := (b6.alloc hB6 _).grown hg7 (by simp; omega) hS6.block
        have hE7 : LgRow 3 w7 B v6 (lgEnds ls (k + 1)) := by rw [hes]; exact (hE6.far (World.grownBy_alloc _ _ none) (fun r e => by cases e)).far hg7 (hSa.kind (by decide))
        have hO7 := ownB_far (hO6.alloc (.cells #[.int .i64 (l.length : Int)] 2)) hg7 (hSa.kind (by decide))
        rw [← hss] at hS7
        have HY := Lib.hid (And.intro hO7 (And.intro hE7 (And.intro hS7 b7)))
        have hck1 : w1.drew.cell? ⟨b, off + k, none⟩ = some (.slice ai l.length ci) := (b1.cell (p := ⟨b, off + k, none⟩) hbl).trans hck
        have hck4 : w4.cell? ⟨b, off + k, none⟩ = some (.slice ai l.length ci) := (c4.cell (p := ⟨b, off + k, none⟩) (by show b < B; have := HBe.out; omega)).trans hck1
        have hck5 : w5.cell? ⟨b, off + k, none⟩ = some (.slice ai l.length ci) := ((b5.cell (p := ⟨b, off + k, none⟩) (by show b < B; have := HBe.out; omega)).trans (hbr.cell (p := ⟨b, off + k, none⟩) (by show b < B; have := HBe.out; omega)).symm).trans hck
        clear hOx mx b1 hO hE hS hbr h300 hmk hjs hss hes hend hl hO1 hE1 hS1 hb1 hmk1 hJ1 hO4 hg4 b4 hE4 hS4 c4 hO5 hg5 b5 hE5 hS5 hJ5 hE6 hg6 b6 hEa hS6 hO6 hS7 hg7 hSa b7 hE7 hO7 hck
        go_wp2
        refine wp_region_n (I14 w1.drew w4 w5) (V14 u5 (.slice ax (lgSize l.length) cx) v4 (.slice a5 (lgEnd ls (k + 1)) c5) (some ⟨b, off, none⟩) ls.length c b (off + k) k ai l.length ci) (by kernel_rfl) (by kernel_rfl) (by kernel_rfl) (by kernel_rfl) ⟨fun _ => rfl, fun e => by simp at e, fun e => by simp at e⟩ ?step ?fin
        case step =>
          intro i o ho listed a0 w' hIn hn' hpre
          have hI := hIn.toL
          have hi : i < 9 := (Array.getElem?_eq_some_iff.1 ho).1
          have hJ := hI.inv
          have hsz : listed.size = 9 := hI.size
          match i, hi with
          | 0, _ =>
            cases ho
            exact wpOp_move rfl rfl (.inl rfl) (hIn.later 8 (t := 5) (by kernel_rfl) (hI.notyet hn' 8 (by kernel_rfl))) ⟨_, rfl, hJ.still (by decide) (by decide), fun _ => rfl, fun j u _ h => V14.any j u h⟩
          | 1, _ =>
            cases ho
            exact wpOp_move rfl rfl (.inl rfl) (hI.kept (t := 9) (by kernel_rfl)) ⟨_, rfl, hJ.still (by decide) (by decide), fun _ => rfl, fun j u _ h => V14.any j u h⟩
          | 2, _ =>
            cases ho
            have h7 := hI.notyet hn' 7 (by kernel_rfl)
            have e0 : a0.eval (.tmp 49) = u5 := hI.slot 0 49 rfl (hpre ⟨0, .data⟩ (by simp) rfl) rfl
            have e1 : a0.eval (.tmp 50) = .slice ax (lgSize l.length) cx := hI.slot 1 50 rfl (hpre ⟨1, .data⟩ (by simp) rfl) rfl
            have hW := hJ.a hn'
            subst hW
            exact wpOp_append rfl rfl rfl e0 e1 hr4 ⟨_, rfl, ⟨by rw [listed_same (by omega)]; (intro e; cases e), fun _ _ => rfl, by rw [listed_other (by decide), h7]; (intro e; cases e)⟩, fun _ => rfl, fun j u _ h => V14.any j u h⟩
          | 3, _ =>
            cases ho
            exact wpOp_move rfl rfl (.inl rfl) (hI.kept (t := 0) (by kernel_rfl)) ⟨_, rfl, hJ.still (by decide) (by decide), fun _ => rfl, fun j u _ h => V14.any j u h⟩
          | 4, _ =>
            cases ho
            exact wpOp_move rfl rfl (.inl rfl) (hI.kept (t := 8) (by kernel_rfl)) ⟨_, rfl, hJ.still (by decide) (by decide), fun _ => rfl, fun j u _ h => V14.any j u h⟩
          | 5, _ =>
            cases ho
            exact wpOp_index rfl rfl rfl (hI.slot 3 52 rfl (hpre ⟨3, .data⟩ (by simp) rfl) rfl) (hI.slot 4 53 rfl (hpre ⟨4, .data⟩ (by simp) rfl) rfl) (lg_index hlk) ⟨_, rfl, hJ.still (by decide) (by decide), fun _ => rfl, fun j u _ h => V14.any j u h⟩
          | 6, _ =>
            cases ho
            have h7 := hI.notyet hn' 7 (by kernel_rfl)
            have hc : w'.cell? ⟨b, off + k, none⟩ = some (.slice ai l.length ci) := by
              cases h2' : listed.getD 2 false with
              | false => rw [hJ.a h2']; exact hck1
              | true => rw [hJ.b h2' h7]; exact hck4
            exact wpOp_load rfl rfl rfl (hI.slot 5 54 rfl (hpre ⟨5, .data⟩ (by simp) rfl) rfl) (lg_load (Tryd.isAgg22 w') hc) ⟨_, rfl, hJ.still (by decide) (by decide), fun _ => rfl, fun j u _ h => V14.any j u h⟩
          | 7, _ =>
            cases ho
            have h2' := hpre ⟨2, .data⟩ (by simp) rfl
            have e0 : a0.eval (.tmp 51) = v4 := hI.slot 2 51 rfl h2' rfl
            have e1 : a0.eval (.tmp 55) = .slice ai l.length ci := hI.slot 6 55 rfl (hpre ⟨6, .data⟩ (by simp) rfl) rfl
            have hW := hJ.b h2' hn'
            subst hW
            exact wpOp_append rfl rfl rfl e0 e1 hr5 ⟨_, rfl, ⟨by rw [listed_other (by decide), h2']; (intro e; cases e), by rw [listed_same (by omega)]; (intro _ e; cases e), fun _ => rfl⟩, fun _ => rfl, fun j u _ h => V14.any j u h⟩
          | 8, _ =>
            cases ho
            exact wpOp_move rfl rfl (.inr rfl) (hI.slot 7 56 rfl (hpre ⟨7, .data⟩ (by simp) rfl) rfl) ⟨_, rfl, hJ.still (by decide) (by decide), fun _ => rfl, fun j u _ h => V14.any j u h⟩
        case fin =>
          intro listed a0 w' hIn hall
          have hI := hIn.toL
          clear hIn
          have hW := hI.inv.c (hall 7 (by decide))
          subst hW
          have eS5 : a0.tmps.getD 5 undef = .slice a5 (lgEnd ls (k + 1)) c5 := hI.slot 8 5 rfl (hall 8 (by decide)) rfl
          obtain ⟨vs, us, hvl, hul, hvs, hus, e⟩ := hI.frame2 5 1 49 8 (by decide) (Nat.le_of_ble_eq_true (by kernel_rfl)) (by kernel_rfl)
          have vS5 := hvs 0 (by decide)
          clear hI hall hvs hus hr4 hr5
          match vs, us, hvl, hul with
          | [x0], [y0, y1, y2, y3, y4, y5, y6, y7], _, _ =>
          simp only [List.getElem?_cons_zero, Option.some.injEq] at vS5
          rw [show 5 + 0 = 5 from rfl, eS5] at vS5
          subst vS5
          simp only [List.take_succ_cons, List.take_zero, List.drop_succ_cons, List.drop_zero, List.cons_append, List.nil_append, Nat.reduceAdd, Nat.reduceSub] at e
          subst e
          clear eS5
          go_wp2_with (first
            | (at_builtin; refine wpList_append_val rfl rfl rfl rfl hr6 ?_)
            | (at_builtin; refine wpList_append_val rfl rfl rfl rfl hr7 ?_))
          go_roundw
          case rel =>
            obtain ⟨hO7, hE7, hS7, b7⟩ := HY.out
            obtain ⟨-, -, -, -, h300, -, -, -, -, -, hl⟩ := HX.out
            exact ⟨k + 1, by go_num, by omega, hO7, hE7, hS7, b7, fun j hj => by
              by_cases e : j = k
              · subst e; rw [hl]; omega
              · exact h300 j (by omega)⟩
          case measure => simp [intOf]; omega
    · obtain rfl : k = ls.length := by omega
      have hkc : ¬ (ls.length : Int) < ls.length := by omega
      rw [List.take_length] at hO
      obtain ⟨ab, cb, eb, mb, hcb, -, hnb, -⟩ := hO.form
      obtain ⟨ae, ce, ee, me⟩ := hE.form
      obtain ⟨asz, cs, es, ms⟩ := hS.form
      rw [lgEnds_len] at ee
      rw [lgSizes_len ls (Nat.le_refl _)] at es
      have hall3 : ∀ l ∈ ls, l.length ≤ 300 := fun l hl => by
        obtain ⟨j, hj, rfl⟩ := List.getElem_of_mem hl
        have := h300 j hj
        simpa [List.getD, List.getElem?_eq_getElem hj] using this
      have hok : lgOk (lgSizes ls ls.length) := fun x hx => by
        obtain ⟨l, hl, rfl⟩ := List.mem_map.1 hx
        have := hall3 l (List.mem_of_mem_take hl)
        exact ⟨by omega, by omega⟩
      have hA := lgall_any asz (lgSizes ls ls.length) cs (by rw [lgSizes_len ls (Nat.le_refl _)]; omega) wr (HT.out.below hbr hlt) ms
      rw [lgSizes_len ls (Nat.le_refl _)] at hA
      have hJ := lgEnd_bound (Nat.le_refl ls.length) h300
      rw [lgEnd_all] at hJ
      obtain ⟨J, hJe⟩ : ∃ J, (lgJoin ls).length = J := ⟨_, rfl⟩
      rw [hJe] at eb hcb hJ
      subst eb
      subst ee
      subst es
      have HA := Lib.hid hA
      have HX := Lib.hid (And.intro hO (And.intro mb (And.intro me (And.intro ms (And.intro hbr (And.intro hok (And.intro hall3 (And.intro hJe (And.intro hnb hcb)))))))))
      clear hO hE hS mb me ms hbr h300 hA hok hall3 hJe hnb
      go_wp2_with fail
      refine HA.out.mono ?_
      rintro e w2 (⟨-, v2, rfl, hO2, b2⟩ | ⟨hno, -⟩)
      rotate_left
      · exact absurd HX.out.2.2.2.2.2.1 hno
      obtain ⟨a2, c2, e2, -, -, -, -⟩ := hO2.form
      obtain ⟨S, hSe⟩ : ∃ S, (lgAll (lgSizes ls ls.length)).length = S := ⟨_, rfl⟩
      rw [hSe] at e2
      subst e2
      have hSb := lgAll_len (lgSizes ls ls.length)
      rw [lgSizes_len ls (Nat.le_refl _), hSe] at hSb
      have HB2 := Lib.hid (show Below B w w2 from HX.out.2.2.2.2.1.trans (b2.mono hBw))
      have ms2 : LgOn (fun k => k < wr.heap.size) w2 asz (lgSizes ls ls.length) := HX.out.2.2.2.1.keeps (KeepsOn.of_below b2 (fun _ h => h))
      have HC := Lib.hid (And.intro b2 (And.intro hSe ms2))
      clear b2 hO2 hSe ms2 HA
      go_wp2
      go_loop [13, 14, 75, 76, 77, 78, 79, 80, 81, 82, 83, 84, 85, 86, 87] (fun s x _ _ _ _ _ _ _ _ _ _ _ _ _ => ∃ j : Nat, x = .int .i64 j ∧ j ≤ ls.length ∧ s = .int .i64 ((lgAll (lgSizes ls j)).length : Nat)) (fun _ x _ _ _ _ _ _ _ _ _ _ _ _ _ => ls.length - (intOf x).toNat)
      case atStart => exact ⟨0, rfl, Nat.zero_le _, rfl⟩
      case round =>
        obtain ⟨j, rfl, hj, rfl⟩ := hrel
        have hjb := lgAll_len (lgSizes ls j)
        rw [lgSizes_len ls hj] at hjb
        by_cases hjl : j < ls.length
        · have hjc : (j : Int) < ls.length := by omega
          obtain ⟨gs, os, rfl, hgs, hcs⟩ := HC.out.2.2 (by intro e; have := lgSizes_len ls (Nat.le_refl ls.length); rw [e] at this; simp at this; omega)
          have hcj := hcs j (by rw [lgSizes_len ls (Nat.le_refl _)]; exact hjl)
          have hv : (lgSizes ls ls.length)[j]?.getD 0 = ((ls.getD j []).length : Int) := by
            unfold lgSizes
            rw [List.take_length, List.getElem?_map, List.getElem?_eq_getElem hjl]
            simp [List.getD, List.getElem?_eq_getElem hjl]
          rw [hv] at hcj
          have hsx := lgSizes_succ hjl
          have h3 : (ls.getD j []).length ≤ 300 := by
            have := HX.out.2.2.2.2.2.2.1 ls[j] (List.getElem_mem hjl)
            simpa [List.getD, List.getElem?_eq_getElem hjl] using this
          have hSZ := size_any ((ls.getD j []).length : Int) w2 (HT.out.below HB2.out hlt)
          rw [lgSz_nat (by omega)] at hSZ
          have hnew : (lgAll (lgSizes ls (j + 1))).length = (lgAll (lgSizes ls j)).length + lgSize (ls.getD j []).length := by
            rw [hsx, lgAll_snoc, List.length_append, lgRaw_len]; simp
          have hsp := lgSize_pos (ls.getD j []).length
          have HSZ := Lib.hid hSZ
          have HNW := Lib.hid hnew
          generalize lgSize (ls.getD j []).length = sz at *
          generalize (ls.getD j []).length = lj at *
          generalize (lgAll (lgSizes ls j)).length = acc at *
          clear hcs hv hsx hSZ hnew
          go_wp2_with (go_at_call 10; refine HSZ.out.mono ?_; rintro e w' ⟨rfl, rfl⟩)
          go_round
          case rel => exact ⟨j + 1, by go_num, by omega, by rw [HNW.out]; go_num⟩
          case measure => simp [intOf]; omega
        · obtain rfl : j = ls.length := by omega
          have hjc : ¬ (ls.length : Int) < ls.length := by omega
          rw [HC.out.2.1] at hjb ⊢
          have hq : ((S : Int) != (S : Int)) = false := by simp
          rcases Int.lt_or_le z 0 with hz0 | hz0
          · go_wp2_with fail
            refine (lg_known w2 (HT.out.below HB2.out hlt)).mono ?_
            rintro e w3 ⟨rfl, b3⟩
            have B3 := Lib.hid (show Below B w w3 from HB2.out.trans (b3.mono (by have := HB2.out.size; have := HBe.out; omega)))
            clear b3
            go_wp2
            go_ret
            exact ⟨rfl, by rw [HBe.out]; exact B3.out⟩
          obtain ⟨come, rfl⟩ : ∃ come : Nat, z = come := ⟨z.toNat, by omega⟩
          by_cases hzJ : J < come
          · have hzJ2 : (J : Int) < come := by omega
            go_wp2_with fail
            refine (lg_known w2 (HT.out.below HB2.out hlt)).mono ?_
            rintro e w3 ⟨rfl, b3⟩
            have B3 := Lib.hid (show Below B w w3 from HB2.out.trans (b3.mono (by have := HB2.out.size; have := HBe.out; omega)))
            clear b3
            go_wp2
            go_ret
            exact ⟨rfl, by rw [HBe.out]; exact B3.out⟩
          have hzJ2 : ¬ (J : Int) < come := by omega
          obtain ⟨hOj, mbj, mej, -, hbj, -, hall3, hJe, hnb, hcb⟩ := HX.out
          obtain ⟨n, hn, hn1, hn2⟩ := lg_upto ls come ls.length (Nat.le_refl _) (.inl rfl)
          have hsp := lgSplit_back ls hall3 come (by omega) n hn hn1 hn2
          have hpb := lgParts_back ls come n hn hn1
          have hlen : ((lgJoin ls).take come).length = come := by rw [List.length_take]; omega
          have hb2 := HC.out.1
          have mb2 : BytesAt w2.heap.size w2 ab (lgJoin ls) := (mbj.below hb2).mono hb2.size
          have hm2 := lg_mid (i := 0) (m := come) mb2 (c := cb) (by omega)
          rw [List.drop_zero] at hm2
          have hSp := lgSplit_any (lgCutAt ab cb 0) ((lgJoin ls).take come) cb (by omega) (by omega) (fun e => by have := lgCutAt_none hnb e; omega) 300 (by decide) w2 hm2 (HT.out.below HB2.out hlt)
          rw [hlen] at hSp
          have hsl : ∀ W, (Instr.sliceAt 22 (.slice ab J cb) none (some (.int .i64 (come : Int))) none).run Tryd.prog W = .ok (.slice (lgCutAt ab cb 0) come cb) W := fun W => lg_slice_h W ab J cb come (by omega)
          have HSp := Lib.hid hSp
          have HQ := Lib.hid (And.intro hn1 (And.intro hn2 (And.intro hsp (And.intro hpb (And.intro hlen (And.intro hb2 mb2))))))
          clear hOj mbj mej hbj hall3 hJe hnb hn1 hn2 hsp hpb hlen hb2 mb2 hm2 hSp hjb hzJ
          go_wp2_with fail
          refine HSp.out.mono ?_
          rintro e w3 ⟨b3, ⟨-, p, u, rfl, hL3, hO3⟩ | ⟨hno, -⟩⟩
          rotate_left
          · rw [HQ.out.2.2.1] at hno; exact absurd rfl hno
          rw [HQ.out.2.2.1] at hL3 hO3
          have hL3' : LgL w3 w2.heap.size p (ls.take n) := by rw [← HQ.out.2.2.2.1]; exact hL3
          have hO3' : OwnB w3 w2.heap.size u (((lgJoin ls).take come).drop (lgEnd ls n)) := hO3
          obtain ⟨ap, cp, ep⟩ := hL3'.form2
          obtain ⟨au, cu, eu, mu, -⟩ := hO3'.form
          rw [List.length_take, Nat.min_eq_left hn] at ep
          subst ep
          obtain ⟨U, hU⟩ : ∃ U, (((lgJoin ls).take come).drop (lgEnd ls n)).length = U := ⟨_, rfl⟩
          rw [hU] at eu
          subst eu
          have HB3 := Lib.hid (show Below B w w3 from HB2.out.trans (b3.mono (by have := HB2.out.size; have := HBe.out; omega)))
          have HR := Lib.hid (And.intro b3 (And.intro hL3' (And.intro mu hU)))
          have me3 := (HX.out.2.2.1.keeps (KeepsOn.of_below HQ.out.2.2.2.2.2.1 (fun _ h => h))).keeps (KeepsOn.of_below b3 (fun b (h : b < wr.heap.size) => Nat.lt_of_lt_of_le h HQ.out.2.2.2.2.2.1.size))
          have HME := Lib.hid me3
          clear b3 hL3 hO3 hL3' hO3' mu hU me3 HSp
          go_wp2
          go_loop [18, 125, 126, 127, 128, 129, 130, 131, 132, 133, 134, 135, 136, 137, 138] (fun x _ _ _ _ _ _ _ _ _ _ _ _ _ _ => ∃ j : Nat, x = .int .i64 j ∧ j ≤ n) (fun x _ _ _ _ _ _ _ _ _ _ _ _ _ _ => n - (intOf x).toNat)
          case atStart => exact ⟨0, rfl, Nat.zero_le _⟩
          case round =>
            obtain ⟨j, rfl, hj⟩ := hrel
            by_cases hjm : j < ls.length
            · have hjc : (j : Int) < ls.length := by omega
              obtain ⟨ge, oe, rfl, hge, hce⟩ := HME.out (by intro e; have := lgEnds_len ls ls.length; rw [e] at this; simp at this; omega)
              have hcj := hce j (by rw [lgEnds_len]; exact hjm)
              have hv : (lgEnds ls ls.length)[j]?.getD 0 = (lgEnd ls (j + 1) : Int) := by
                unfold lgEnds
                rw [List.getElem?_map, List.getElem?_range hjm]; rfl
              rw [hv] at hcj
              clear hce hv
              by_cases hjn : j < n
              · have hle : (lgEnd ls (j + 1) : Int) ≤ come := by
                  have := lgEnd_le (ls := ls) (show j + 1 ≤ n by omega) hn
                  have := HQ.out.1
                  omega
                generalize lgEnd ls (j + 1) = E at *
                go_wp2
                go_round
                case rel => exact ⟨j + 1, by go_num, by omega⟩
                case measure => simp [intOf]; omega
              · obtain rfl : j = n := by omega
                have hle : ¬ (lgEnd ls (j + 1) : Int) ≤ come := by
                  rcases HQ.out.2.1 with h | h <;> omega
                generalize lgEnd ls (j + 1) = E at *
                go_wp2
                obtain ⟨wz, hwz⟩ : ∃ wz, wz = wr := ⟨_, rfl⟩
                subst hwz
                go_loopw [4, 19, 147, 148, 149, 150, 151, 152, 153, 154, 155, 156, 157, 158, 159, 160, 161, 162] (fun _ x _ _ _ _ _ _ _ _ _ _ _ _ _ _ _ _ wr => ∃ i : Nat, x = .int .i64 i ∧ i ≤ j ∧ Below w3.heap.size w3 wr) (fun _ x _ _ _ _ _ _ _ _ _ _ _ _ _ _ _ _ _ => j - (intOf x).toNat)
                case atStart => exact ⟨0, rfl, Nat.zero_le _, Below.refl _ _⟩
                case round =>
                  obtain ⟨i, rfl, hi, hb4⟩ := hrel
                  by_cases hin : i < j
                  · have hic : (i : Int) < j := by omega
                    obtain ⟨gp, cgp, aop, cpp, ep, hgp, hcp, hmp⟩ := HR.out.2.1.at i (by rw [List.length_take]; omega)
                    have hgd : (ls.take j).getD i [] = ls.getD i [] := by
                      simp only [List.getD, List.getElem?_take]
                      rw [if_pos hin]
                    rw [hgd] at hcp hmp
                    obtain ⟨b, off, rfl, hbB, hcl⟩ := (HM.out.below (by rw [HBe.out]; exact HB3.out)) (by intro e; have h0 : ls.length = 0 := (by rw [e]; rfl); omega)
                    obtain ⟨ai, ci, hck, hmk⟩ := hcl i (by omega)
                    obtain ⟨eap, -, -⟩ := Value.slice.inj ep
                    have hil : (i : Int) < ls.length := by omega
                    obtain ⟨x, hx⟩ : ∃ x, ls.getD i [] = x := ⟨_, rfl⟩
                    rw [hx] at hcp hmp hck hmk
                    have hcp4 := (hb4.cell (p := ⟨gp, i, none⟩) hgp).trans hcp
                    have hck4 := (hb4.cell (p := ⟨b, off + i, none⟩) (by show b < _; have := HB3.out.size; omega)).trans hck
                    have k1 : ∀ r, (convert 22 9 (.slice aop x.length cpp)).run Tryd.prog (wr.drewN r) = .ok (.string ⟨x.toArray⟩) (wr.drewN r) := fun r => lg_conv _ aop x cpp w3.heap.size (hmp.below (below_drewN15 hb4 r))
                    have k2 : ∀ r, (convert 22 9 (.slice ai x.length ci)).run Tryd.prog (wr.drewN r) = .ok (.string ⟨x.toArray⟩) (wr.drewN r) := fun r => lg_conv _ ai x ci w.heap.size (hmk.below ((below_drewN15 hb4 r).mono HB3.out.size))
                    have HB4 := Lib.hid hb4
                    subst eap
                    clear hcl hmp hmk hgd ep hcp hck hb4
                    go_wp2
                    go_quiet (fail)
                    go_wp2_with fail
                    exact ⟨⟨i + 1, by go_num, by omega, below_drewN15 HB4.out nq⟩, by simp [intOf]; omega⟩
                  · have hie : j = i := by omega
                    subst hie
                    have hic : ¬ (j : Int) < j := by omega
                    have HB4 := Lib.hid hb4
                    have me4 := HME.out.keeps (KeepsOn.of_below hb4 (fun b (h : b < wz.heap.size) => by have := HC.out.1.size; have := HQ.out.2.2.2.2.2.1.size; have := HR.out.1.size; omega))
                    clear hb4
                    by_cases hpos : 0 < j
                    · have hpos1 : (0 : Int) < j := by omega
                      obtain ⟨ge, oe, ege, hge, hce⟩ := me4 (by intro e; have := lgEnds_len ls ls.length; rw [e] at this; simp at this; omega)
                      cases ege
                      have hcj := hce (j - 1) (by rw [lgEnds_len]; omega)
                      have hv : (lgEnds ls ls.length)[j - 1]?.getD 0 = (lgEnd ls j : Int) := by
                        unfold lgEnds
                        rw [List.getElem?_map, List.getElem?_range (by omega)]
                        show (lgEnd ls (j - 1 + 1) : Int) = _
                        rw [show j - 1 + 1 = j by omega]
                      rw [hv] at hcj
                      have hi1 : (0 : Int) ≤ (j : Int) - 1 := by omega
                      have hi2 : (j : Int) - 1 < ls.length := by omega
                      have hi3 : ((j : Int) - 1).toNat = j - 1 := by omega
                      clear hce hv
                      go_wp2
                      have hb4 := HB4.out
                      have hbw4 : Below B w wr := HB3.out.trans (hb4.mono (by have := HB3.out.size; have := HBe.out; omega))
                      have hbz : Below wz.heap.size wz wr := HC.out.1.trans (HR.out.1.mono HC.out.1.size |>.trans (hb4.mono (by have := HC.out.1.size; have := HR.out.1.size; omega)))
                      have mu4 := HR.out.2.2.1.below hb4
                      have mb4 := HX.out.2.1.below hbz
                      have hJ4 := HX.out.2.2.2.2.2.2.2.1
                      have hcb4 := HX.out.2.2.2.2.2.2.2.2.2
                      have hU4 := HR.out.2.2.2
                      have hT4 := HQ.out.2.2.2.2.1
                      have hn14 := HQ.out.1
                      refine wp_region_m (I39 B w wr) (V39 au U cu ab J cb (lgEnd ls j) come (((lgJoin ls).take come).drop (lgEnd ls j))) (by kernel_rfl) (by kernel_rfl) (by kernel_rfl) (by kernel_rfl) ⟨fun _ => rfl, hbw4.drew⟩ ?step ?fin
                      case step =>
                        intro i o ho listed a0 w' hI hn' hpre
                        have hi : i < 12 := (Array.getElem?_eq_some_iff.1 ho).1
                        have hJ := hI.inv
                        have hsz : listed.size = 12 := hI.size
                        match i, hi with
                        | 0, _ =>
                          cases ho
                          exact wpOp_move rfl rfl (.inl rfl) (hI.kept (t := 16) (by kernel_rfl)) ⟨_, rfl, hJ.still (by decide), fun _ => rfl, fun j u _ h => V39.any j u h⟩
                        | 1, _ =>
                          cases ho
                          have hW := hJ.a (hI.notyet (hI.notyet (hI.notyet hn' 7 (by kernel_rfl)) 8 (by kernel_rfl)) 9 (by kernel_rfl))
                          subst hW
                          exact wpOp_conv15 rfl rfl rfl (hI.slot 0 170 rfl (hpre ⟨0, .data⟩ (by simp) rfl) rfl) (by rw [← hU4]; exact lg_conv _ au _ cu w3.heap.size (mu4.below (Below.refl _ wr).drew)) ⟨_, rfl, hJ.still (by decide), fun _ => rfl, fun j u _ h => V39.any j u h⟩
                        | 2, _ =>
                          cases ho
                          exact wpOp_move rfl rfl (.inl rfl) (hI.kept (t := 5) (by kernel_rfl)) ⟨_, rfl, hJ.still (by decide), fun _ => rfl, fun j u _ h => V39.any j u h⟩
                        | 3, _ =>
                          cases ho
                          exact wpOp_move rfl rfl (.inl rfl) (hI.kept (t := 20) (by kernel_rfl)) ⟨_, rfl, hJ.still (by decide), fun _ => rfl, fun j u _ h => V39.any j u h⟩
                        | 4, _ =>
                          cases ho
                          exact wpOp_move rfl rfl (.inl rfl) (hI.kept (t := 1) (by kernel_rfl)) ⟨_, rfl, hJ.still (by decide), fun _ => rfl, fun j u _ h => V39.any j u h⟩
                        | 5, _ =>
                          cases ho
                          exact wpOp_slice (vlo := some (.int .i64 (lgEnd ls j : Int))) (vhi := some (.int .i64 (come : Int))) (vmx := none) rfl rfl rfl (hI.slot 2 172 rfl (hpre ⟨2, .data⟩ (by simp) rfl) rfl) (congrArg some (hI.slot 3 173 rfl (hpre ⟨3, .data⟩ (by simp) rfl) rfl)) (congrArg some (hI.slot 4 174 rfl (hpre ⟨4, .data⟩ (by simp) rfl) rfl)) rfl
                            (lg_slice_lh w' ab J cb (lgEnd ls j) come hn14 (by omega)) ⟨_, rfl, hJ.still (by decide), fun _ => rfl, fun j u _ h => V39.any j u h⟩
                        | 6, _ =>
                          cases ho
                          have hW := hJ.a (hI.notyet (hI.notyet (hI.notyet hn' 7 (by kernel_rfl)) 8 (by kernel_rfl)) 9 (by kernel_rfl))
                          subst hW
                          have hlen5 : come - lgEnd ls j = (((lgJoin ls).take come).drop (lgEnd ls j)).length := by rw [List.length_drop, hT4]
                          exact wpOp_conv15 rfl rfl rfl (hI.slot 5 175 rfl (hpre ⟨5, .data⟩ (by simp) rfl) rfl) (by
                            rw [hlen5]
                            refine lg_conv _ _ _ _ wz.heap.size ?_
                            rw [List.drop_take]
                            exact lg_mid (mb4.below (Below.refl _ wr).drew) (by omega)) ⟨_, rfl, hJ.still (by decide), fun _ => rfl, fun j u _ h => V39.any j u h⟩
                        | 7, _ =>
                          cases ho
                          exact wpOp_eqS15 rfl rfl rfl (hI.slot 1 171 rfl (hpre ⟨1, .data⟩ (by simp) rfl) rfl) (hI.slot 6 176 rfl (hpre ⟨6, .data⟩ (by simp) rfl) rfl) ⟨_, rfl, hJ.still (by decide), fun _ => by simp [V39], fun j u _ h => V39.any j u h⟩
                        | 8, _ =>
                          cases ho
                          exact wpOp_move rfl rfl (.inl rfl) (hI.slot 7 177 rfl (hpre ⟨7, .data⟩ (by simp) rfl) rfl) ⟨_, rfl, hJ.still (by decide), fun _ => rfl, fun j u _ h => V39.any j u h⟩
                        | 9, _ =>
                          cases ho
                          refine wpOp_callFn (vs := #[]) rfl (wantedOf15 (j := 8) (b := true) rfl rfl rfl (by rw [hI.len]; show _ < 181; decide) (hI.slot 8 178 rfl (hpre ⟨8, .guard⟩ (by simp) rfl) rfl)) rfl (by simp) (fun _ _ => by kernel_rfl) ((lg_known w' (HT.out.below hJ.b (by rw [HBe.out] at *; exact hlt))).mono ?_)
                          rintro e' w4 ⟨rfl, hb5⟩
                          exact ⟨_, rfl, _, rfl, ⟨by rw [listed_same (by omega)]; (intro e; cases e), hJ.b.trans (hb5.mono (by have := hJ.b.size; have := HBe.out; omega))⟩, fun _ => rfl, fun j u _ h => V39.any j u h⟩
                        | 10, _ =>
                          cases ho
                          exact wpOp_pick15 (v := .bool true) (u := .bool true) rfl rfl rfl (hI.slot 8 178 rfl (hpre ⟨8, .data⟩ (by simp) rfl) rfl) (fun _ => hI.slot 9 179 rfl (hpre ⟨9, .data⟩ (by simp) rfl) rfl) (fun e => by cases e) rfl ⟨_, rfl, hJ.still (by decide), fun _ => rfl, fun j u _ h => V39.any j u h⟩
                        | 11, _ =>
                          cases ho
                          exact wpOp_move rfl rfl (.inr rfl) (hI.slot 10 180 rfl (hpre ⟨10, .data⟩ (by simp) rfl) rfl) ⟨_, rfl, hJ.still (by decide), fun _ => rfl, fun j u _ h => V39.any j u h⟩
                      case fin =>
                        intro listed a0 w' hI hall
                        have hbf := hI.inv.b
                        have h4 : a0.tmps.getD 4 undef = .bool true := hI.slot 11 4 rfl (hall 11 (by decide)) rfl
                        have hdf := hI.defers
                        obtain ⟨Tm, df⟩ := a0
                        simp only at hdf h4
                        subst hdf
                        have HF := Lib.hid (And.intro hbf h4)
                        clear hbf h4 hI hall
                        go_wp2
                        refine bodyPost_ret (results_tmp15 HF.out.2) rfl ?_
                        exact ⟨rfl, by rw [HBe.out]; exact HF.out.1⟩
                    · have hpos1 : ¬ (0 : Int) < j := by omega
                      have hj0 : j = 0 := by omega
                      have hE0 : lgEnd ls j = 0 := by rw [hj0]; rfl
                      clear me4
                      go_wp2
                      have hb4 := HB4.out
                      have hbw4 : Below B w wr := HB3.out.trans (hb4.mono (by have := HB3.out.size; have := HBe.out; omega))
                      have hbz : Below wz.heap.size wz wr := HC.out.1.trans (HR.out.1.mono HC.out.1.size |>.trans (hb4.mono (by have := HC.out.1.size; have := HR.out.1.size; omega)))
                      have mu4 := HR.out.2.2.1.below hb4
                      have mb4 := HX.out.2.1.below hbz
                      have hJ4 := HX.out.2.2.2.2.2.2.2.1
                      have hcb4 := HX.out.2.2.2.2.2.2.2.2.2
                      have hU4 := HR.out.2.2.2
                      have hT4 := HQ.out.2.2.2.2.1
                      rw [hE0] at hU4 mu4
                      have hn14 : 0 ≤ come := Nat.zero_le _
                      refine wp_region_m (I39 B w wr) (V39 au U cu ab J cb 0 come (((lgJoin ls).take come).drop 0)) (by kernel_rfl) (by kernel_rfl) (by kernel_rfl) (by kernel_rfl) ⟨fun _ => rfl, hbw4.drew⟩ ?step ?fin
                      case step =>
                        intro i o ho listed a0 w' hI hn' hpre
                        have hi : i < 12 := (Array.getElem?_eq_some_iff.1 ho).1
                        have hJ := hI.inv
                        have hsz : listed.size = 12 := hI.size
                        match i, hi with
                        | 0, _ =>
                          cases ho
                          exact wpOp_move rfl rfl (.inl rfl) (hI.kept (t := 16) (by kernel_rfl)) ⟨_, rfl, hJ.still (by decide), fun _ => rfl, fun j u _ h => V39.any j u h⟩
                        | 1, _ =>
                          cases ho
                          have hW := hJ.a (hI.notyet (hI.notyet (hI.notyet hn' 7 (by kernel_rfl)) 8 (by kernel_rfl)) 9 (by kernel_rfl))
                          subst hW
                          exact wpOp_conv15 rfl rfl rfl (hI.slot 0 170 rfl (hpre ⟨0, .data⟩ (by simp) rfl) rfl) (by rw [← hU4]; exact lg_conv _ au _ cu w3.heap.size (mu4.below (Below.refl _ wr).drew)) ⟨_, rfl, hJ.still (by decide), fun _ => rfl, fun j u _ h => V39.any j u h⟩
                        | 2, _ =>
                          cases ho
                          exact wpOp_move rfl rfl (.inl rfl) (hI.kept (t := 5) (by kernel_rfl)) ⟨_, rfl, hJ.still (by decide), fun _ => rfl, fun j u _ h => V39.any j u h⟩
                        | 3, _ =>
                          cases ho
                          exact wpOp_move rfl rfl (.inl rfl) (hI.kept (t := 20) (by kernel_rfl)) ⟨_, rfl, hJ.still (by decide), fun _ => rfl, fun j u _ h => V39.any j u h⟩
                        | 4, _ =>
                          cases ho
                          exact wpOp_move rfl rfl (.inl rfl) (hI.kept (t := 1) (by kernel_rfl)) ⟨_, rfl, hJ.still (by decide), fun _ => rfl, fun j u _ h => V39.any j u h⟩
                        | 5, _ =>
                          cases ho
                          exact wpOp_slice (vlo := some (.int .i64 ((0 : Nat) : Int))) (vhi := some (.int .i64 (come : Int))) (vmx := none) rfl rfl rfl (hI.slot 2 172 rfl (hpre ⟨2, .data⟩ (by simp) rfl) rfl) (congrArg some (hI.slot 3 173 rfl (hpre ⟨3, .data⟩ (by simp) rfl) rfl)) (congrArg some (hI.slot 4 174 rfl (hpre ⟨4, .data⟩ (by simp) rfl) rfl)) rfl
                            (lg_slice_lh w' ab J cb 0 come hn14 (by omega)) ⟨_, rfl, hJ.still (by decide), fun _ => rfl, fun j u _ h => V39.any j u h⟩
                        | 6, _ =>
                          cases ho
                          have hW := hJ.a (hI.notyet (hI.notyet (hI.notyet hn' 7 (by kernel_rfl)) 8 (by kernel_rfl)) 9 (by kernel_rfl))
                          subst hW
                          have hlen5 : come - 0 = (((lgJoin ls).take come).drop 0).length := by rw [List.length_drop, hT4]
                          exact wpOp_conv15 rfl rfl rfl (hI.slot 5 175 rfl (hpre ⟨5, .data⟩ (by simp) rfl) rfl) (by
                            rw [hlen5]
                            refine lg_conv _ _ _ _ wz.heap.size ?_
                            rw [List.drop_take]
                            exact lg_mid (mb4.below (Below.refl _ wr).drew) (by omega)) ⟨_, rfl, hJ.still (by decide), fun _ => rfl, fun j u _ h => V39.any j u h⟩
                        | 7, _ =>
                          cases ho
                          exact wpOp_eqS15 rfl rfl rfl (hI.slot 1 171 rfl (hpre ⟨1, .data⟩ (by simp) rfl) rfl) (hI.slot 6 176 rfl (hpre ⟨6, .data⟩ (by simp) rfl) rfl) ⟨_, rfl, hJ.still (by decide), fun _ => by simp [V39], fun j u _ h => V39.any j u h⟩
                        | 8, _ =>
                          cases ho
                          exact wpOp_move rfl rfl (.inl rfl) (hI.slot 7 177 rfl (hpre ⟨7, .data⟩ (by simp) rfl) rfl) ⟨_, rfl, hJ.still (by decide), fun _ => rfl, fun j u _ h => V39.any j u h⟩
                        | 9, _ =>
                          cases ho
                          refine wpOp_callFn (vs := #[]) rfl (wantedOf15 (j := 8) (b := true) rfl rfl rfl (by rw [hI.len]; show _ < 181; decide) (hI.slot 8 178 rfl (hpre ⟨8, .guard⟩ (by simp) rfl) rfl)) rfl (by simp) (fun _ _ => by kernel_rfl) ((lg_known w' (HT.out.below hJ.b (by rw [HBe.out] at *; exact hlt))).mono ?_)
                          rintro e' w4 ⟨rfl, hb5⟩
                          exact ⟨_, rfl, _, rfl, ⟨by rw [listed_same (by omega)]; (intro e; cases e), hJ.b.trans (hb5.mono (by have := hJ.b.size; have := HBe.out; omega))⟩, fun _ => rfl, fun j u _ h => V39.any j u h⟩
                        | 10, _ =>
                          cases ho
                          exact wpOp_pick15 (v := .bool true) (u := .bool true) rfl rfl rfl (hI.slot 8 178 rfl (hpre ⟨8, .data⟩ (by simp) rfl) rfl) (fun _ => hI.slot 9 179 rfl (hpre ⟨9, .data⟩ (by simp) rfl) rfl) (fun e => by cases e) rfl ⟨_, rfl, hJ.still (by decide), fun _ => rfl, fun j u _ h => V39.any j u h⟩
                        | 11, _ =>
                          cases ho
                          exact wpOp_move rfl rfl (.inr rfl) (hI.slot 10 180 rfl (hpre ⟨10, .data⟩ (by simp) rfl) rfl) ⟨_, rfl, hJ.still (by decide), fun _ => rfl, fun j u _ h => V39.any j u h⟩
                      case fin =>
                        intro listed a0 w' hI hall
                        have hbf := hI.inv.b
                        have h4 : a0.tmps.getD 4 undef = .bool true := hI.slot 11 4 rfl (hall 11 (by decide)) rfl
                        have hdf := hI.defers
                        obtain ⟨Tm, df⟩ := a0
                        simp only at hdf h4
                        subst hdf
                        have HF := Lib.hid (And.intro hbf h4)
                        clear hbf h4 hI hall
                        go_wp2
                        refine bodyPost_ret (results_tmp15 HF.out.2) rfl ?_
                        exact ⟨rfl, by rw [HBe.out]; exact HF.out.1⟩

            · obtain rfl : j = ls.length := by omega
              obtain rfl : n = ls.length := by omega
              have hjc : ¬ (ls.length : Int) < ls.length := by omega
              go_wp2
              obtain ⟨wz, hwz⟩ : ∃ wz, wz = wr := ⟨_, rfl⟩
              subst hwz
              go_loopw [4, 19, 147, 148, 149, 150, 151, 152, 153, 154, 155, 156, 157, 158, 159, 160, 161, 162] (fun _ x _ _ _ _ _ _ _ _ _ _ _ _ _ _ _ _ wr => ∃ i : Nat, x = .int .i64 i ∧ i ≤ ls.length ∧ Below w3.heap.size w3 wr) (fun _ x _ _ _ _ _ _ _ _ _ _ _ _ _ _ _ _ _ => ls.length - (intOf x).toNat)
              case atStart => exact ⟨0, rfl, Nat.zero_le _, Below.refl _ _⟩
              case round =>
                obtain ⟨i, rfl, hi, hb4⟩ := hrel
                by_cases hin : i < ls.length
                · have hic : (i : Int) < ls.length := by omega
                  obtain ⟨gp, cgp, aop, cpp, ep, hgp, hcp, hmp⟩ := HR.out.2.1.at i (by rw [List.length_take]; omega)
                  have hgd : (ls.take ls.length).getD i [] = ls.getD i [] := by
                    simp only [List.getD, List.getElem?_take]
                    rw [if_pos hin]
                  rw [hgd] at hcp hmp
                  obtain ⟨b, off, rfl, hbB, hcl⟩ := (HM.out.below (by rw [HBe.out]; exact HB3.out)) (by intro e; have h0 : ls.length = 0 := (by rw [e]; rfl); omega)
                  obtain ⟨ai, ci, hck, hmk⟩ := hcl i (by omega)
                  obtain ⟨eap, -, -⟩ := Value.slice.inj ep
                  have hil : (i : Int) < ls.length := by omega
                  obtain ⟨x, hx⟩ : ∃ x, ls.getD i [] = x := ⟨_, rfl⟩
                  rw [hx] at hcp hmp hck hmk
                  have hcp4 := (hb4.cell (p := ⟨gp, i, none⟩) hgp).trans hcp
                  have hck4 := (hb4.cell (p := ⟨b, off + i, none⟩) (by show b < _; have := HB3.out.size; omega)).trans hck
                  have k1 : ∀ r, (convert 22 9 (.slice aop x.length cpp)).run Tryd.prog (wr.drewN r) = .ok (.string ⟨x.toArray⟩) (wr.drewN r) := fun r => lg_conv _ aop x cpp w3.heap.size (hmp.below (below_drewN15 hb4 r))
                  have k2 : ∀ r, (convert 22 9 (.slice ai x.length ci)).run Tryd.prog (wr.drewN r) = .ok (.string ⟨x.toArray⟩) (wr.drewN r) := fun r => lg_conv _ ai x ci w.heap.size (hmk.below ((below_drewN15 hb4 r).mono HB3.out.size))
                  have HB4 := Lib.hid hb4
                  subst eap
                  clear hcl hmp hmk hgd ep hcp hck hb4
                  go_wp2
                  go_quiet (fail)
                  go_wp2_with fail
                  exact ⟨⟨i + 1, by go_num, by omega, below_drewN15 HB4.out nq⟩, by simp [intOf]; omega⟩
                · have hie : ls.length = i := by omega
                  subst hie
                  have hic : ¬ (ls.length : Int) < ls.length := by omega
                  have HB4 := Lib.hid hb4
                  have me4 := HME.out.keeps (KeepsOn.of_below hb4 (fun b (h : b < wz.heap.size) => by have := HC.out.1.size; have := HQ.out.2.2.2.2.2.1.size; have := HR.out.1.size; omega))
                  clear hb4
                  by_cases hpos : 0 < ls.length
                  · have hpos1 : (0 : Int) < ls.length := by omega
                    obtain ⟨ge, oe, ege, hge, hce⟩ := me4 (by intro e; have := lgEnds_len ls ls.length; rw [e] at this; simp at this; omega)
                    cases ege
                    have hcj := hce (ls.length - 1) (by rw [lgEnds_len]; omega)
                    have hv : (lgEnds ls ls.length)[ls.length - 1]?.getD 0 = (lgEnd ls ls.length : Int) := by
                      unfold lgEnds
                      rw [List.getElem?_map, List.getElem?_range (by omega)]
                      show (lgEnd ls (ls.length - 1 + 1) : Int) = _
                      rw [show ls.length - 1 + 1 = ls.length by omega]
                    rw [hv] at hcj
                    have hi1 : (0 : Int) ≤ (ls.length : Int) - 1 := by omega
                    have hi2 : (ls.length : Int) - 1 < ls.length := by omega
                    have hi3 : ((ls.length : Int) - 1).toNat = ls.length - 1 := by omega
                    clear hce hv
                    go_wp2
                    have hb4 := HB4.out
                    have hbw4 : Below B w wr := HB3.out.trans (hb4.mono (by have := HB3.out.size; have := HBe.out; omega))
                    have hbz : Below wz.heap.size wz wr := HC.out.1.trans (HR.out.1.mono HC.out.1.size |>.trans (hb4.mono (by have := HC.out.1.size; have := HR.out.1.size; omega)))
                    have mu4 := HR.out.2.2.1.below hb4
                    have mb4 := HX.out.2.1.below hbz
                    have hJ4 := HX.out.2.2.2.2.2.2.2.1
                    have hcb4 := HX.out.2.2.2.2.2.2.2.2.2
                    have hU4 := HR.out.2.2.2
                    have hT4 := HQ.out.2.2.2.2.1
                    have hn14 := HQ.out.1
                    refine wp_region_m (I39 B w wr) (V39 au U cu ab J cb (lgEnd ls ls.length) come (((lgJoin ls).take come).drop (lgEnd ls ls.length))) (by kernel_rfl) (by kernel_rfl) (by kernel_rfl) (by kernel_rfl) ⟨fun _ => rfl, hbw4.drew⟩ ?step ?fin
                    case step =>
                      intro i o ho listed a0 w' hI hn' hpre
                      have hi : i < 12 := (Array.getElem?_eq_some_iff.1 ho).1
                      have hJ := hI.inv
                      have hsz : listed.size = 12 := hI.size
                      match i, hi with
                      | 0, _ =>
                        cases ho
                        exact wpOp_move rfl rfl (.inl rfl) (hI.kept (t := 16) (by kernel_rfl)) ⟨_, rfl, hJ.still (by decide), fun _ => rfl, fun j u _ h => V39.any j u h⟩
                      | 1, _ =>
                        cases ho
                        have hW := hJ.a (hI.notyet (hI.notyet (hI.notyet hn' 7 (by kernel_rfl)) 8 (by kernel_rfl)) 9 (by kernel_rfl))
                        subst hW
                        exact wpOp_conv15 rfl rfl rfl (hI.slot 0 170 rfl (hpre ⟨0, .data⟩ (by simp) rfl) rfl) (by rw [← hU4]; exact lg_conv _ au _ cu w3.heap.size (mu4.below (Below.refl _ wr).drew)) ⟨_, rfl, hJ.still (by decide), fun _ => rfl, fun j u _ h => V39.any j u h⟩
                      | 2, _ =>
                        cases ho
                        exact wpOp_move rfl rfl (.inl rfl) (hI.kept (t := 5) (by kernel_rfl)) ⟨_, rfl, hJ.still (by decide), fun _ => rfl, fun j u _ h => V39.any j u h⟩
                      | 3, _ =>
                        cases ho
                        exact wpOp_move rfl rfl (.inl rfl) (hI.kept (t := 20) (by kernel_rfl)) ⟨_, rfl, hJ.still (by decide), fun _ => rfl, fun j u _ h => V39.any j u h⟩
                      | 4, _ =>
                        cases ho
                        exact wpOp_move rfl rfl (.inl rfl) (hI.kept (t := 1) (by kernel_rfl)) ⟨_, rfl, hJ.still (by decide), fun _ => rfl, fun j u _ h => V39.any j u h⟩
                      | 5, _ =>
                        cases ho
                        exact wpOp_slice (vlo := some (.int .i64 (lgEnd ls ls.length : Int))) (vhi := some (.int .i64 (come : Int))) (vmx := none) rfl rfl rfl (hI.slot 2 172 rfl (hpre ⟨2, .data⟩ (by simp) rfl) rfl) (congrArg some (hI.slot 3 173 rfl (hpre ⟨3, .data⟩ (by simp) rfl) rfl)) (congrArg some (hI.slot 4 174 rfl (hpre ⟨4, .data⟩ (by simp) rfl) rfl)) rfl
                          (lg_slice_lh w' ab J cb (lgEnd ls ls.length) come hn14 (by omega)) ⟨_, rfl, hJ.still (by decide), fun _ => rfl, fun j u _ h => V39.any j u h⟩
                      | 6, _ =>
                        cases ho
                        have hW := hJ.a (hI.notyet (hI.notyet (hI.notyet hn' 7 (by kernel_rfl)) 8 (by kernel_rfl)) 9 (by kernel_rfl))
                        subst hW
                        have hlen5 : come - lgEnd ls ls.length = (((lgJoin ls).take come).drop (lgEnd ls ls.length)).length := by rw [List.length_drop, hT4]
                        exact wpOp_conv15 rfl rfl rfl (hI.slot 5 175 rfl (hpre ⟨5, .data⟩ (by simp) rfl) rfl) (by
                          rw [hlen5]
                          refine lg_conv _ _ _ _ wz.heap.size ?_
                          rw [List.drop_take]
                          exact lg_mid (mb4.below (Below.refl _ wr).drew) (by omega)) ⟨_, rfl, hJ.still (by decide), fun _ => rfl, fun j u _ h => V39.any j u h⟩
                      | 7, _ =>
                        cases ho
                        exact wpOp_eqS15 rfl rfl rfl (hI.slot 1 171 rfl (hpre ⟨1, .data⟩ (by simp) rfl) rfl) (hI.slot 6 176 rfl (hpre ⟨6, .data⟩ (by simp) rfl) rfl) ⟨_, rfl, hJ.still (by decide), fun _ => by simp [V39], fun j u _ h => V39.any j u h⟩
                      | 8, _ =>
                        cases ho
                        exact wpOp_move rfl rfl (.inl rfl) (hI.slot 7 177 rfl (hpre ⟨7, .data⟩ (by simp) rfl) rfl) ⟨_, rfl, hJ.still (by decide), fun _ => rfl, fun j u _ h => V39.any j u h⟩
                      | 9, _ =>
                        cases ho
                        refine wpOp_callFn (vs := #[]) rfl (wantedOf15 (j := 8) (b := true) rfl rfl rfl (by rw [hI.len]; show _ < 181; decide) (hI.slot 8 178 rfl (hpre ⟨8, .guard⟩ (by simp) rfl) rfl)) rfl (by simp) (fun _ _ => by kernel_rfl) ((lg_known w' (HT.out.below hJ.b (by rw [HBe.out] at *; exact hlt))).mono ?_)
                        rintro e' w4 ⟨rfl, hb5⟩
                        exact ⟨_, rfl, _, rfl, ⟨by rw [listed_same (by omega)]; (intro e; cases e), hJ.b.trans (hb5.mono (by have := hJ.b.size; have := HBe.out; omega))⟩, fun _ => rfl, fun j u _ h => V39.any j u h⟩
                      | 10, _ =>
                        cases ho
                        exact wpOp_pick15 (v := .bool true) (u := .bool true) rfl rfl rfl (hI.slot 8 178 rfl (hpre ⟨8, .data⟩ (by simp) rfl) rfl) (fun _ => hI.slot 9 179 rfl (hpre ⟨9, .data⟩ (by simp) rfl) rfl) (fun e => by cases e) rfl ⟨_, rfl, hJ.still (by decide), fun _ => rfl, fun j u _ h => V39.any j u h⟩
                      | 11, _ =>
                        cases ho
                        exact wpOp_move rfl rfl (.inr rfl) (hI.slot 10 180 rfl (hpre ⟨10, .data⟩ (by simp) rfl) rfl) ⟨_, rfl, hJ.still (by decide), fun _ => rfl, fun j u _ h => V39.any j u h⟩
                    case fin =>
                      intro listed a0 w' hI hall
                      have hbf := hI.inv.b
                      have h4 : a0.tmps.getD 4 undef = .bool true := hI.slot 11 4 rfl (hall 11 (by decide)) rfl
                      have hdf := hI.defers
                      obtain ⟨Tm, df⟩ := a0
                      simp only at hdf h4
                      subst hdf
                      have HF := Lib.hid (And.intro hbf h4)
                      clear hbf h4 hI hall
                      go_wp2
                      refine bodyPost_ret (results_tmp15 HF.out.2) rfl ?_
                      exact ⟨rfl, by rw [HBe.out]; exact HF.out.1⟩
                  · have hpos1 : ¬ (0 : Int) < ls.length := by omega
                    have hj0 : ls.length = 0 := by omega
                    have hE0 : lgEnd ls ls.length = 0 := by rw [hj0]; rfl
                    clear me4
                    go_wp2
                    have hb4 := HB4.out
                    have hbw4 : Below B w wr := HB3.out.trans (hb4.mono (by have := HB3.out.size; have := HBe.out; omega))
                    have hbz : Below wz.heap.size wz wr := HC.out.1.trans (HR.out.1.mono HC.out.1.size |>.trans (hb4.mono (by have := HC.out.1.size; have := HR.out.1.size; omega)))
                    have mu4 := HR.out.2.2.1.below hb4
                    have mb4 := HX.out.2.1.below hbz
                    have hJ4 := HX.out.2.2.2.2.2.2.2.1
                    have hcb4 := HX.out.2.2.2.2.2.2.2.2.2
                    have hU4 := HR.out.2.2.2
                    have hT4 := HQ.out.2.2.2.2.1
                    rw [hE0] at hU4 mu4
                    have hn14 : 0 ≤ come := Nat.zero_le _
                    refine wp_region_m (I39 B w wr) (V39 au U cu ab J cb 0 come (((lgJoin ls).take come).drop 0)) (by kernel_rfl) (by kernel_rfl) (by kernel_rfl) (by kernel_rfl) ⟨fun _ => rfl, hbw4.drew⟩ ?step ?fin
                    case step =>
                      intro i o ho listed a0 w' hI hn' hpre
                      have hi : i < 12 := (Array.getElem?_eq_some_iff.1 ho).1
                      have hJ := hI.inv
                      have hsz : listed.size = 12 := hI.size
                      match i, hi with
                      | 0, _ =>
                        cases ho
                        exact wpOp_move rfl rfl (.inl rfl) (hI.kept (t := 16) (by kernel_rfl)) ⟨_, rfl, hJ.still (by decide), fun _ => rfl, fun j u _ h => V39.any j u h⟩
                      | 1, _ =>
                        cases ho
                        have hW := hJ.a (hI.notyet (hI.notyet (hI.notyet hn' 7 (by kernel_rfl)) 8 (by kernel_rfl)) 9 (by kernel_rfl))
                        subst hW
                        exact wpOp_conv15 rfl rfl rfl (hI.slot 0 170 rfl (hpre ⟨0, .data⟩ (by simp) rfl) rfl) (by rw [← hU4]; exact lg_conv _ au _ cu w3.heap.size (mu4.below (Below.refl _ wr).drew)) ⟨_, rfl, hJ.still (by decide), fun _ => rfl, fun j u _ h => V39.any j u h⟩
                      | 2, _ =>
                        cases ho
                        exact wpOp_move rfl rfl (.inl rfl) (hI.kept (t := 5) (by kernel_rfl)) ⟨_, rfl, hJ.still (by decide), fun _ => rfl, fun j u _ h => V39.any j u h⟩
                      | 3, _ =>
                        cases ho
                        exact wpOp_move rfl rfl (.inl rfl) (hI.kept (t := 20) (by kernel_rfl)) ⟨_, rfl, hJ.still (by decide), fun _ => rfl, fun j u _ h => V39.any j u h⟩
                      | 4, _ =>
                        cases ho
                        exact wpOp_move rfl rfl (.inl rfl) (hI.kept (t := 1) (by kernel_rfl)) ⟨_, rfl, hJ.still (by decide), fun _ => rfl, fun j u _ h => V39.any j u h⟩
                      | 5, _ =>
                        cases ho
                        exact wpOp_slice (vlo := some (.int .i64 ((0 : Nat) : Int))) (vhi := some (.int .i64 (come : Int))) (vmx := none) rfl rfl rfl (hI.slot 2 172 rfl (hpre ⟨2, .data⟩ (by simp) rfl) rfl) (congrArg some (hI.slot 3 173 rfl (hpre ⟨3, .data⟩ (by simp) rfl) rfl)) (congrArg some (hI.slot 4 174 rfl (hpre ⟨4, .data⟩ (by simp) rfl) rfl)) rfl
                          (lg_slice_lh w' ab J cb 0 come hn14 (by omega)) ⟨_, rfl, hJ.still (by decide), fun _ => rfl, fun j u _ h => V39.any j u h⟩
                      | 6, _ =>
                        cases ho
                        have hW := hJ.a (hI.notyet (hI.notyet (hI.notyet hn' 7 (by kernel_rfl)) 8 (by kernel_rfl)) 9 (by kernel_rfl))
                        subst hW
                        have hlen5 : come - 0 = (((lgJoin ls).take come).drop 0).length := by rw [List.length_drop, hT4]
                        exact wpOp_conv15 rfl rfl rfl (hI.slot 5 175 rfl (hpre ⟨5, .data⟩ (by simp) rfl) rfl) (by
                          rw [hlen5]
                          refine lg_conv _ _ _ _ wz.heap.size ?_
                          rw [List.drop_take]
                          exact lg_mid (mb4.below (Below.refl _ wr).drew) (by omega)) ⟨_, rfl, hJ.still (by decide), fun _ => rfl, fun j u _ h => V39.any j u h⟩
                      | 7, _ =>
                        cases ho
                        exact wpOp_eqS15 rfl rfl rfl (hI.slot 1 171 rfl (hpre ⟨1, .data⟩ (by simp) rfl) rfl) (hI.slot 6 176 rfl (hpre ⟨6, .data⟩ (by simp) rfl) rfl) ⟨_, rfl, hJ.still (by decide), fun _ => by simp [V39], fun j u _ h => V39.any j u h⟩
                      | 8, _ =>
                        cases ho
                        exact wpOp_move rfl rfl (.inl rfl) (hI.slot 7 177 rfl (hpre ⟨7, .data⟩ (by simp) rfl) rfl) ⟨_, rfl, hJ.still (by decide), fun _ => rfl, fun j u _ h => V39.any j u h⟩
                      | 9, _ =>
                        cases ho
                        refine wpOp_callFn (vs := #[]) rfl (wantedOf15 (j := 8) (b := true) rfl rfl rfl (by rw [hI.len]; show _ < 181; decide) (hI.slot 8 178 rfl (hpre ⟨8, .guard⟩ (by simp) rfl) rfl)) rfl (by simp) (fun _ _ => by kernel_rfl) ((lg_known w' (HT.out.below hJ.b (by rw [HBe.out] at *; exact hlt))).mono ?_)
                        rintro e' w4 ⟨rfl, hb5⟩
                        exact ⟨_, rfl, _, rfl, ⟨by rw [listed_same (by omega)]; (intro e; cases e), hJ.b.trans (hb5.mono (by have := hJ.b.size; have := HBe.out; omega))⟩, fun _ => rfl, fun j u _ h => V39.any j u h⟩
                      | 10, _ =>
                        cases ho
                        exact wpOp_pick15 (v := .bool true) (u := .bool true) rfl rfl rfl (hI.slot 8 178 rfl (hpre ⟨8, .data⟩ (by simp) rfl) rfl) (fun _ => hI.slot 9 179 rfl (hpre ⟨9, .data⟩ (by simp) rfl) rfl) (fun e => by cases e) rfl ⟨_, rfl, hJ.still (by decide), fun _ => rfl, fun j u _ h => V39.any j u h⟩
                      | 11, _ =>
                        cases ho
                        exact wpOp_move rfl rfl (.inr rfl) (hI.slot 10 180 rfl (hpre ⟨10, .data⟩ (by simp) rfl) rfl) ⟨_, rfl, hJ.still (by decide), fun _ => rfl, fun j u _ h => V39.any j u h⟩
                    case fin =>
                      intro listed a0 w' hI hall
                      have hbf := hI.inv.b
                      have h4 : a0.tmps.getD 4 undef = .bool true := hI.slot 11 4 rfl (hall 11 (by decide)) rfl
                      have hdf := hI.defers
                      obtain ⟨Tm, df⟩ := a0
                      simp only at hdf h4
                      subst hdf
                      have HF := Lib.hid (And.intro hbf h4)
                      clear hbf h4 hI hall
                      go_wp2
                      refine bodyPost_ret (results_tmp15 HF.out.2) rfl ?_
                      exact ⟨rfl, by rw [HBe.out]; exact HF.out.1⟩

theorem lengthBack_any (a : Option Addr) (ls : List (List UInt8)) (c : Nat) (z : Int) (w : World) (hm : LgRuns w.heap.size w a ls) (ht : LgTab w) :
    Calls Tryd.prog 5 #[.slice a ls.length c, .int .i64 z] w fun e w' => LgTrue w e w' := by
  by_cases h : 20 < ls.length
  · exact lengthBack_long a ls c z w ht h
  · exact lengthBack_some a ls c z w hm ht (by omega)
end Go.Proofs.YtmbjdfmbbmeofaaDoor
