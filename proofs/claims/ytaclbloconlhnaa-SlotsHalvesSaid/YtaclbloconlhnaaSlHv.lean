/- Layer 5: Halve. -/
import Derived.Test.YtaclbloconlhnaaSlZ
import Derived.Test.YtaclbloconlhnaaSlV
namespace Go.Proofs.Ytaclbloconlhnaa
open Go.RowKit

theorem slice_lo (w : World) (b off N c n : Nat) (h : n ≤ c) : (Instr.sliceAt 23 (.slice (some ⟨b, off, none⟩) N c) none (some (.int .i64 n)) none).run Try.prog w = .ok (.slice (some ⟨b, off, none⟩) n c) w := by
  have h1 : (0 : Int) ≤ n := by omega
  have h2 : (n : Int) ≤ c := by omega
  simp [go_sem, h1, h2]
theorem slice_hi (w : World) (b off N c n : Nat) (h : n < N) (hN : N ≤ c) : (Instr.sliceAt 23 (.slice (some ⟨b, off, none⟩) N c) (some (.int .i64 n)) none none).run Try.prog w = .ok (.slice (some ⟨b, off + n * 5, none⟩) (N - n) (c - n)) w := by
  have h1 : (0 : Int) ≤ n := by omega
  have h2 : (n : Int) ≤ N := by omega
  simp [go_sem, h1, h2]
  omega
def HvV (n0 : Nat) (sl : Value) (b off n N cap : Nat) (L1 L2 : List Cv) : Nat → Value → World → Prop
  | 0, v, _ => v = sl
  | 1, v, _ => v = .int .i64 n
  | 2, v, _ => v = .slice (some ⟨b, off, none⟩) n cap
  | 3, v, w => OwnC w n0 v L1
  | 4, v, _ => v = sl
  | 5, v, _ => v = .int .i64 n
  | 6, v, _ => v = .slice (some ⟨b, off + n * 5, none⟩) (N - n) (cap - n)
  | 7, v, w => OwnC w n0 v L2
  | 8, v, w => OwnC w n0 v L1
  | 9, v, w => OwnC w n0 v L2
  | 10, v, _ => v = .int .i64 0
  | _, _, _ => True
theorem HvV.below {n0 : Nat} {sl : Value} {b off n N cap : Nat} {L1 L2 : List Cv} {w w' : World} (hb : Below w.heap.size w w') : ∀ j u, HvV n0 sl b off n N cap L1 L2 j u w → HvV n0 sl b off n N cap L1 L2 j u w' := by
  intro j u h
  unfold HvV at h ⊢
  split at h
  all_goals first | exact h | exact OwnC.below h hb
def HalvePost (w : World) (k : Int) (L : List Cv) (e : Ending) (w' : World) : Prop := Below w.heap.size w w' ∧
  (((RightC k L ∧ 2 ≤ L.length) ∧ ∃ (n least : Nat) (v1 v2 : Value), MidAt (bytesOf (k == 2) L) (L.length - 1) n least ∧ e = .returned (.tuple #[v1, v2, .int .i64 0]) ∧ OwnC w' w.heap.size v1 (L.take n) ∧ OwnC w' w.heap.size v2 (L.drop n)) ∨
   (¬ (RightC k L ∧ 2 ≤ L.length) ∧ e = .returned (.tuple #[.slice none 0 0, .slice none 0 0, .int .i64 2])))
set_option maxRecDepth 100000 in
set_option maxHeartbeats 2000000 in
theorem halve_any (k : Int) (hw : (Lit.int .i64 k).wf = true) (w : World) (a : Option Addr) (L : List Cv) (cap : Nat) (hle : L.length ≤ cap) (hcap : L.length ≤ 1000) (hm : CellsAt w.heap.size w a L) :
    Calls Try.prog 22 #[.int .i64 k, .slice a L.length cap] w fun e w' => HalvePost w k L e w' := by
  have HC := Lib.hid (laid_any k hw w a L cap hcap hm)
  have HM := Lib.hid hm
  clear hm
  go_enter Try.func22, Try.ntmps22
  go_wp2_with fail
  refine HC.out.mono ?_
  rintro e w2 ⟨hb, ⟨hr, v, rfl, hO⟩ | ⟨hr, rfl⟩⟩
  case inr =>
    have H := Lib.hid (And.intro hb hr)
    clear hb hr HC
    go_wp2
    go_ret3
    exact ⟨H.out.1, .inr ⟨fun h => H.out.2 h.1, rfl⟩⟩
  by_cases h2 : 2 ≤ L.length
  case neg =>
    have hd : (L.length : Int) < 2 := by omega
    have hd2 : decide ((L.length : Int) < 2) = true := decide_eq_true hd
    have H := Lib.hid (And.intro hb h2)
    clear hb hr HC h2
    go_wp2
    go_ret3
    exact ⟨H.out.1, .inr ⟨fun h => H.out.2 h.2, rfl⟩⟩
  have hd : ¬ ((L.length : Int) < 2) := by omega
  obtain ⟨a1, c1, rfl, hR, hc1⟩ := hO.run
  have hMID := middle_any (bytesOf (k == 2) L) a1 c1 hc1 w2 hR (by rw [bytesOf_len]; exact h2) (by rw [bytesOf_len]; exact hcap) (bytesOf_le _ _)
  rw [bytesOf_len] at hMID hc1 ⊢
  obtain ⟨b, off, rfl, hbs, hcs⟩ := (HM.out.below hb) (by rintro rfl; simp at h2)
  have HMID := Lib.hid hMID
  have HX := Lib.hid (And.intro hb (And.intro hr (And.intro hcs hbs)))
  clear hb hr HC hO hR hMID hc1 hcs hbs
  go_wp2_with fail
  refine HMID.out.mono ?_
  rintro e w' ⟨⟨n, least, rfl, hmid⟩, rfl⟩
  rw [bytesOf_len] at hmid
  obtain ⟨hn1, hn2, -⟩ := hmid.2 (by omega)
  have hblt : b < w2.heap.size := Nat.lt_of_lt_of_le HX.out.2.2.2 HX.out.1.size
  have hl1 : (L.take n).length = n := by rw [List.length_take]; omega
  have hl2 : (L.drop n).length = L.length - n := List.length_drop
  have hcl1 : ∀ w' : World, Below w2.heap.size w2 w' → Calls Try.prog 42 #[.slice (some ⟨b, off, none⟩) n cap] w' fun e w'' => CopyPost w' (L.take n) e w'' := fun w' hB => by
    have := cloneC_any w' b off (L.take n) cap w2.heap.size hblt hB.size (fun j hj => by
      have h := HX.out.2.2.1 j (by rw [hl1] at hj; omega)
      rw [show (L.take n).getD j default = L.getD j default by simp [List.getD, show j < n by rw [hl1] at hj; exact hj]]
      exact h.below hB hblt) (by omega)
    rwa [hl1] at this
  have hcl2 : ∀ w' : World, Below w2.heap.size w2 w' → Calls Try.prog 42 #[.slice (some ⟨b, off + n * 5, none⟩) (L.length - n) (cap - n)] w' fun e w'' => CopyPost w' (L.drop n) e w'' := fun w' hB => by
    have := cloneC_any w' b (off + n * 5) (L.drop n) (cap - n) w2.heap.size hblt hB.size (fun j hj => by
      have h := HX.out.2.2.1 (n + j) (by rw [hl2] at hj; omega)
      rw [show (L.drop n).getD j default = L.getD (n + j) default by simp [List.getD, List.getElem?_drop], show off + n * 5 + j * 5 = off + (n + j) * 5 by omega]
      exact h.below hB hblt) (by omega)
    rwa [hl2] at this
  have HCL := Lib.hid (And.intro hcl1 hcl2)
  have HMD := Lib.hid hmid
  clear hcl1 hcl2 hmid hl1 hl2
  go_wp2_with fail
  refine wp_region_m (fun _ w' => Below w2.heap.size w2 w') (HvV w2.heap.size (.slice (some ⟨b, off, none⟩) L.length cap) b off n L.length cap (L.take n) (L.drop n)) (by kernel_rfl) (by kernel_rfl) (by kernel_rfl) (by kernel_rfl) (Below.refl _ _).drew ?step5 ?fin5
  case step5 =>
      intro i0 o ho listed a' w' hI hn' hpre
      have hi0 : i0 < 11 := (Array.getElem?_eq_some_iff.1 ho).1
      have hB := hI.inv
      match i0, hi0 with
      | 0, _ =>
        cases ho
        exact wpOp_move rfl rfl (.inl rfl) (hI.kept (t := 1) (by kernel_rfl)) ⟨_, rfl, hB, fun _ => rfl, fun _ _ _ h => h⟩
      | 1, _ =>
        cases ho
        exact wpOp_move rfl rfl (.inl rfl) (hI.kept (t := 9) (by kernel_rfl)) ⟨_, rfl, hB, fun _ => rfl, fun _ _ _ h => h⟩
      | 2, _ =>
        cases ho
        exact wpOp_slice rfl rfl rfl (hI.slot 0 25 rfl (hpre ⟨0, .data⟩ (by simp) rfl) rfl) rfl (congrArg some (hI.slot 1 26 rfl (hpre ⟨1, .data⟩ (by simp) rfl) rfl)) rfl (slice_lo w' b off L.length cap n (by omega)) ⟨_, rfl, hB, fun _ => rfl, fun _ _ _ h => h⟩
      | 3, _ =>
        cases ho
        have e0 : a'.eval (.tmp 27) = .slice (some ⟨b, off, none⟩) n cap := (hI.slot 2 27 rfl (hpre ⟨2, .data⟩ (by simp) rfl) rfl)
        refine wpOp_callFn rfl rfl rfl (vs := #[.slice (some ⟨b, off, none⟩) n cap]) (by simp only [List.map_toArray, List.map_cons, List.map_nil, e0]) (fun _ _ => by kernel_rfl) ((HCL.out.1 w' hB).mono ?_)
        rintro e w'' ⟨v9, rfl, hO9, hb9⟩
        exact ⟨_, rfl, _, rfl, hB.trans (hb9.mono hB.size), fun _ => hO9.mono hB.size, fun j u _ h => HvV.below hb9 j u h⟩
      | 4, _ =>
        cases ho
        exact wpOp_move rfl rfl (.inl rfl) (hI.kept (t := 1) (by kernel_rfl)) ⟨_, rfl, hB, fun _ => rfl, fun _ _ _ h => h⟩
      | 5, _ =>
        cases ho
        exact wpOp_move rfl rfl (.inl rfl) (hI.kept (t := 9) (by kernel_rfl)) ⟨_, rfl, hB, fun _ => rfl, fun _ _ _ h => h⟩
      | 6, _ =>
        cases ho
        exact wpOp_slice rfl rfl rfl (hI.slot 4 29 rfl (hpre ⟨4, .data⟩ (by simp) rfl) rfl) (congrArg some (hI.slot 5 30 rfl (hpre ⟨5, .data⟩ (by simp) rfl) rfl)) rfl rfl (slice_hi w' b off L.length cap n (by omega) (by omega)) ⟨_, rfl, hB, fun _ => rfl, fun _ _ _ h => h⟩
      | 7, _ =>
        cases ho
        have e0 : a'.eval (.tmp 31) = .slice (some ⟨b, off + n * 5, none⟩) (L.length - n) (cap - n) := (hI.slot 6 31 rfl (hpre ⟨6, .data⟩ (by simp) rfl) rfl)
        refine wpOp_callFn rfl rfl rfl (vs := #[.slice (some ⟨b, off + n * 5, none⟩) (L.length - n) (cap - n)]) (by simp only [List.map_toArray, List.map_cons, List.map_nil, e0]) (fun _ _ => by kernel_rfl) ((HCL.out.2 w' hB).mono ?_)
        rintro e w'' ⟨v9, rfl, hO9, hb9⟩
        exact ⟨_, rfl, _, rfl, hB.trans (hb9.mono hB.size), fun _ => hO9.mono hB.size, fun j u _ h => HvV.below hb9 j u h⟩
      | 8, _ =>
        cases ho
        exact wpOp_move rfl rfl (.inr rfl) rfl ⟨_, rfl, hB, fun _ => (hI.slot 3 28 rfl (hpre ⟨3, .data⟩ (by simp) rfl) rfl), fun _ _ _ h => h⟩
      | 9, _ =>
        cases ho
        exact wpOp_move rfl rfl (.inr rfl) rfl ⟨_, rfl, hB, fun _ => (hI.slot 7 32 rfl (hpre ⟨7, .data⟩ (by simp) rfl) rfl), fun _ _ _ h => h⟩
      | 10, _ =>
        cases ho
        exact wpOp_move rfl rfl (.inr rfl) rfl ⟨_, rfl, hB, fun _ => rfl, fun _ _ _ h => h⟩
  case fin5 =>
    intro listed a' w' hI hall
    have hB := hI.inv
    have s8 : OwnC w' w2.heap.size (a'.tmps.getD 4 undef) (L.take n) := hI.slot 8 4 rfl (hall 8 (by decide)) rfl
    have s9 : OwnC w' w2.heap.size (a'.tmps.getD 5 undef) (L.drop n) := hI.slot 9 5 rfl (hall 9 (by decide)) rfl
    have s10 : a'.tmps.getD 6 undef = .int .i64 0 := hI.slot 10 6 rfl (hall 10 (by decide)) rfl
    obtain ⟨vs', us, hvl', hul, hvs, -, e⟩ := hI.frame2 4 3 25 8 (by decide) (Nat.le_of_ble_eq_true (by kernel_rfl)) (by kernel_rfl)
    have v0 := hvs 0 (by decide)
    have v1 := hvs 1 (by decide)
    have v2 := hvs 2 (by decide)
    have HF := Lib.hid (And.intro (go_on HX.out.1 hB) (And.intro s8 s9))
    match vs', us, hvl', hul with
    | [p0, p1, p2], [x0, x1, x2, x3, x4, x5, x6, x7], _, _ =>
    simp only [List.getElem?_cons_zero, List.getElem?_cons_succ, Option.some.injEq, Nat.add_zero, Nat.reduceAdd] at v0 v1 v2
    rw [s10] at v2
    rw [← v0, ← v1] at HF
    clear hI hall hvs hB s8 s9 s10 v0 v1
    subst v2
    simp only [List.take_succ_cons, List.take_zero, List.drop_succ_cons, List.drop_zero, List.cons_append, List.nil_append, Nat.reduceAdd, Nat.reduceSub] at e
    subst e
    go_wp2
    go_ret3
    exact ⟨HF.out.1, .inl ⟨⟨HX.out.2.1, h2⟩, n, least, p0, p1, HMD.out, rfl, HF.out.2.1.mono HX.out.1.size, HF.out.2.2.mono HX.out.1.size⟩⟩
end Go.Proofs.Ytaclbloconlhnaa
