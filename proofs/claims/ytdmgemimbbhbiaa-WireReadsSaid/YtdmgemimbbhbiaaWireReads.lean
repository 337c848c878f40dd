/- Layer 3: the law on reading. -/
import Derived.Test.YtdmgemimbbhbiaaWirePts
import Derived.Test.YtdmgemimbbhbiaaWireOwn
import Derived.Test.YtdmgemimbbhbiaaRegOps
import Derived.Deep.CutBlock
import Derived.Deep.DeepCutAuto
namespace Go.Proofs.Ytdmgemimbbhbiaa
open Go.RowKit

theorem sliceFromK (kd : IntKind) (w : World) (ao : Option Addr) (n c i : Nat) (hi : i ≤ n) : (Instr.sliceAt 40 (.slice ao n c) (some (.int kd i)) none none).run Try.prog w = .ok (.slice (slFrom ao c i) (n - i) (c - i)) w := by
  have hel : Try.prog.elem 40 = 5 := by kernel_rfl
  have hu : Try.prog.underlying 40 = some (.slice (Try.prog.elem 40)) := by rw [hel]; exact Try.underlying40
  have hs : (sizeOf 5).run Try.prog w = .ok 1 w := by kernel_rfl
  have h1 := (run_sliceAt_slice (P := Try.prog) w 40 _ _ _ _ hu).trans (run_slice_l (P := Try.prog) w 40 ao n c hu kd (i : Int) (by omega) (by omega))
  rw [hel, hs] at h1
  simp only [Result.andThen_ok, Int.toNat_natCast, sliced] at h1
  exact h1
theorem sliceMid (w : World) (ao : Option Addr) (n c h : Nat) (h2 : 2 ≤ h) (hc : h ≤ c) : (Instr.sliceAt 40 (.slice ao n c) (some (.int .i64 2)) (some (.int .u64 h)) none).run Try.prog w = .ok (.slice (slFrom ao c 2) (h - 2) (c - 2)) w := by
  have hel : Try.prog.elem 40 = 5 := by kernel_rfl
  have hu : Try.prog.underlying 40 = some (.slice (Try.prog.elem 40)) := by rw [hel]; exact Try.underlying40
  have hs : (sizeOf 5).run Try.prog w = .ok 1 w := by kernel_rfl
  have h1 := (run_sliceAt_slice (P := Try.prog) w 40 _ _ _ _ hu).trans (run_slice_lh (P := Try.prog) w 40 ao n c hu .i64 .u64 2 (h : Int) (by omega) (by omega) (by omega))
  rw [hel, hs] at h1
  simp only [Result.andThen_ok, Int.toNat_natCast, sliced] at h1
  exact h1
theorem IsRd.setLow {n₀ : Nat} {w : World} {B : Nat} {r : List UInt8} (h : IsRd n₀ w B r) {g i : Nat} (hg : g < n₀) (x : Value) : IsRd n₀ (w.setCell ⟨g, i, none⟩ x) B r := by
  obtain ⟨v, l, j, h, e⟩ := h
  refine ⟨v, l, j, h.kept (set_grown w ⟨g, i, none⟩ x) (fun e => ?_) ?_, e⟩
  · have h1 : B = g := Option.some.inj e
    have := h.lo; omega
  · refine .inr fun e => ?_
    have := h.own.block g e; omega

/-- What the operations of a round's last test yield. -/
def TailSp (n₁ R : Nat) (ab : Option Addr) (l : List UInt8) (cb : Nat) : Nat → Value → World → Prop
  | 1, u, _ => u = .int .i64 l.length
  | 2, u, _ => u = .slice ab l.length cb
  | 3, u, _ => u = .int .i64 l.length
  | 4, u, _ => u = .bool false
  | 5, u, _ => u = .bool false
  | 7, u, w => OwnB w n₁ u l
  | 8, u, _ => u = .string ⟨l.toArray⟩
  | 9, u, _ => u = .slice ab l.length cb
  | 10, u, _ => u = .string ⟨l.toArray⟩
  | 11, u, _ => u = .bool false
  | 12, u, _ => u = .bool false
  | _, u, _ => u = wptr R
theorem TailSp.below {n₁ R cb : Nat} {ab : Option Addr} {l : List UInt8} {w w' : World} (hb : Below w.heap.size w w') (_ : n₁ ≤ w.heap.size) : ∀ j u, TailSp n₁ R ab l cb j u w → TailSp n₁ R ab l cb j u w' := by
  intro j u h
  unfold TailSp at h ⊢
  split at h
  all_goals first
    | exact OwnB.below h hb
    | exact h
set_option maxRecDepth 100000 in
set_option maxHeartbeats 8000000 in
theorem wireReads_any (ab : Option Addr) (l : List UInt8) (cb : Nat) (a : Option Addr) (L : List PtV) (cap : Nat) (hcl : l.length ≤ cb) (hnb : ab = none → cb = 0) (hLl : L.length ≤ 9223372036854775807) (w : World) (hb : BytesAt w.heap.size w ab l) (hm : PtsAt w.heap.size w a L) :
    Calls Try.prog 10 #[.slice ab l.length cb, .slice a L.length cap] w fun e w' => e = .returned (.bool true) ∧ Below w.heap.size w w' := by
  have HK := Lib.hid wknown_any
  by_cases h1 : 3000 < l.length
  · have hd : decide ((3000 : Int) < (l.length : Int)) = true := by simp; omega
    go_enter Try.func10, Try.ntmps10
    go_wp2_with (go_at_call 35; refine (HK.out w).mono ?_; rintro e w' ⟨rfl, hb⟩)
    go_ret
    exact ⟨rfl, hb⟩
  · have hd : decide ((3000 : Int) < (l.length : Int)) = false := by simp; omega
    by_cases h2 : 30 < L.length
    · have hd2 : decide ((30 : Int) < (L.length : Int)) = true := by simp; omega
      go_enter Try.func10, Try.ntmps10
      go_wp2_with (go_at_call 35; refine (HK.out w).mono ?_; rintro e w' ⟨rfl, hb⟩)
      go_ret
      exact ⟨rfl, hb⟩
    · have hd2 : decide ((30 : Int) < (L.length : Int)) = false := by simp; omega
      have HM := Lib.hid hm
      have HB := Lib.hid hb
      have HNB := Lib.hid hnb
      clear hm hnb
      have O0 : OwnB w w.heap.size (.slice none 0 0) [] := OwnB.nil _ _
      have q1 : ([] : List UInt8).length + l.length ≤ 1099511627776 := by simp; omega
      go_enter Try.func10, Try.ntmps10
      go_wp2_with (first
        | (at_builtin; refine wpList_append_bytes rfl _ _ rfl w.heap.size w.heap.size _ _ rfl O0 ab l cb rfl HNB.out hcl hb q1 (Nat.le_refl _) ?_; intro v1 w1 O1 g1; rw [List.nil_append] at O1; have b1 := O0.grown g1 (Below.refl _ _) (Nat.le_refl _) (Nat.le_refl _); obtain ⟨a1, c1, hv1, hm1, hle1, -, hn1, -⟩ := O1.form; subst hv1; have HN1 := Lib.hid hn1; clear hn1 g1 O0 hb)
        | (go_at_call 44; refine (newReader_any _ a1 l c1 _ hm1 HN1.out hle1 (by omega)).mono ?_; rintro e w2 ⟨R, rfl, hR2, hb2⟩; have O2 := O1.below hb2; have hlt2 := fun j hj => (World.ownsRow.lt O1 j hj).2; have B2 := b1.trans (hb2.mono b1.size); clear hm1 O1))
      have S1 := Lib.hid b1.size
      clear b1 hb2 hle1
      obtain ⟨m, hml⟩ : ∃ m, l.length = m := ⟨_, rfl⟩
      have hm3 : m ≤ 3000 := by omega
      rw [hml] at O2 hlt2 ⊢
      have HML := Lib.hid hml
      go_loopw [7] (fun y wr => ∃ (k : Nat) (l' : List UInt8), y = .int .i64 k ∧ k ≤ m ∧ OwnB wr w.heap.size (.slice a1 m c1) l' ∧ l'.length = m ∧ IsRd w1.heap.size wr R l ∧ Below w.heap.size w wr)
        (fun y _ => m - (intOf y).toNat)
      case atStart => exact ⟨0, l, rfl, Nat.zero_le _, O2, hml, hR2, B2⟩
      case round =>
        obtain ⟨k, l', rfl, hk, hO, hlm, hRk, hbr⟩ := hrel
        by_cases hlt : k < m
        · obtain ⟨g, rfl⟩ : ∃ g, a1 = some ⟨g, 0, none⟩ := by
            rcases hO.bytes with ⟨e, hl⟩ | ⟨g, c, e, -⟩
            · rw [hl] at hlm; simp at hlm; omega
            · injection e with e1 e2 e3; exact ⟨g, e1⟩
          obtain ⟨c, hc⟩ : ∃ c, l'[k]?.getD 0 = c := ⟨_, rfl⟩
          have hgw : w.heap.size ≤ g := hO.block g rfl
          have hcell : wr.cell? ⟨g, k, none⟩ = some (.int .u8 (c.toNat : Int)) ∧ wr.frozen? ⟨g, k, none⟩ = false := by
            rcases hO.bytes with ⟨e, -⟩ | ⟨g', c', e, -, -, -, -, -, hcc⟩
            · cases e
            · cases e
              rw [← hc]; exact hcc k (by omega)
          obtain ⟨hcl2, hfr⟩ := hcell
          have hset := hO.set k (UInt8.ofNat (c.toNat + 1))
          rw [bumped] at hset
          have hbs : Below w.heap.size w (wr.setCell ⟨g, k, none⟩ (.int .u8 (((c.toNat : Int) + 1) % 256))) := hbr.setCell hgw _
          have hrs := hRk.setLow (g := g) (i := k) (hlt2 g rfl) (.int .u8 (((c.toNat : Int) + 1) % 256))
          have hkm : (k : Int) < m := by omega
          have hc8 := UInt8.toNat_lt c
          have HSET := Lib.hid hset
          have HBS := Lib.hid hbs
          have HRS := Lib.hid hrs
          clear hset hbs hc hO hrs hRk
          go_wp2
          exact ⟨⟨k + 1, _, by rw [show ((k + 1 : Nat) : Int) = (k : Int) + 1 by omega], hlt, HSET.out, by rw [List.length_set]; exact hlm, HRS.out, HBS.out⟩, by simp only [intOf]; omega⟩
        · obtain rfl : k = m := by omega
          have hkm : ¬ ((k : Int) < k) := by omega
          clear O2 hO hR2 B2 hlt2
          have hby := HB.out.below hbr
          go_wp2
          have HBY := Lib.hid hby
          have HRK := Lib.hid hRk
          have HBR := Lib.hid hbr
          clear hby hRk hbr
          go_loopw [0, 8] (fun x y wr => ∃ (k : Nat) (ab : Option Addr) (l : List UInt8) (cb : Nat), y = .int .i64 k ∧ x = .slice ab l.length cb ∧ k ≤ L.length ∧ BytesAt w.heap.size wr ab l ∧ l.length ≤ cb ∧ l.length ≤ 3000 ∧ IsRd w1.heap.size wr R l ∧ Below w.heap.size w wr)
            (fun _ y _ => L.length - (intOf y).toNat)
          case atStart => exact ⟨0, ab, l, cb, rfl, by rw [HML.out], Nat.zero_le _, HBY.out, by rw [HML.out]; omega, by rw [HML.out]; omega, HRK.out, HBR.out⟩
          case round =>
            clear HBY HRK HBR HML
            obtain ⟨k, ab, l, cb, rfl, rfl, hk, hby, hlc, hl3, hRk, hbr⟩ := hrel
            by_cases hlt : k < L.length
            · obtain ⟨b, off, rfl, hbw, hcs⟩ := HM.out (by rintro rfl; simp at hlt)
              obtain ⟨hp, hok⟩ := hcs k hlt
              obtain ⟨p, hpe⟩ : ∃ p, L.getD k default = p := ⟨_, rfl⟩
              rw [hpe] at hp hok
              have hp2 := hp.below hbr hbw
              have hkL : (k : Int) < (L.length : Int) := by omega
              obtain ⟨c0, -, c2, -⟩ := hp2
              obtain ⟨K, hK⟩ : ∃ K, p.kind = K := ⟨_, rfl⟩
              obtain ⟨Z, hZ⟩ : ∃ Z, p.bytes = Z := ⟨_, rfl⟩
              rw [hK] at c0
              rw [hZ] at c2
              have HLO := Lib.hid hok
              have HP := Lib.hid hp
              have HBY := Lib.hid hby
              clear hcs hpe hok hp hby
              go_upto_block 4 with fail
              go_cut [0] (fun x wx => ∃ (ab6 : Option Addr) (l6 : List UInt8) (cb6 : Nat), x = .slice ab6 l6.length cb6 ∧ BytesAt w.heap.size wx ab6 l6 ∧ l6.length ≤ cb6 ∧ l6.length ≤ 3000 ∧ IsRd w1.heap.size wx R l6 ∧ Below w.heap.size w wx)
              case first =>
                by_cases hK1 : K = 1
                · subst hK1
                  by_cases hz1 : Z < 1
                  · have hz : decide (Z < 1) = true := by simpa using hz1
                    have E1 := Lib.hid (show rNum l Z = (0, 2, l) by unfold rNum; rw [if_pos (.inl hz1)])
                    clear hz1
                    as_aux_lemma =>
                      go_wp2_with (first
                        | (go_at_call 45; refine (rnum_any hRk Z).mono ?_; rw [E1.out]; dsimp only; rintro e w6 ⟨rfl, hR6, hg6⟩; have B6 := (rd_below hRk hg6).mono S1.out; have c06 := (B6.cell (p := ⟨b, off + k * 4, none⟩) hbw).trans c0; have c26 := (B6.cell (p := ⟨b, off + k * 4 + 2, none⟩) hbw).trans c2; clear hg6))
                      go_meet
                      case rel => exact ⟨ab, l, cb, rfl, HBY.out.below B6, hlc, hl3, hR6, hbr.trans B6⟩
                  · by_cases hz8 : 8 < Z
                    · have hz : decide (Z < 1) = false := by simpa using hz1
                      have hz2 : decide (8 < Z) = true := by simpa using hz8
                      have E1 := Lib.hid (show rNum l Z = (0, 2, l) by unfold rNum; rw [if_pos (.inr hz8)])
                      clear hz1 hz8
                      as_aux_lemma =>
                        go_wp2_with (first
                          | (go_at_call 45; refine (rnum_any hRk Z).mono ?_; rw [E1.out]; dsimp only; rintro e w6 ⟨rfl, hR6, hg6⟩; have B6 := (rd_below hRk hg6).mono S1.out; have c06 := (B6.cell (p := ⟨b, off + k * 4, none⟩) hbw).trans c0; have c26 := (B6.cell (p := ⟨b, off + k * 4 + 2, none⟩) hbw).trans c2; clear hg6))
                        go_meet
                        case rel => exact ⟨ab, l, cb, rfl, HBY.out.below B6, hlc, hl3, hR6, hbr.trans B6⟩
                    · obtain ⟨n, rfl⟩ : ∃ n : Nat, Z = n := ⟨Z.toNat, by omega⟩
                      have hz : decide ((n : Int) < 1) = false := by simp; omega
                      have hz2 : decide (8 < (n : Int)) = false := by simp; omega
                      have e0 : rNum l n = if l.length < n then (0, 130, l) else (numOf (l.take n), 0, l.drop n) := by
                        unfold rNum
                        rw [if_neg (by omega), Int.toNat_natCast]
                      by_cases hs : l.length < n
                      · rw [if_pos hs] at e0
                        have E1 := Lib.hid e0
                        have E2 := Lib.hid (show (if l.length < n then Value.tuple #[.int .u64 0, .bool false] else Value.tuple #[.int .u64 (numOf (l.take n) : Nat), .bool true]) = .tuple #[.int .u64 0, .bool false] by rw [if_pos hs])
                        clear hs e0
                        as_aux_lemma =>
                          go_wp2_with (first
                            | (go_at_call 45; refine (rnum_any hRk n).mono ?_; rw [E1.out]; dsimp only; rintro e w6 ⟨rfl, hR6, hg6⟩; have B6 := (rd_below hRk hg6).mono S1.out; have c06 := (B6.cell (p := ⟨b, off + k * 4, none⟩) hbw).trans c0; have c26 := (B6.cell (p := ⟨b, off + k * 4 + 2, none⟩) hbw).trans c2; clear hg6)
                            | (go_at_call 46; refine (refRead_any ab l cb n _ (by omega) w6 (HBY.out.below B6) (by omega)).mono ?_; rintro e w6' ⟨he, rfl⟩; rw [E2.out] at he; subst he))
                          go_meet
                          case rel => exact ⟨ab, l, cb, rfl, HBY.out.below B6, hlc, hl3, hR6, hbr.trans B6⟩
                      · rw [if_neg hs] at e0
                        obtain ⟨x, hx⟩ : ∃ x, numOf (l.take n) = x := ⟨_, rfl⟩
                        obtain ⟨l6, hl6⟩ : ∃ l6, l.drop n = l6 := ⟨_, rfl⟩
                        have hlen6 : l6.length = l.length - n := by rw [← hl6, List.length_drop]
                        have hb6 := rest_at (i := n) HBY.out hlc
                        rw [hl6] at hb6
                        rw [hx, hl6] at e0
                        have E1 := Lib.hid e0
                        have E2 := Lib.hid (show (if l.length < n then Value.tuple #[.int .u64 0, .bool false] else Value.tuple #[.int .u64 (numOf (l.take n) : Nat), .bool true]) = .tuple #[.int .u64 x, .bool true] by rw [if_neg hs, hx])
                        have hsl := fun w => sliceFromK .i64 w ab l.length cb n (by omega)
                        rw [← hlen6] at hsl
                        obtain ⟨ab6, hab6⟩ : ∃ q, slFrom ab cb n = q := ⟨_, rfl⟩
                        obtain ⟨cb6, hcb6⟩ : ∃ q, cb - n = q := ⟨_, rfl⟩
                        rw [hab6] at hb6
                        simp only [hab6, hcb6] at hsl
                        have HB6 := Lib.hid hb6
                        have HC6 := Lib.hid (show l6.length ≤ cb6 ∧ l6.length ≤ 3000 by omega)
                        clear hs e0 hx hl6 hb6 hab6 hcb6 hlen6
                        as_aux_lemma =>
                          go_wp2_with (first
                            | (go_at_call 45; refine (rnum_any hRk n).mono ?_; rw [E1.out]; dsimp only; rintro e w6 ⟨rfl, hR6, hg6⟩; have B6 := (rd_below hRk hg6).mono S1.out; have c06 := (B6.cell (p := ⟨b, off + k * 4, none⟩) hbw).trans c0; have c26 := (B6.cell (p := ⟨b, off + k * 4 + 2, none⟩) hbw).trans c2; clear hg6)
                            | (go_at_call 46; refine (refRead_any ab l cb n _ (by omega) w6 (HBY.out.below B6) (by omega)).mono ?_; rintro e w6' ⟨he, rfl⟩; rw [E2.out] at he; subst he))
                          go_meet
                          case rel => exact ⟨ab6, l6, cb6, rfl, HB6.out.below B6, HC6.out.1, HC6.out.2, hR6, hbr.trans B6⟩
                · by_cases hK2 : K = 2
                  · subst hK2
                    obtain ⟨n, hn⟩ : ∃ n, numOf (l.take 2) = n := ⟨_, rfl⟩
                    by_cases hs : l.length < 2
                    · have E1 := Lib.hid (rText_short l (.inl hs))
                      have E2 := Lib.hid (show (if l.length < 2 then Value.tuple #[.int .u64 0, .bool false] else Value.tuple #[.int .u64 (numOf (l.take 2) : Nat), .bool true]) = .tuple #[.int .u64 0, .bool false] by rw [if_pos hs])
                      clear hs hn
                      as_aux_lemma =>
                        go_wp2_with (first
                          | (go_at_call 47; refine (rtext_any hRk).mono ?_; rw [E1.out]; dsimp only; rintro e w6 ⟨rfl, hR6, hg6⟩; have B6 := (rd_below hRk hg6).mono S1.out; clear hg6)
                          | (go_at_call 46; refine (refRead_any ab l cb 2 _ (by omega) w6 (HBY.out.below B6) (by omega)).mono ?_; rintro e w6' ⟨he, rfl⟩; rw [E2.out] at he; subst he))
                        go_meet
                        case rel => exact ⟨ab, l, cb, rfl, HBY.out.below B6, hlc, hl3, hR6, hbr.trans B6⟩
                    · have E2 := Lib.hid (show (if l.length < 2 then Value.tuple #[.int .u64 0, .bool false] else Value.tuple #[.int .u64 (numOf (l.take 2) : Nat), .bool true]) = .tuple #[.int .u64 n, .bool true] by rw [if_neg hs, hn])
                      have hn16 : n < 65536 := by
                        have := numOf_lt (l.take 2)
                        rw [List.length_take, show min 2 l.length = 2 by omega, hn] at this
                        omega
                      have h2l : (2 : Int) ≤ (l.length : Int) := by omega
                      by_cases hs2 : l.length < 2 + n
                      · have E1 := Lib.hid (rText_short l (.inr (by rw [hn]; exact hs2)))
                        have hd5 : decide ((n : Int) ≤ (l.length : Int) - 2) = false := by simp; omega
                        clear hs hs2 hn
                        as_aux_lemma =>
                          go_wp2_with (first
                            | (go_at_call 47; refine (rtext_any hRk).mono ?_; rw [E1.out]; dsimp only; rintro e w6 ⟨rfl, hR6, hg6⟩; have B6 := (rd_below hRk hg6).mono S1.out; clear hg6)
                            | (go_at_call 46; refine (refRead_any ab l cb 2 _ (by omega) w6 (HBY.out.below B6) (by omega)).mono ?_; rintro e w6' ⟨he, rfl⟩; rw [E2.out] at he; subst he))
                          go_meet
                          case rel => exact ⟨ab, l, cb, rfl, HBY.out.below B6, hlc, hl3, hR6, hbr.trans B6⟩
                      · have e0 : rText l = ((l.drop 2).take n, 0, l.drop (2 + n)) := by
                          unfold rText
                          rw [hn, if_neg (by omega)]
                        have hd5 : decide ((n : Int) ≤ (l.length : Int) - 2) = true := by simp; omega
                        obtain ⟨st, hst⟩ : ∃ st, (l.drop 2).take n = st := ⟨_, rfl⟩
                        have hstl : st.length = n := by rw [← hst, List.length_take, List.length_drop]; omega
                        have hb2 := rest_at (i := 2) HBY.out hlc
                        have hb3 : BytesAt w.heap.size wr (slFrom ab cb 2) st := by
                          rw [← List.take_append_drop n (l.drop 2), hst] at hb2
                          exact hb2.left
                        have hsm := fun w => sliceMid w ab l.length cb (2 + n) (by omega) (by omega)
                        have hsl := fun w => sliceFromK .u64 w ab l.length cb (2 + n) (by omega)
                        obtain ⟨l6, hl6⟩ : ∃ l6, l.drop (2 + n) = l6 := ⟨_, rfl⟩
                        have hlen6 : l6.length = l.length - (2 + n) := by rw [← hl6, List.length_drop]
                        have hb6 := rest_at (i := 2 + n) HBY.out hlc
                        rw [hl6] at hb6
                        rw [hst, hl6] at e0
                        have E1 := Lib.hid e0
                        have hcast : ((2 + n : Nat) : Int) = 2 + (n : Int) := by omega
                        simp only [hcast, Nat.add_sub_cancel_left] at hsm
                        simp only [hcast] at hsl
                        simp only [← hlen6] at hsl
                        obtain ⟨ab6, hab6⟩ : ∃ q, slFrom ab cb (2 + n) = q := ⟨_, rfl⟩
                        obtain ⟨cb6, hcb6⟩ : ∃ q, cb - (2 + n) = q := ⟨_, rfl⟩
                        obtain ⟨ab3, hab3⟩ : ∃ q, slFrom ab cb 2 = q := ⟨_, rfl⟩
                        obtain ⟨cb3, hcb3⟩ : ∃ q, cb - 2 = q := ⟨_, rfl⟩
                        rw [hab6] at hb6
                        rw [hab3] at hb3
                        simp only [hab6, hcb6] at hsl
                        simp only [hab3, hcb3] at hsm
                        have HB6 := Lib.hid hb6
                        have HB3 := Lib.hid hb3
                        have HSTL := Lib.hid hstl
                        have HC6 := Lib.hid (show l6.length ≤ cb6 ∧ l6.length ≤ 3000 by omega)
                        clear hs hs2 e0 hn hl6 hb6 hab6 hcb6 hlen6 hb2 hb3 hst hstl hab3 hcb3 hcast
                        as_aux_lemma =>
                          go_wp2_with (first
                            | (go_at_call 47; refine (rtext_any hRk).mono ?_; rw [E1.out]; dsimp only; rintro e w6 ⟨rfl, hR6, hg6⟩; have B6 := (rd_below hRk hg6).mono S1.out; have hcv := conv_at w6 ab3 st cb3 _ (HB3.out.below B6); rw [HSTL.out] at hcv; clear hg6)
                            | (go_at_call 46; refine (refRead_any ab l cb 2 _ (by omega) w6 (HBY.out.below B6) (by omega)).mono ?_; rintro e w6' ⟨he, rfl⟩; rw [E2.out] at he; subst he))
                          go_meet
                          case rel => exact ⟨ab6, l6, cb6, rfl, HB6.out.below B6, HC6.out.1, HC6.out.2, hR6, hbr.trans B6⟩
                  · have hk1 : (K == 1) = false := by simpa using hK1
                    have hk2 : (K == 2) = false := by simpa using hK2
                    by_cases hs : l.length < 1
                    · obtain rfl : l = [] := List.eq_nil_of_length_eq_zero (by omega)
                      have E1 := Lib.hid (show rTruth [] = (false, 130, []) from rfl)
                      clear hs
                      as_aux_lemma =>
                        go_wp2_with (first
                          | (go_at_call 48; refine (rtruth_any hRk).mono ?_; rw [E1.out]; dsimp only; rintro e w6 ⟨rfl, hR6, hg6⟩; have B6 := (rd_below hRk hg6).mono S1.out; clear hg6))
                        go_meet
                        case rel => exact ⟨_, [], cb, rfl, HBY.out.below B6, hlc, hl3, hR6, hbr.trans B6⟩
                    · have hd5 : decide (0 < (l.length : Int)) = true := decide_eq_true (by omega)
                      have hd5' : 0 < l.length := by omega
                      have hd6 : (0 : Int) < (l.length : Int) := by omega
                      obtain ⟨b0, o0, rfl, hb0, hc0⟩ := HBY.out (by rintro rfl; simp at hs)
                      have hc0' := hc0 0 (by omega)
                      rw [Nat.add_zero] at hc0'
                      have hx := numOf_take (l := l) (j := 0) (by omega)
                      rw [List.take_zero, show numOf [] = 0 from rfl] at hx
                      obtain ⟨x, hxx⟩ : ∃ x, l[0]?.getD 0 = x := ⟨_, rfl⟩
                      rw [hxx] at hc0' hx
                      have hx8 := UInt8.toNat_lt x
                      obtain ⟨X, hX⟩ : ∃ X, x.toNat = X := ⟨_, rfl⟩
                      rw [hX] at hc0' hx hx8
                      have hx' : numOf (l.take 1) = X := by simpa using hx
                      by_cases h1x : 1 < X
                      · have E1 := Lib.hid (show rTruth l = (false, 130, l) by unfold rTruth; rw [if_pos (.inr (by rw [hx']; exact h1x))])
                        have hd7 : decide ((X : Int) ≤ 1) = false := by simp; omega
                        clear hs hc0 hx hx' hxx hX h1x
                        as_aux_lemma =>
                          go_wp2_with (first
                            | (go_at_call 48; refine (rtruth_any hRk).mono ?_; rw [E1.out]; dsimp only; rintro e w6 ⟨rfl, hR6, hg6⟩; have B6 := (rd_below hRk hg6).mono S1.out; have c06 := (B6.cell (p := ⟨b0, o0, none⟩) hb0).trans hc0'; clear hg6))
                          go_meet
                          case rel => exact ⟨_, l, cb, rfl, HBY.out.below B6, hlc, hl3, hR6, hbr.trans B6⟩
                      · have e0 : rTruth l = (X == 1, 0, l.drop 1) := by unfold rTruth; rw [hx', if_neg (by omega)]
                        obtain ⟨l6, hl6⟩ : ∃ l6, l.drop 1 = l6 := ⟨_, rfl⟩
                        have hlen6 : l6.length = l.length - 1 := by rw [← hl6, List.length_drop]
                        have hb6 := rest_at (i := 1) HBY.out hlc
                        rw [hl6] at hb6 e0
                        have hsl := fun w => sliceFromK .i64 w (some ⟨b0, o0, none⟩) l.length cb 1 (by omega)
                        rw [← hlen6] at hsl
                        obtain ⟨ab6, hab6⟩ : ∃ q, slFrom (some ⟨b0, o0, none⟩) cb 1 = q := ⟨_, rfl⟩
                        obtain ⟨cb6, hcb6⟩ : ∃ q, cb - 1 = q := ⟨_, rfl⟩
                        rw [hab6] at hb6
                        simp only [hab6, hcb6] at hsl
                        have HB6 := Lib.hid hb6
                        have HC6 := Lib.hid (show l6.length ≤ cb6 ∧ l6.length ≤ 3000 by omega)
                        obtain rfl | rfl : X = 0 ∨ X = 1 := by omega
                        · have E1 := Lib.hid e0
                          have hc1 : wr.cell? ⟨b0, o0, none⟩ = some (.int .u8 0) := hc0'
                          have hsl' : ∀ w, (Instr.sliceAt 40 (.slice (some ⟨b0, o0, none⟩) l.length cb) (some (.int .i64 1)) none none).run Try.prog w = .ok (.slice ab6 l6.length cb6) w := hsl
                          clear hs hc0 hx hx' hxx hX h1x e0 hl6 hb6 hab6 hcb6 hlen6 hc0' hsl
                          as_aux_lemma =>
                            go_wp2_with (first
                              | (go_at_call 48; refine (rtruth_any hRk).mono ?_; rw [E1.out]; dsimp only; rintro e w6 ⟨rfl, hR6, hg6⟩; have B6 := (rd_below hRk hg6).mono S1.out; have c06 := (B6.cell (p := ⟨b0, o0, none⟩) hb0).trans hc1; clear hg6))
                            go_meet
                            case rel => exact ⟨ab6, l6, cb6, rfl, HB6.out.below B6, HC6.out.1, HC6.out.2, hR6, hbr.trans B6⟩
                        · have E1 := Lib.hid e0
                          have hc1 : wr.cell? ⟨b0, o0, none⟩ = some (.int .u8 1) := hc0'
                          have hsl' : ∀ w, (Instr.sliceAt 40 (.slice (some ⟨b0, o0, none⟩) l.length cb) (some (.int .i64 1)) none none).run Try.prog w = .ok (.slice ab6 l6.length cb6) w := hsl
                          clear hs hc0 hx hx' hxx hX h1x e0 hl6 hb6 hab6 hcb6 hlen6 hc0' hsl
                          as_aux_lemma =>
                            go_wp2_with (first
                              | (go_at_call 48; refine (rtruth_any hRk).mono ?_; rw [E1.out]; dsimp only; rintro e w6 ⟨rfl, hR6, hg6⟩; have B6 := (rd_below hRk hg6).mono S1.out; have c06 := (B6.cell (p := ⟨b0, o0, none⟩) hb0).trans hc1; clear hg6))
                            go_meet
                            case rel => exact ⟨ab6, l6, cb6, rfl, HB6.out.below B6, HC6.out.1, HC6.out.2, hR6, hbr.trans B6⟩
              case rest =>
                obtain ⟨ab6, l6, cb6, rfl, hby6, hlc6, hl36, hR6, hb6⟩ := hcut
                clear HP HLO HBY
                go_wp2_with fail
                have HY6 := Lib.hid hby6
                have HBR6 := Lib.hid hb6
                clear hby6 hb6 hbr hRk c0 c2
                refine wp_region_l (fun _ w' => Below wc.heap.size wc w') (TailSp wc.heap.size R ab6 l6 cb6) (by kernel_rfl) (by kernel_rfl) (by kernel_rfl) (by kernel_rfl) (Below.refl _ _).drew ?step ?fin
                case step =>
                  as_aux_lemma =>
                    intro q o ho listed a w' hI hn hpre
                    have hb := hI.inv
                    have hq : q < 13 := (Array.getElem?_eq_some_iff.1 ho).1
                    match q, hq with
                    | 0, _ => exact wpOp_val ho (by cases ho; rfl) (by cases ho; rfl) ⟨_, rfl, hb, fun _ => hI.kept (t := 6) (by kernel_rfl), fun _ _ _ h => h⟩
                    | 1, _ =>
                      cases ho
                      have e : a.eval (.tmp 220) = wptr R := hI.slot 0 220 rfl (hpre ⟨0, .data⟩ (by simp) rfl) rfl
                      refine wpOp_callFn rfl rfl rfl (vs := #[wptr R]) (by simp only [List.map_toArray, List.map_cons, List.map_nil, e]) (fun _ _ => by kernel_rfl) ((rleft_of (hR6.below hb)).mono ?_)
                      rintro e w'' ⟨rfl, hb2⟩
                      exact ⟨_, rfl, _, rfl, hb.trans (hb2.mono hb.size), fun _ => rfl, fun j u _ h => TailSp.below hb2 hb.size j u h⟩
                    | 2, _ => exact wpOp_val ho (by cases ho; rfl) (by cases ho; rfl) ⟨_, rfl, hb, fun _ => hI.kept (t := 0) (by kernel_rfl), fun _ _ _ h => h⟩
                    | 3, _ =>
                      cases ho
                      exact wpOp_lenS rfl rfl rfl (hI.slot 2 222 rfl (hpre ⟨2, .data⟩ (by simp) rfl) rfl) ⟨_, rfl, hb, fun _ => rfl, fun _ _ _ h => h⟩
                    | 4, _ =>
                      cases ho
                      exact wpOp_neqI rfl rfl rfl (hI.slot 1 221 rfl (hpre ⟨1, .data⟩ (by simp) rfl) rfl) (hI.slot 3 223 rfl (hpre ⟨3, .data⟩ (by simp) rfl) rfl) ⟨_, rfl, hb, fun _ => by simp [TailSp], fun _ _ _ h => h⟩
                    | 5, _ =>
                      cases ho
                      exact wpOp_move rfl rfl (.inl rfl) (hI.slot 4 224 rfl (hpre ⟨4, .data⟩ (by simp) rfl) rfl) ⟨_, rfl, hb, fun _ => rfl, fun _ _ _ h => h⟩
                    | 6, _ =>
                      have e5 : a.eval (.tmp 225) = .bool false := hI.slot 5 225 rfl (hpre ⟨5, .guard⟩ (by cases ho; simp) rfl) rfl
                      exact wpOp_val ho (wantedOf (by cases ho; rfl) rfl rfl (by rw [hI.len]; exact Nat.le_of_ble_eq_true (by kernel_rfl)) e5) (by cases ho; rfl) ⟨_, rfl, hb, fun _ => hI.kept (t := 6) (by kernel_rfl), fun _ _ _ h => h⟩
                    | 7, _ =>
                      cases ho
                      have e5 : a.eval (.tmp 225) = .bool false := hI.slot 5 225 rfl (hpre ⟨5, .guard⟩ (by simp) rfl) rfl
                      have e : a.eval (.tmp 226) = wptr R := hI.slot 6 226 rfl (hpre ⟨6, .data⟩ (by simp) rfl) rfl
                      refine wpOp_callFn rfl (wantedOf rfl rfl rfl (by rw [hI.len]; exact Nat.le_of_ble_eq_true (by kernel_rfl)) e5) rfl (vs := #[wptr R]) (by simp only [List.map_toArray, List.map_cons, List.map_nil, e]) (fun _ _ => by kernel_rfl) ((rrest_any (hR6.below hb)).mono ?_)
                      rintro e w'' ⟨z, rfl, hO, hb2⟩
                      refine ⟨_, rfl, _, rfl, hb.trans (hb2.mono hb.size), fun _ => ?_, fun j u _ h => TailSp.below hb2 hb.size j u h⟩
                      exact hO.mono hb.size
                    | 8, _ =>
                      cases ho
                      have e5 : a.eval (.tmp 225) = .bool false := hI.slot 5 225 rfl (hpre ⟨5, .guard⟩ (by simp) rfl) rfl
                      have e7 : OwnB w' wc.heap.size (a.eval (.tmp 227)) l6 := hI.slot 7 227 rfl (hpre ⟨7, .data⟩ (by simp) rfl) rfl
                      obtain ⟨az, cz, hz, hmz, -, -, -, -⟩ := e7.form
                      exact wpOp_conv rfl (wantedOf rfl rfl rfl (by rw [hI.len]; exact Nat.le_of_ble_eq_true (by kernel_rfl)) e5) rfl hz (conv_at w' az l6 cz _ hmz) ⟨_, rfl, hb, fun _ => rfl, fun _ _ _ h => h⟩
                    | 9, _ =>
                      have e5 : a.eval (.tmp 225) = .bool false := hI.slot 5 225 rfl (hpre ⟨5, .guard⟩ (by cases ho; simp) rfl) rfl
                      exact wpOp_val ho (wantedOf (by cases ho; rfl) rfl rfl (by rw [hI.len]; exact Nat.le_of_ble_eq_true (by kernel_rfl)) e5) (by cases ho; rfl) ⟨_, rfl, hb, fun _ => hI.kept (t := 0) (by kernel_rfl), fun _ _ _ h => h⟩
                    | 10, _ =>
                      cases ho
                      have e5 : a.eval (.tmp 225) = .bool false := hI.slot 5 225 rfl (hpre ⟨5, .guard⟩ (by simp) rfl) rfl
                      exact wpOp_conv rfl (wantedOf rfl rfl rfl (by rw [hI.len]; exact Nat.le_of_ble_eq_true (by kernel_rfl)) e5) rfl (hI.slot 9 229 rfl (hpre ⟨9, .data⟩ (by simp) rfl) rfl) (conv_at w' ab6 l6 cb6 _ (HY6.out.below (hb.mono HBR6.out.size))) ⟨_, rfl, hb, fun _ => rfl, fun _ _ _ h => h⟩
                    | 11, _ =>
                      cases ho
                      have e5 : a.eval (.tmp 225) = .bool false := hI.slot 5 225 rfl (hpre ⟨5, .guard⟩ (by simp) rfl) rfl
                      exact wpOp_neqS rfl (wantedOf rfl rfl rfl (by rw [hI.len]; exact Nat.le_of_ble_eq_true (by kernel_rfl)) e5) rfl (hI.slot 8 228 rfl (hpre ⟨8, .data⟩ (by simp) rfl) rfl) (hI.slot 10 230 rfl (hpre ⟨10, .data⟩ (by simp) rfl) rfl) ⟨_, rfl, hb, fun _ => by simp [TailSp], fun _ _ _ h => h⟩
                    | 12, _ =>
                      cases ho
                      have e5 : a.eval (.tmp 225) = .bool false := hI.slot 5 225 rfl (hpre ⟨5, .data⟩ (by simp) rfl) rfl
                      exact wpOp_pick2 (v := .bool false) rfl rfl rfl e5 (fun h => by cases h) (fun _ => hI.slot 11 231 rfl (hpre ⟨11, .data⟩ (by simp) rfl) rfl) rfl ⟨_, rfl, hb, fun _ => rfl, fun _ _ _ h => h⟩
                case fin =>
                  as_aux_lemma =>
                    intro listed a w' hI hall
                    have hb := hI.inv
                    have e12 : a.tmps.getD 232 undef = .bool false := hI.slot 12 232 rfl (hall 12 (by decide)) rfl
                    obtain ⟨vs, hvl, hvs, e⟩ := hI.frame 220 13 (Nat.le_of_ble_eq_true (by kernel_rfl)) (by kernel_rfl)
                    have e12' := hvs 12 (by decide)
                    clear hI hall hvs
                    match vs, hvl with
                    | [v0, v1, v2, v3, v4, v5, v6, v7, v8, v9, v10, v11, v12], _ =>
                      simp only [List.getElem?_cons_succ, List.getElem?_cons_zero, Option.some.injEq] at e12'
                      rw [e12] at e12'
                      subst e12'
                      clear e12
                      simp only [List.take_succ_cons, List.take_zero, List.drop_succ_cons, List.drop_zero, List.cons_append, List.nil_append] at e
                      subst e
                      have hR7 := hR6.below hb
                      go_wp2
                      exact ⟨⟨k + 1, ab6, l6, cb6, by rw [show ((k + 1 : Nat) : Int) = (k : Int) + 1 by omega], rfl, hlt, HY6.out.below (hb.mono HBR6.out.size), hlc6, hl36, hR7, HBR6.out.trans (hb.mono HBR6.out.size)⟩, by simp only [intOf]; omega⟩
            · obtain rfl : k = L.length := by omega
              have hkL : ¬ ((L.length : Int) < (L.length : Int)) := by omega
              go_wp2_with (go_at_call 35; refine (HK.out _).mono ?_; rintro e w12 ⟨rfl, hb12⟩)
              go_ret
              exact ⟨rfl, hbr.trans (hb12.mono hbr.size)⟩
end Go.Proofs.Ytdmgemimbbhbiaa
