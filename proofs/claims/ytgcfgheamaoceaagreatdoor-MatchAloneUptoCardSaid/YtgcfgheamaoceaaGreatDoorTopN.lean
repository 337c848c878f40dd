/- Layer 13: texts in memory: what both functions tell; are two lists the same. -/
import Derived.Test.YtgcfgheamaoceaaGreatDoorTopM
import Derived.Deep.QuietTactic
namespace Go.Proofs.YtgcfgheamaoceaaGreatDoor
open Go.RowKit Go.Shelf

/-- These texts stand where a slice begins. -/
def TxAt (W : World) (a : Option Addr) (L : List (List UInt8)) : Prop := L ≠ [] → ∃ b off, a = some ⟨b, off, none⟩ ∧ b < W.heap.size ∧ ∀ j x, L[j]? = some x → W.cell? ⟨b, off + j, none⟩ = some (.string ⟨x.toArray⟩)
theorem TxAt.below {w w' : World} {a : Option Addr} {L : List (List UInt8)} (h : TxAt w a L) (hb : Below w.heap.size w w') : TxAt w' a L := fun hL => by
  obtain ⟨b, off, h1, h2, h3⟩ := h hL
  exact ⟨b, off, h1, Nat.lt_of_lt_of_le h2 hb.size, fun j x hj => (World.cell?_of_block (hb.block b h2)).trans (h3 j x hj)⟩
theorem TxAt.own {w : World} {base : Nat} {v : Value} {L : List (List UInt8)} (h : OwnT w base v L) : ∃ a c, v = .slice a L.length c ∧ TxAt w a L ∧ L.length ≤ c ∧ c ≤ maxLen ∧ (∀ b off, a = some ⟨b, off, none⟩ → base ≤ b) := by
  rcases h.2 with ⟨rfl, h0⟩ | ⟨g, cap, cur, rfl, hb, hg, hn, hm, hc, ht⟩
  · have : L = [] := by
      cases L with
      | nil => rfl
      | cons x L => have := h.1; simp at h0
    subst this
    exact ⟨none, 0, rfl, (fun h => absurd rfl h), Nat.zero_le _, Nat.zero_le _, fun _ _ h => by cases h⟩
  · refine ⟨some ⟨g, 0, none⟩, cap, rfl, fun _ => ⟨g, 0, rfl, (Array.getElem?_eq_some_iff.1 hg).1, fun j x hj => ?_⟩, hn, hm, fun b off e => by cases e; exact hb⟩
    have hj' : j < L.length := (List.getElem?_eq_some_iff.1 hj).1
    have h1 : (cur.toList.take (L.length * 1))[j]? = some (.string ⟨x.toArray⟩) := by rw [ht, strVals, List.getElem?_map, hj]; rfl
    rw [List.getElem?_take, if_pos (by omega), Array.getElem?_toList] at h1
    rw [Nat.zero_add]
    unfold World.cell?; simp only [hg]; exact h1
/-- A list without its first ones. -/
theorem tx_from (b off N c k : Nat) (hk : k ≤ N) (hN : N ≤ c) : ∃ off', (∀ w : World, (Instr.sliceAt 79 (.slice (some ⟨b, off, none⟩) N c) (some (.int .i64 k)) none none).run Tryz.prog w = .ok (.slice (some ⟨b, off', none⟩) (N - k) (c - k)) w) ∧ ∀ (W : World) (L : List (List UInt8)), L.length = N → TxAt W (some ⟨b, off, none⟩) L → TxAt W (some ⟨b, off', none⟩) (L.drop k) := by
  have hel : Tryz.prog.elem 79 = 9 := by kernel_rfl
  have hu : Tryz.prog.underlying 79 = some (.slice (Tryz.prog.elem 79)) := by rw [hel]; exact Tryz.underlying79
  refine ⟨if c = k then off else off + k, fun w => ?_, fun W L hL h hne => ?_⟩
  · have hs : (sizeOf 9).run Tryz.prog w = .ok 1 w := by kernel_rfl
    have h1 := (run_sliceAt_slice (P := Tryz.prog) w 79 _ _ _ _ hu).trans (run_slice_l (P := Tryz.prog) w 79 (some ⟨b, off, none⟩) N c hu .i64 (k : Int) (by omega) (by omega))
    rw [hel, hs] at h1
    simp only [Result.andThen_ok, Int.toNat_natCast, sliced] at h1
    rw [h1]
    by_cases hc : c = k
    · rw [if_pos hc, if_pos hc]
    · rw [if_neg hc, if_neg hc]; simp [addr_add]
  · have hkl : k < L.length := by
      rcases Nat.lt_or_ge k L.length with h1 | h1
      · exact h1
      · exact absurd (List.drop_of_length_le h1) hne
    obtain ⟨b', o', e, h2, h3⟩ := h (fun e => by rw [e] at hkl; simp at hkl)
    cases e
    rw [if_neg (by omega)]
    refine ⟨b, off + k, rfl, h2, fun j x hj => ?_⟩
    rw [List.getElem?_drop] at hj
    rw [Nat.add_assoc]; exact h3 _ x hj
theorem tx_one (a : Option Addr) (N c : Nat) (hc : 1 ≤ c) (w : World) : (Instr.sliceAt 79 (.slice a N c) none (some (.int .i64 1)) none).run Tryz.prog w = .ok (.slice a 1 c) w := by
  have hel : Tryz.prog.elem 79 = 9 := by kernel_rfl
  have hu : Tryz.prog.underlying 79 = some (.slice (Tryz.prog.elem 79)) := by rw [hel]; exact Tryz.underlying79
  have hs : (sizeOf 9).run Tryz.prog w = .ok 1 w := by kernel_rfl
  have h1 := (run_sliceAt_slice (P := Tryz.prog) w 79 _ _ _ _ hu).trans (run_slice_h (P := Tryz.prog) w 79 a N c hu .i64 (1 : Int) (by omega) (by omega))
  rw [hel, hs] at h1
  simp only [Result.andThen_ok, sliced] at h1
  rw [if_neg (by omega)] at h1
  have ha : a.map (·.add (0 * 1)) = a := by
    cases a with
    | none => rfl
    | some p => obtain ⟨b, off, spot⟩ := p; cases spot <;> simp [Addr.add]
  rw [ha] at h1
  simpa using h1
/-- What a function of the map tells. -/
def MtPost (w : World) (b : Nat) (M : List (List UInt8)) (e : Ending) (w' : World) : Prop := ∃ b' off' c, e = .returned (.slice (some ⟨b', off', none⟩) M.length c) ∧ TxAt w' (some ⟨b', off', none⟩) M ∧ (w.heap.size ≤ b' ∨ b' = b) ∧ Below w.heap.size w w'
theorem meeting2_any (b off c : Nat) (L : List (List UInt8)) (w : World) (h : TxAt w (some ⟨b, off, none⟩) L) : Calls Tryz.prog 116 #[.slice (some ⟨b, off, none⟩) L.length c] w fun e w' => MtPost w b (mM [35] L) e w' := by
  have H := Lib.hid h
  have hm : mM [35] L = L := by unfold mM; rw [if_neg (by decide)]
  rw [hm]
  clear h hm
  go_enter Tryz.func116, Tryz.ntmps116
  go_wp2
  go_ret
  exact ⟨b, off, c, rfl, H.out, .inr rfl, Below.refl _ _⟩
theorem tx_new (w : World) (x : List UInt8) : TxAt (w.alloc (.cells #[.string ⟨x.toArray⟩] 9)) (some ⟨w.heap.size, 0, none⟩) [x] := fun _ =>
  ⟨w.heap.size, 0, rfl, by simp, fun j y hj => by
    cases j with
    | zero =>
      simp at hj; subst hj
      have := cell_one_new w (.string ⟨x.toArray⟩) 9 0 _ rfl
      rwa [addr_add] at this
    | succ j => simp at hj⟩
set_option maxRecDepth 100000 in
theorem meeting1_any (b off c : Nat) (L : List (List UInt8)) (w : World) (h : TxAt w (some ⟨b, off, none⟩) L) (hc : L.length ≤ c) : Calls Tryz.prog 115 #[.slice (some ⟨b, off, none⟩) L.length c] w fun e w' => MtPost w b (mM [43] L) e w' := by
  cases L with
  | nil =>
    clear h
    go_enter Tryz.func115, Tryz.ntmps115
    go_wp2
    go_ret
    exact ⟨_, _, _, rfl, tx_new w [43], .inl (Nat.le_refl _), (Below.refl _ w).alloc (Nat.le_refl _) _⟩
  | cons x L =>
    obtain ⟨b', off', e, hb, hcell⟩ := h (by simp)
    cases e
    have c0 := hcell 0 x rfl
    have H := Lib.hid (And.intro hb hcell)
    have hs1 := tx_one (some ⟨b, off, none⟩) (x :: L).length c (by simp at hc; omega)
    have hln : (x :: L).length = L.length + 1 := rfl
    have hz : ((L.length : Int) + 1 == 0) = false := by simp; omega
    rw [hln] at hs1 ⊢
    rw [Nat.add_zero] at c0
    clear h hb hcell
    have hxe : (x == [35]) = decide (x = [35]) := by rw [Bool.eq_iff_iff, beq_iff_eq, decide_eq_true_eq]
    by_cases hx : x = [35]
    · have hm : mM [43] (x :: L) = [[43]] := by unfold mM; rw [if_pos rfl]; simp only; rw [if_pos hx]
      rw [hm]
      rw [decide_eq_true hx] at hxe
      clear hm hx
      go_enter Tryz.func115, Tryz.ntmps115
      go_wp2
      go_ret
      exact ⟨_, _, _, rfl, tx_new w [43], .inl (Nat.le_refl _), (Below.refl _ w).alloc (Nat.le_refl _) _⟩
    · have hm : mM [43] (x :: L) = [x] := by unfold mM; rw [if_pos rfl]; simp only; rw [if_neg hx]
      rw [hm]
      rw [decide_eq_false hx] at hxe
      clear hm hx
      go_enter Tryz.func115, Tryz.ntmps115
      go_wp2
      go_ret
      refine ⟨_, _, _, rfl, fun _ => ⟨b, off, rfl, H.out.1, fun j y hj => ?_⟩, .inr rfl, Below.refl _ _⟩
      cases j with
      | zero => simp at hj; subst hj; exact H.out.2 0 x rfl
      | succ j => simp at hj
/-- Texts behind texts. -/
theorem append_texts (w : World) (base : Nat) (v : Value) (L X : List (List UInt8)) (b off c : Nat) (hx : TxAt w (some ⟨b, off, none⟩) X) (hown : OwnT w base v L) (hL : L.length + X.length ≤ 1000000) (hbase : base ≤ w.heap.size) :
    ∃ v' w', (Builtin.append_ #[79, 79] 79 #[v, .slice (some ⟨b, off, none⟩) X.length c]).run Tryz.prog w = .ok v' w' ∧ OwnT w' base v' (L ++ X) ∧ w.grownBy w' v.ownBlock := by
  obtain ⟨i0, hi, hz0, hz1, hz2⟩ := info_parts infoStr
  obtain ⟨v', w', hr, ho, hg, -⟩ := run_append_own (P := Tryz.prog) w base 79 79 9 i0 (.string ⟨#[]⟩) 1 16 Tryz.underlying79 hi hz0 hz1 hz2 rfl (by decide) v L.length (strVals L) hown ⟨b, off, none⟩ X.length c (strVals X) (by simp [strVals]) (fun j u hu => by
    unfold strVals at hu
    rw [List.getElem?_map] at hu
    cases hj : X[j]? with
    | none => rw [hj] at hu; cases hu
    | some y =>
      rw [hj] at hu
      cases hu
      obtain ⟨b', o', e, -, h3⟩ := hx (fun e => by rw [e] at hj; simp at hj)
      cases e
      rw [addr_add]; exact h3 j y hj) (fun u hu => by
    unfold strVals at hu
    obtain ⟨y, -, rfl⟩ := List.mem_map.1 hu
    rfl) (by unfold maxLen; omega) (by omega) hbase
  refine ⟨v', w', hr, ?_, hg⟩
  unfold OwnT
  rw [show strVals (L ++ X) = strVals L ++ strVals X by simp [strVals], List.length_append]
  exact ho
set_option maxRecDepth 100000 in
theorem same_any (a b : Option Addr) (ca cb : Nat) (L M : List (List UInt8)) (hL : L.length ≤ 1000000) (w : World) (h1 : TxAt w a L) (h2 : TxAt w b M) :
    Calls Tryz.prog 95 #[.slice a L.length ca, .slice b M.length cb] w fun e w' => BPost w (decide (L = M)) e w' := by
  by_cases hlen : L.length = M.length
  · have H1 := Lib.hid h1
    have H2 := Lib.hid h2
    have hl2 : ((L.length : Int) != (M.length : Int)) = false := by simp; omega
    have hML : M.length = L.length := hlen.symm
    obtain ⟨N, hN⟩ : ∃ N, L.length = N := ⟨_, rfl⟩
    have HN := Lib.hid (And.intro hN hML)
    rw [hML, hN] at hl2 ⊢
    rw [hN] at hL
    clear h1 h2 hlen hML hN
    go_enter Tryz.func95, Tryz.ntmps95
    go_wp2
    go_loop [5, 6, 14, 15, 16, 17, 18, 19, 20, 21, 22, 23, 24, 25] (fun _ _ i _ _ _ _ _ _ _ _ _ _ _ => ∃ k : Nat, i = .int .i64 k ∧ k ≤ N ∧ ∀ j, j < k → L[j]? = M[j]?)
      (fun _ _ i _ _ _ _ _ _ _ _ _ _ _ => N - (intOf i).toNat)
    case atStart => exact ⟨0, rfl, Nat.zero_le _, fun _ h => absurd h (Nat.not_lt_zero _)⟩
    case round =>
      obtain ⟨k, rfl, hk, hpre⟩ := hrel
      have HP := Lib.hid hpre
      clear hpre
      by_cases hlt : k < N
      · have hkl : k < L.length := by have := HN.out.1; omega
        have hkm : k < M.length := by have := HN.out; omega
        have hne1 : L ≠ [] := fun e => by rw [e] at hkl; simp at hkl
        have hne2 : M ≠ [] := fun e => by rw [e] at hkm; simp at hkm
        obtain ⟨b1, o1, rfl, hb1, hc1⟩ := H1.out hne1
        obtain ⟨b2, o2, rfl, hb2, hc2⟩ := H2.out hne2
        obtain ⟨x, hx⟩ : ∃ x, L[k]? = some x := ⟨_, List.getElem?_eq_getElem hkl⟩
        obtain ⟨y, hy⟩ : ∃ y, M[k]? = some y := ⟨_, List.getElem?_eq_getElem hkm⟩
        have d1 := hc1 k x hx
        have d2 := hc2 k y hy
        have HXY := Lib.hid (And.intro hx hy)
        clear hc1 hc2 hx hy hkl hkm hne1 hne2
        by_cases hxy : x = y
        · have he : (x == y) = true := by simp [hxy]
          subst hxy
          go_wp2
          go_round
          case rel =>
            refine ⟨k + 1, by go_num, by omega, fun j hj => ?_⟩
            by_cases e : j = k
            · subst e; rw [HXY.out.1, HXY.out.2]
            · exact HP.out j (by omega)
          case measure => simp [intOf]; omega
        · have he : (x == y) = false := by simpa using hxy
          have hno : decide (L = M) = false := by
            simp; intro e
            have := HXY.out
            rw [e] at this
            exact hxy (Option.some.inj (this.1.symm.trans this.2))
          have HNO := Lib.hid hno
          clear hxy hno
          go_wp2
          go_ret
          exact ⟨by rw [HNO.out]; rfl, Below.refl _ _⟩
      · obtain rfl : k = N := by omega
        have hyes : decide (L = M) = true := by
          simp
          apply List.ext_getElem?
          intro j
          rcases Nat.lt_or_ge j k with h | h
          · exact HP.out j h
          · rw [List.getElem?_eq_none (by have := HN.out.1; omega), List.getElem?_eq_none (by have := HN.out; omega)]
        have HY := Lib.hid hyes
        clear hyes
        go_wp2
        go_ret
        exact ⟨by rw [HY.out]; rfl, Below.refl _ _⟩
  · have hne : decide (L = M) = false := by simp; intro e; exact hlen (by rw [e])
    have hl2 : ((L.length : Int) != (M.length : Int)) = true := by simp; omega
    rw [hne]
    clear h1 h2 hlen hne
    go_enter Tryz.func95, Tryz.ntmps95
    go_wp2
    go_ret
    exact ⟨rfl, Below.refl _ _⟩
end Go.Proofs.YtgcfgheamaoceaaGreatDoor
