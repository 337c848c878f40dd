/- Layer 13: signs for levels. -/
import Derived.Test.YtkabdalnkmbloaaDoorTopZw
import Derived.Test.YtkabdalnkmbloaaDoorTopY
namespace Go.Proofs.YtkabdalnkmbloaaDoor
open Go.RowKit Go.Shelf

theorem mt_self (L : List (List UInt8)) : mt L L = true := by
  induction L with
  | nil => rfl
  | cons x r ih =>
    show (x == [35] || ((x == [43] || x == x) && mt r r)) = true
    rw [ih]; simp
theorem mt_set (L : List (List UInt8)) (i : Nat) : mt (L.set i [43]) L = true := by
  induction L generalizing i with
  | nil => rfl
  | cons x r ih =>
    cases i with
    | zero =>
      show ([43] == [35] || (([43] == [43] || [43] == x) && mt r r)) = true
      rw [mt_self]; simp
    | succ i =>
      show (x == [35] || ((x == [43] || x == x) && mt (r.set i [43]) r)) = true
      rw [ih]; simp
theorem mt_take (L : List (List UInt8)) (i : Nat) : mt (L.take i ++ [[35]]) L = true := by
  induction L generalizing i with
  | nil => rw [List.take_nil]; rfl
  | cons x r ih =>
    cases i with
    | zero => rfl
    | succ i =>
      show (x == [35] || ((x == [43] || x == x) && mt (r.take i ++ [[35]]) r)) = true
      rw [ih]; simp
theorem mt_more (L : List (List UInt8)) : mt (L ++ [[35]]) L = true := by
  have := mt_take L L.length
  rwa [List.take_length] at this
theorem sFst_set {L : List (List UInt8)} (h : ∀ x ∈ L, hasS x = false) {i : Nat} (hi : i < L.length) : sFst (L.set i [43]) = decide (i = 0) := by
  cases L with
  | nil => simp at hi
  | cons x r =>
    cases i with
    | zero => rfl
    | succ i =>
      have := sFst_plain h
      show sFst (x :: r.set i [43]) = _
      rw [show sFst (x :: r.set i [43]) = sFst (x :: r) from rfl, this]; simp
theorem sFst_take {L : List (List UInt8)} (h : ∀ x ∈ L, hasS x = false) {i : Nat} (hi : i < L.length) : sFst (L.take i ++ [[35]]) = decide (i = 0) := by
  cases L with
  | nil => simp at hi
  | cons x r =>
    cases i with
    | zero => rfl
    | succ i =>
      have := sFst_plain h
      show sFst (x :: (r.take i ++ [[35]])) = _
      rw [show sFst (x :: (r.take i ++ [[35]])) = sFst (x :: r) from rfl, this]; simp
def plusL (n : List UInt8) (i : Nat) : List UInt8 := joinL ((lv n).set i [43])
def hashL (n : List UInt8) (i : Nat) : List UInt8 := joinL ((lv n).take i ++ [[35]])
theorem lv_plus (n : List UInt8) (i : Nat) : lv (plusL n i) = (lv n).set i [43] := by
  refine lv_joinL (fun e => lv_ne n (by simpa using e)) fun x hx => ?_
  rcases List.mem_or_eq_of_mem_set hx with h | h
  · exact lv_no47 n x h
  · subst h; decide
theorem lv_hash (n : List UInt8) (i : Nat) : lv (hashL n i) = (lv n).take i ++ [[35]] := by
  refine lv_joinL (by simp) fun x hx => ?_
  rcases List.mem_append.1 hx with h | h
  · exact lv_no47 n x (List.mem_of_mem_take h)
  · rw [List.mem_singleton.1 h]; decide
theorem lv_slhash (n : List UInt8) : lv (n ++ [47, 35]) = lv n ++ [[35]] := lv_app n [35]
theorem plus_name {n : List UInt8} {i : Nat} (hi : i < (lv n).length) : nameL (plusL n i) = false := by
  cases h : nameL (plusL n i) with
  | false => rfl
  | true =>
    have := hasS_lv (name_hasS h) [43] (by rw [lv_plus]; exact List.mem_iff_getElem.2 ⟨i, by simpa using hi, by simp⟩)
    simp [hasS, sgn] at this
theorem hash_name {n : List UInt8} {i : Nat} : nameL (hashL n i) = false := by
  cases h : nameL (hashL n i) with
  | false => rfl
  | true =>
    have := hasS_lv (name_hasS h) [35] (by rw [lv_hash]; simp)
    simp [hasS, sgn] at this
theorem plus_cov {n : List UInt8} {i : Nat} (hn : nameL n = true) (hi : i < (lv n).length) (h : filtL (plusL n i) = true) : covL (plusL n i) n = !(dol n && decide (i = 0)) := by
  rw [covL_meets h hn]
  unfold meetsL
  rw [lv_plus, sFst_set (hasS_lv (name_hasS hn)) hi, mt_set, Bool.and_true]
theorem hash_cov {n : List UInt8} {i : Nat} (hn : nameL n = true) (hi : i < (lv n).length) (h : filtL (hashL n i) = true) : covL (hashL n i) n = !(dol n && decide (i = 0)) := by
  rw [covL_meets h hn]
  unfold meetsL
  rw [lv_hash, sFst_take (hasS_lv (name_hasS hn)) hi, mt_take, Bool.and_true]
theorem more_cov {n : List UInt8} (hn : nameL n = true) (h : filtL (n ++ [47, 35]) = true) : covL (n ++ [47, 35]) n = true := by
  rw [covL_meets h hn]
  unfold meetsL
  rw [lv_slhash, mt_more]
  have : sFst (lv n ++ [[35]]) = false := by
    have h0 := sFst_plain (hasS_lv (name_hasS hn))
    cases hl : lv n with
    | nil => exact absurd hl (lv_ne n)
    | cons x r => rw [hl] at h0; exact h0
  rw [this]; simp
theorem plus_len (n : List UInt8) (i : Nat) : (plusL n i).length ≤ n.length + 3 := by
  have h1 := tot_join (lv_ne n)
  rw [joinL_lv] at h1
  have h2 := tot_le ((lv n).set i [43])
  have h3 : ∀ L : List (List UInt8), tot (L.set i [43]) ≤ tot L + 2 := by
    intro L
    induction L generalizing i with
    | nil => simp [tot]
    | cons x r ih =>
      cases i with
      | zero => simp [tot]; omega
      | succ i =>
        have := ih i (h2 := by exact tot_le _)
        simp only [tot, List.set_cons_succ, List.map_cons, List.sum_cons] at this ⊢; omega
  have := h3 (lv n)
  unfold plusL; omega
theorem hash_len (n : List UInt8) (i : Nat) : (hashL n i).length ≤ n.length + 3 := by
  have h1 := tot_join (lv_ne n)
  rw [joinL_lv] at h1
  have h2 := tot_le ((lv n).take i ++ [[35]])
  rw [tot_app] at h2
  have h3 : tot ((lv n).take i) ≤ tot (lv n) := by
    have : tot (lv n) = tot ((lv n).take i) + tot ((lv n).drop i) := by rw [← tot_app, List.take_append_drop]
    omega
  have h4 : tot [[35]] = 2 := by simp [tot]
  unfold hashL; omega
/-- A text at a place is another one. -/
theorem own_set {w : World} {base : Nat} {v : Value} {L : List (List UInt8)} (h : OwnT w base v L) {i : Nat} (hi : i < L.length) (y : List UInt8) :
    ∃ g c x, v = .slice (some ⟨g, 0, none⟩) L.length c ∧ base ≤ g ∧ w.cell? ⟨g, i, none⟩ = some (.string x) ∧ w.frozen? ⟨g, i, none⟩ = false ∧ OwnT (w.setCell ⟨g, i, none⟩ (.string ⟨y.toArray⟩)) base v (L.set i y) := by
  obtain ⟨h1, ⟨rfl, h0⟩ | ⟨g, cap, cur, rfl, hb, hg, hn, hm, hc, ht⟩⟩ := h
  · rw [h0] at hi; exact absurd hi (Nat.not_lt_zero _)
  · have hx : cur[i]? = some (.string ⟨(L[i]).toArray⟩) := by
      have h2 : (cur.toList.take (L.length * 1))[i]? = some (.string ⟨(L[i]).toArray⟩) := by
        rw [ht]; unfold strVals; rw [List.getElem?_map, List.getElem?_eq_getElem hi]; rfl
      rw [List.getElem?_take, if_pos (by omega), Array.getElem?_toList] at h2
      exact h2
    refine ⟨g, cap, ⟨(L[i]).toArray⟩, rfl, hb, ?_, ?_, ?_⟩
    · unfold World.cell?; simp only [hg]; exact hx
    · unfold World.frozen?; simp only [hg]; simp
    · have hs := heap_setCell_same w g i _ _ (.string ⟨y.toArray⟩) hg
      unfold OwnT
      rw [List.length_set]
      refine ⟨by simp [strVals], .inr ⟨g, cap, _, rfl, hb, hs, hn, hm, by simpa using hc, ?_⟩⟩
      rw [Array.toList_setIfInBounds, List.take_set, ht]
      unfold strVals; rw [List.map_set]
theorem tx_upto (a : Option Addr) (N c i : Nat) (hc : i ≤ c) (w : World) : (Instr.sliceAt 29 (.slice a N c) none (some (.int .i64 i)) none).run Tryd.prog w = .ok (.slice a i c) w := by
  have hel : Tryd.prog.elem 29 = 9 := by kernel_rfl
  have hu : Tryd.prog.underlying 29 = some (.slice (Tryd.prog.elem 29)) := by rw [hel]; exact Tryd.underlying29
  have hs : (sizeOf 9).run Tryd.prog w = .ok 1 w := by kernel_rfl
  have h1 := (run_sliceAt_slice (P := Tryd.prog) w 29 _ _ _ _ hu).trans (run_slice_h (P := Tryd.prog) w 29 a N c hu .i64 (i : Int) (by omega) (by omega))
  rw [hel, hs] at h1
  simp only [Result.andThen_ok, sliced, Int.toNat_natCast] at h1
  have ha : a.map (·.add (0 * 1)) = a := by
    cases a with
    | none => rfl
    | some p => obtain ⟨b, off, spot⟩ := p; cases spot <;> simp [Addr.add]
  rw [ha] at h1
  simpa using h1
theorem str_vals_news {w : World} {b o : Nat} {L : List (List UInt8)} (h : ∀ j x, L[j]? = some x → w.cell? ⟨b, o + j, none⟩ = some (.string ⟨x.toArray⟩)) : ∀ j u, (strVals L)[j]? = some u → w.cell? ((⟨b, o, none⟩ : Addr).add j) = some u := fun j u hu => by
  unfold strVals at hu
  rw [List.getElem?_map] at hu
  cases hj : L[j]? with
  | none => rw [hj] at hu; cases hu
  | some y =>
    rw [hj] at hu
    cases hu
    rw [addr_add]; exact h j y hj
theorem str_vals_one (L : List (List UInt8)) : ∀ u ∈ strVals L, u.oneCell' = true := fun u hu => by
  unfold strVals at hu
  obtain ⟨y, -, rfl⟩ := List.mem_map.1 hu
  rfl
def SgPost (w : World) (r : Bool) (z : Int) (e : Ending) (w' : World) : Prop := e = .returned (.tuple #[.bool r, .int .i64 z]) ∧ Below w.heap.size w w'
set_option maxRecDepth 100000 in
set_option maxHeartbeats 8000000 in
theorem signs_good (n : ByteArray) (i : Nat) (hs : n.size ≤ 300) (hn : nameL n.data.toList = true) (hi : i < (lv n.data.toList).length) (w : World) (ht : Tabs w) :
    Calls Tryd.prog 7 #[.string n, .int .i64 i] w fun e w' => BPost w true e w' := by
  obtain ⟨i0, hin, hz0, hz1, hz2⟩ := info_parts infoStr
  have HT := Lib.hid (And.intro ht ht.two)
  have g1 : ¬ (300 : Int) < (n.size : Int) := by omega
  have hnn : n.data.toList ≠ [] := by intro e; rw [e, nameL_nil] at hn; cases hn
  obtain ⟨d, u, hd⟩ := List.exists_cons_of_ne_nil hnn
  have hn0 : 0 < n.size := by rw [Lib.size_eq, hd]; simp
  have hj := index_str n 0 0 rfl hn0
  have hbt : bt n.data.toList 0 = d.toNat := by rw [hd]; rfl
  rw [hbt] at hj
  have hdol : dol n.data.toList = (d == 36) := by rw [hd]; rfl
  have k3 : ((d.toNat : Int) == 36) = (d == 36) := by
    rw [Bool.eq_iff_iff]; simp only [beq_iff_eq]
    constructor
    · intro h; exact UInt8.toNat_inj.1 (by have : (36 : UInt8).toNat = 36 := rfl; omega)
    · rintro rfl; rfl
  have hpl := plus_len n.data.toList i
  have hhl := hash_len n.data.toList i
  rw [← Lib.size_eq] at hpl hhl
  have hmo : (n ++ (⟨#[47, 35]⟩ : ByteArray)).data.toList = n.data.toList ++ [47, 35] := by rw [ByteArray.data_append, Array.toList_append]
  have hmz : (n ++ (⟨#[47, 35]⟩ : ByteArray)).size = n.size + 2 := by rw [ByteArray.size_append]; rfl
  have C0 := fun W => rname_any n (by omega) W
  rw [hn] at C0
  have C0 := Lib.hid C0
  have C1 := Lib.hid (fun W => rlevels_any n (by omega) W)
  have C2 := fun W => meets_any ⟨(plusL n.data.toList i).toArray⟩ n (by show (plusL n.data.toList i).toArray.size ≤ 1000; simp; omega) (by omega) W
  have C3 := fun W => meets_any ⟨(hashL n.data.toList i).toArray⟩ n (by show (hashL n.data.toList i).toArray.size ≤ 1000; simp; omega) (by omega) W
  have C4 := fun W => meets_any (n ++ (⟨#[47, 35]⟩ : ByteArray)) n (by omega) (by omega) W
  have C5 := fun W => rfilter_any ⟨(plusL n.data.toList i).toArray⟩ (by show (plusL n.data.toList i).toArray.size ≤ 1000; simp; omega) W
  have C6 := fun W => rfilter_any ⟨(hashL n.data.toList i).toArray⟩ (by show (hashL n.data.toList i).toArray.size ≤ 1000; simp; omega) W
  have C7 := fun W => rfilter_any (n ++ (⟨#[47, 35]⟩ : ByteArray)) (by omega) W
  have C8 := fun W => plain_top ⟨(plusL n.data.toList i).toArray⟩ (by show (plusL n.data.toList i).toArray.size ≤ 1000; simp; omega) W
  have C9 := fun W => plain_top ⟨(hashL n.data.toList i).toArray⟩ (by show (hashL n.data.toList i).toArray.size ≤ 1000; simp; omega) W
  simp only [hmo, hn, Bool.and_true, plus_name hi, hash_name, Bool.and_false, MePost] at C2 C3 C4 C5 C6 C7 C8 C9
  have p1 := plus_cov hn hi
  have p2 := hash_cov hn hi
  have p3 := more_cov hn
  obtain ⟨wt, hwt⟩ : ∃ wt, (!(dol n.data.toList && decide (i = 0))) = wt := ⟨_, rfl⟩
  rw [hwt] at p1 p2
  obtain ⟨x1, hx1⟩ : ∃ x1, covL (plusL n.data.toList i) n.data.toList = x1 := ⟨_, rfl⟩
  obtain ⟨x2, hx2⟩ : ∃ x2, covL (hashL n.data.toList i) n.data.toList = x2 := ⟨_, rfl⟩
  obtain ⟨x3, hx3⟩ : ∃ x3, covL (n.data.toList ++ [47, 35]) n.data.toList = x3 := ⟨_, rfl⟩
  rw [hx1] at p1 C2
  rw [hx2] at p2 C3
  rw [hx3] at p3 C4
  obtain ⟨fA, hfA⟩ : ∃ fA, filtL (plusL n.data.toList i) = fA := ⟨_, rfl⟩
  obtain ⟨fB, hfB⟩ : ∃ fB, filtL (hashL n.data.toList i) = fB := ⟨_, rfl⟩
  obtain ⟨fC, hfC⟩ : ∃ fC, filtL (n.data.toList ++ [47, 35]) = fC := ⟨_, rfl⟩
  rw [hfA] at p1 C2 C5
  rw [hfB] at p2 C3 C6
  rw [hfC] at p3 C4 C7
  rw [hdol] at hwt
  obtain ⟨r1, hr1⟩ : ∃ r, (fA && x1) = r := ⟨_, rfl⟩
  obtain ⟨r2, hr2⟩ : ∃ r, (fB && x2) = r := ⟨_, rfl⟩
  obtain ⟨r3, hr3⟩ : ∃ r, (fC && x3) = r := ⟨_, rfl⟩
  obtain ⟨n1, hn1⟩ : ∃ z : Int, (if fA = true then (0 : Int) else 230) = z := ⟨_, rfl⟩
  obtain ⟨n2, hn2⟩ : ∃ z : Int, (if fB = true then (0 : Int) else 230) = z := ⟨_, rfl⟩
  obtain ⟨n3, hn3⟩ : ∃ z : Int, (if fC = true then (0 : Int) else 230) = z := ⟨_, rfl⟩
  rw [hr1, hn1] at C2
  rw [hr2, hn2] at C3
  rw [hr3, hn3] at C4
  have q1 : (fA = true → r1 = wt ∧ n1 = 0) ∧ (fA = false → r1 = false ∧ n1 = 230) := by
    rw [← hr1, ← hn1]
    exact ⟨fun h => ⟨by rw [h, p1 h]; rfl, by rw [h]; rfl⟩, fun h => ⟨by rw [h]; rfl, by rw [h]; rfl⟩⟩
  have q2 : (fB = true → r2 = wt ∧ n2 = 0) ∧ (fB = false → r2 = false ∧ n2 = 230) := by
    rw [← hr2, ← hn2]
    exact ⟨fun h => ⟨by rw [h, p2 h]; rfl, by rw [h]; rfl⟩, fun h => ⟨by rw [h]; rfl, by rw [h]; rfl⟩⟩
  have q3 : (fC = true → r3 = true ∧ n3 = 0) ∧ (fC = false → r3 = false ∧ n3 = 230) := by
    rw [← hr3, ← hn3]
    exact ⟨fun h => ⟨by rw [h, p3 h]; rfl, by rw [h]; rfl⟩, fun h => ⟨by rw [h]; rfl, by rw [h]; rfl⟩⟩
  clear hr1 hr2 hr3 hn1 hn2 hn3
  unfold plusL at C2 C5 C8
  unfold hashL at C3 C6 C9
  have hll := lv_len_le n.data.toList
  rw [← Lib.size_eq] at hll
  have hshort := lv_short (s := n) (by omega)
  clear hx1 hx2 hx3 hfA hfB hfC hmo hmz hpl hhl hd hnn hn0 hbt hdol hn
  have C2 := Lib.hid C2
  have C3 := Lib.hid C3
  have C4 := Lib.hid C4
  have C5 := Lib.hid C5
  have C6 := Lib.hid C6
  have C7 := Lib.hid C7
  have C8 := Lib.hid C8
  have C9 := Lib.hid C9
  generalize lv n.data.toList = L at *
  have HS := Lib.hid (And.intro hshort (And.intro hll hi))
  have HP := Lib.hid (And.intro q1 (And.intro q2 (And.intro q3 hwt)))
  have g2 : ¬ (i : Int) < 0 := by omega
  have g3 : ¬ (L.length ≤ i) := by omega
  clear p1 p2 p3 q1 q2 q3 hwt hshort ht
  go_enter Tryd.func7, Tryd.ntmps7
  go_wp2_with fail
  refine (C0.out w).mono ?_
  rintro e w1 ⟨rfl, hb1⟩
  have HB1 := Lib.hid hb1
  clear hb1
  go_wp2_with fail
  refine (C1.out w1).mono ?_
  rintro e w2 ⟨v2, rfl, ho2, hb2⟩
  obtain ⟨la, lc, rfl, htx2, hlc, hlm, -⟩ := TxAt.own ho2
  have HB2 := Lib.hid (show Below w.heap.size w w2 from HB1.out.trans (hb2.mono HB1.out.size))
  clear hb2 ho2
  have hne : L ≠ [] := fun e => by rw [e] at hi; simp at hi
  obtain ⟨b1, o1, rfl, hlt1, hc1⟩ := htx2 hne
  have HL := Lib.hid (And.intro htx2 (And.intro hlt1 (And.intro hc1 (And.intro hlc hlm))))
  have HN7 := Lib.hid (str_vals_news hc1)
  have hmx : 0 + L.length ≤ maxLen := by unfold maxLen; omega
  have hon : w2.ownsRow w2.heap.size 9 1 (.slice none 0 0) 0 [] := own_nil w2 w2.heap.size
  clear htx2 hc1 hlt1 hlc hlm hne
  go_wp2_with (at_builtin; refine wpList_append_own _ rfl _ _ 29 rfl w2.heap.size 9 i0 (.string ⟨#[]⟩) 1 16 Tryd.underlying29 hin hz0 hz1 hz2 rfl (by decide) _ _ _ rfl hon ⟨b1, o1, none⟩ L.length lc (strVals L) rfl (by simp [strVals]) HN7.out (str_vals_one L) hmx (by omega) (Nat.le_refl _) ?_; intro v7 w7 hown7 hgrow7 _; rw [Nat.zero_add, List.nil_append] at hown7; obtain ⟨g, c7, x7, rfl, hg7, hcell7, hfr7, hset7⟩ := own_set (L := L) hown7 hi [43])
  have hb7 : Below w2.heap.size w2 w7 := Below.grown (Below.refl _ _) hgrow7 (Nat.le_refl _) (fun k hk => by cases hk)
  obtain ⟨w8, hw8⟩ : ∃ w8, w7.setCell ⟨g, i, none⟩ (.string ⟨#[43]⟩) = w8 := ⟨_, rfl⟩
  have hb8 : Below w2.heap.size w2 w8 := by rw [← hw8]; exact Below.setCell hb7 (p := ⟨g, i, none⟩) hg7 _
  replace hset7 : OwnT w8 w2.heap.size (.slice (some ⟨g, 0, none⟩) L.length c7) (L.set i [43]) := by rw [← hw8]; exact hset7
  have hJ : Calls Tryd.prog 21 #[.slice (some ⟨g, 0, none⟩) L.length c7] w8 fun e w' => e = .returned (.string ⟨(joinL (L.set i [43])).toArray⟩) ∧ w8 = w' := by
    obtain ⟨a', c', hv, htx', -, -, -⟩ := TxAt.own hset7
    injection hv with e1 e2 e3
    subst e1 e3
    have := join_any (some ⟨g, 0, none⟩) c7 (L.set i [43]) (by rw [List.length_set]; have := HS.out.2.1; omega) (fun x hx => by
      rcases List.mem_or_eq_of_mem_set hx with h | h
      · exact HS.out.1 x h
      · subst h; decide) w8 htx'
    rwa [List.length_set] at this
  have HJ := Lib.hid hJ
  have HB8 := Lib.hid (show Below w.heap.size w w8 from HB2.out.trans (hb8.mono HB2.out.size))
  have hup := fun W => tx_upto (some ⟨b1, o1, none⟩) L.length lc i (by have := HL.out.2.2.2.1; omega) W
  have HN8 := Lib.hid (str_vals_news (w := w8) (b := b1) (o := o1) (L := L.take i) (fun j x hjx => by
    rw [List.getElem?_take] at hjx
    split at hjx
    · exact (hb8.cell (p := ⟨b1, o1 + j, none⟩) HL.out.2.1).trans (HL.out.2.2.1 j x hjx)
    · cases hjx))
  have hti : (L.take i).length = i := by rw [List.length_take]; omega
  have hon8 : w8.ownsRow w8.heap.size 9 1 (.slice none 0 0) 0 [] := own_nil w8 w8.heap.size
  have hmx8 : 0 + i ≤ maxLen := by unfold maxLen; omega
  have hmx9 : i + 1 ≤ maxLen := by unfold maxLen; omega
  clear hb7 hb8 hset7 hJ hgrow7 hcell7 hfr7 hown7
  rw [hw8]
  clear hw8
  refine HJ.out.mono ?_
  rintro e w9 ⟨rfl, rfl⟩
  go_wp2_with (first | (at_builtin; refine wpList_append_own _ rfl _ _ 29 rfl w8.heap.size 9 i0 (.string ⟨#[]⟩) 1 16 Tryd.underlying29 hin hz0 hz1 hz2 rfl (by decide) _ _ _ rfl hon8 ⟨b1, o1, none⟩ i lc (strVals (L.take i)) rfl (by simp only [strVals, List.length_map]; omega) HN8.out (str_vals_one (L.take i)) hmx8 (by omega) (Nat.le_refl _) ?_; intro v10 w10 hown10 hgrow10 _; rw [Nat.zero_add, List.nil_append] at hown10; have HR10 := Lib.hid (World.ownsRow.alloc hown10 (.cells #[.string ⟨#[35]⟩] 9)); have hsz10 : w8.heap.size ≤ w10.heap.size := hgrow10.size) | (at_builtin; refine wpList_append_own _ rfl _ _ 29 rfl w8.heap.size 9 i0 (.string ⟨#[]⟩) 1 16 Tryd.underlying29 hin hz0 hz1 hz2 rfl (by decide) _ _ _ rfl HR10.out ⟨w10.heap.size, 0, none⟩ 1 1 [.string ⟨#[35]⟩] rfl rfl (cell_one_new _ _ _) (by simp [Value.oneCell']) hmx9 (by omega) (by simp; omega) ?_; intro v11 w11 hown11 hgrow11 _))
  replace hgrow10 : w8.grownBy w10 none := hgrow10
  replace hgrow11 : (w10.alloc (.cells #[.string ⟨#[35]⟩] 9)).grownBy w11 v10.ownBlock := hgrow11
  have hb10 : Below w8.heap.size w8 w10 := Below.grown (Below.refl _ _) hgrow10 (Nat.le_refl _) (fun k hk => by cases hk)
  have hb11 : Below w8.heap.size w8 w11 := text_below hb10 hsz10 hown10 hgrow11
  have hO11 : OwnT w11 w8.heap.size v11 (L.take i ++ [[35]]) := own_snoc (L := L.take i) (x := [35]) (by rw [hti]; exact hown11)
  obtain ⟨a11, c11, rfl, htx11, -, -, -⟩ := TxAt.own hO11
  have HJ2 := Lib.hid (join_any a11 c11 (L.take i ++ [[35]]) (by rw [List.length_append, hti, List.length_singleton]; omega) (fun x hx => by
    rcases List.mem_append.1 hx with h | h
    · exact HS.out.1 x (List.mem_of_mem_take h)
    · rw [List.mem_singleton.1 h]; decide) w11 htx11)
  have HB11 := Lib.hid (show Below w.heap.size w w11 from HB8.out.trans (hb11.mono HB8.out.size))
  clear hb10 hb11 hO11 htx11 hown10 hown11 hgrow10 hgrow11 hsz10 hon8 hon
  refine HJ2.out.mono ?_
  rintro e w12 ⟨rfl, rfl⟩
  generalize joinL (L.set i [43]) = s1 at *
  generalize joinL (L.take i ++ [[35]]) = s2 at *
  have hcat : ¬ (9223372036854775807 : Nat) < n.size + 2 := by omega
  clear hup hti hmx8 hmx9 hmx HN7 HN8 HL HJ HJ2 HR10 HS
  generalize hod : (d == 36) = od at *
  go_wp2_with fail
  refine (C2.out w11 (HT.out.1.below HB11.out HT.out.2)).mono ?_
  rintro e w13 ⟨rfl, hbx⟩
  have HB13 := Lib.hid (show Below w.heap.size w w13 from HB11.out.trans (hbx.mono HB11.out.size))
  clear hbx
  go_wp2_with fail
  refine (C3.out w13 (HT.out.1.below HB13.out HT.out.2)).mono ?_
  rintro e w14 ⟨rfl, hbx⟩
  have HB14 := Lib.hid (show Below w.heap.size w w14 from HB13.out.trans (hbx.mono HB13.out.size))
  clear hbx
  have hcs : od = false ∨ (od = true ∧ i = 0) ∨ (od = true ∧ 0 < i) := by
    cases od <;> simp <;> omega
  rcases hcs with rfl | ⟨rfl, hi0⟩ | ⟨rfl, hi0⟩
  · obtain rfl : wt = true := by rw [← HP.out.2.2.2]; rfl
    go_wp2_with fail
    refine (C5.out w14).mono ?_
    rintro e w15 ⟨rfl, hbx⟩
    have HB15 := Lib.hid (show Below w.heap.size w w15 from HB14.out.trans (hbx.mono HB14.out.size))
    clear hbx
    rcases Bool.eq_false_or_eq_true fA with rfl | rfl
    · obtain ⟨rfl, rfl⟩ := HP.out.1.1 rfl
      go_wp2_with fail
      refine (C6.out w15).mono ?_
      rintro e w16 ⟨rfl, hbx⟩
      have HB16 := Lib.hid (show Below w.heap.size w w16 from HB15.out.trans (hbx.mono HB15.out.size))
      clear hbx
      rcases Bool.eq_false_or_eq_true fB with rfl | rfl
      · obtain ⟨rfl, rfl⟩ := HP.out.2.1.1 rfl
        go_wp2_with fail
        refine (C4.out w16 (HT.out.1.below HB16.out HT.out.2)).mono ?_
        rintro e w21 ⟨rfl, hbx⟩
        have HB21 := Lib.hid (show Below w.heap.size w w21 from HB16.out.trans (hbx.mono HB16.out.size))
        clear hbx
        go_wp2_with fail
        refine (C7.out w21).mono ?_
        rintro e w17 ⟨rfl, hbx⟩
        have HB17 := Lib.hid (show Below w.heap.size w w17 from HB21.out.trans (hbx.mono HB21.out.size))
        clear hbx
        rcases Bool.eq_false_or_eq_true fC with rfl | rfl
        · obtain ⟨rfl, rfl⟩ := HP.out.2.2.1.1 rfl
          go_wp2_with fail
          refine (C8.out w17 (HT.out.1.below HB17.out HT.out.2)).mono ?_
          rintro e w18 ⟨rfl, hbx⟩
          have HB18 := Lib.hid (show Below w.heap.size w w18 from HB17.out.trans (hbx.mono HB17.out.size))
          clear hbx
          go_wp2_with fail
          refine (C9.out w18 (HT.out.1.below HB18.out HT.out.2)).mono ?_
          rintro e w19 ⟨rfl, hbx⟩
          have HB19 := Lib.hid (show Below w.heap.size w w19 from HB18.out.trans (hbx.mono HB18.out.size))
          clear hbx
          go_wp2_with fail
          refine (known_top w19 (HT.out.1.below HB19.out HT.out.2)).mono ?_
          rintro e w20 ⟨rfl, hbx⟩
          have HB20 := Lib.hid (show Below w.heap.size w w20 from HB19.out.trans (hbx.mono HB19.out.size))
          clear hbx
          go_wp2
          go_ret
          exact ⟨rfl, HB20.out⟩
        · obtain ⟨rfl, rfl⟩ := HP.out.2.2.1.2 rfl
          go_wp2_with fail
          refine (C8.out w17 (HT.out.1.below HB17.out HT.out.2)).mono ?_
          rintro e w18 ⟨rfl, hbx⟩
          have HB18 := Lib.hid (show Below w.heap.size w w18 from HB17.out.trans (hbx.mono HB17.out.size))
          clear hbx
          go_wp2_with fail
          refine (C9.out w18 (HT.out.1.below HB18.out HT.out.2)).mono ?_
          rintro e w19 ⟨rfl, hbx⟩
          have HB19 := Lib.hid (show Below w.heap.size w w19 from HB18.out.trans (hbx.mono HB18.out.size))
          clear hbx
          go_wp2_with fail
          refine (known_top w19 (HT.out.1.below HB19.out HT.out.2)).mono ?_
          rintro e w20 ⟨rfl, hbx⟩
          have HB20 := Lib.hid (show Below w.heap.size w w20 from HB19.out.trans (hbx.mono HB19.out.size))
          clear hbx
          go_wp2
          go_ret
          exact ⟨rfl, HB20.out⟩
      · obtain ⟨rfl, rfl⟩ := HP.out.2.1.2 rfl
        go_wp2_with fail
        refine (C4.out w16 (HT.out.1.below HB16.out HT.out.2)).mono ?_
        rintro e w21 ⟨rfl, hbx⟩
        have HB21 := Lib.hid (show Below w.heap.size w w21 from HB16.out.trans (hbx.mono HB16.out.size))
        clear hbx
        go_wp2_with fail
        refine (C7.out w21).mono ?_
        rintro e w17 ⟨rfl, hbx⟩
        have HB17 := Lib.hid (show Below w.heap.size w w17 from HB21.out.trans (hbx.mono HB21.out.size))
        clear hbx
        rcases Bool.eq_false_or_eq_true fC with rfl | rfl
        · obtain ⟨rfl, rfl⟩ := HP.out.2.2.1.1 rfl
          go_wp2_with fail
          refine (C8.out w17 (HT.out.1.below HB17.out HT.out.2)).mono ?_
          rintro e w18 ⟨rfl, hbx⟩
          have HB18 := Lib.hid (show Below w.heap.size w w18 from HB17.out.trans (hbx.mono HB17.out.size))
          clear hbx
          go_wp2_with fail
          refine (C9.out w18 (HT.out.1.below HB18.out HT.out.2)).mono ?_
          rintro e w19 ⟨rfl, hbx⟩
          have HB19 := Lib.hid (show Below w.heap.size w w19 from HB18.out.trans (hbx.mono HB18.out.size))
          clear hbx
          go_wp2_with fail
          refine (known_top w19 (HT.out.1.below HB19.out HT.out.2)).mono ?_
          rintro e w20 ⟨rfl, hbx⟩
          have HB20 := Lib.hid (show Below w.heap.size w w20 from HB19.out.trans (hbx.mono HB19.out.size))
          clear hbx
          go_wp2
          go_ret
          exact ⟨rfl, HB20.out⟩
        · obtain ⟨rfl, rfl⟩ := HP.out.2.2.1.2 rfl
          go_wp2_with fail
          refine (C8.out w17 (HT.out.1.below HB17.out HT.out.2)).mono ?_
          rintro e w18 ⟨rfl, hbx⟩
          have HB18 := Lib.hid (show Below w.heap.size w w18 from HB17.out.trans (hbx.mono HB17.out.size))
          clear hbx
          go_wp2_with fail
          refine (C9.out w18 (HT.out.1.below HB18.out HT.out.2)).mono ?_
          rintro e w19 ⟨rfl, hbx⟩
          have HB19 := Lib.hid (show Below w.heap.size w w19 from HB18.out.trans (hbx.mono HB18.out.size))
          clear hbx
          go_wp2_with fail
          refine (known_top w19 (HT.out.1.below HB19.out HT.out.2)).mono ?_
          rintro e w20 ⟨rfl, hbx⟩
          have HB20 := Lib.hid (show Below w.heap.size w w20 from HB19.out.trans (hbx.mono HB19.out.size))
          clear hbx
          go_wp2
          go_ret
          exact ⟨rfl, HB20.out⟩
    · obtain ⟨rfl, rfl⟩ := HP.out.1.2 rfl
      go_wp2_with fail
      refine (C6.out w15).mono ?_
      rintro e w16 ⟨rfl, hbx⟩
      have HB16 := Lib.hid (show Below w.heap.size w w16 from HB15.out.trans (hbx.mono HB15.out.size))
      clear hbx
      rcases Bool.eq_false_or_eq_true fB with rfl | rfl
      · obtain ⟨rfl, rfl⟩ := HP.out.2.1.1 rfl
        go_wp2_with fail
        refine (C4.out w16 (HT.out.1.below HB16.out HT.out.2)).mono ?_
        rintro e w21 ⟨rfl, hbx⟩
        have HB21 := Lib.hid (show Below w.heap.size w w21 from HB16.out.trans (hbx.mono HB16.out.size))
        clear hbx
        go_wp2_with fail
        refine (C7.out w21).mono ?_
        rintro e w17 ⟨rfl, hbx⟩
        have HB17 := Lib.hid (show Below w.heap.size w w17 from HB21.out.trans (hbx.mono HB21.out.size))
        clear hbx
        rcases Bool.eq_false_or_eq_true fC with rfl | rfl
        · obtain ⟨rfl, rfl⟩ := HP.out.2.2.1.1 rfl
          go_wp2_with fail
          refine (C8.out w17 (HT.out.1.below HB17.out HT.out.2)).mono ?_
          rintro e w18 ⟨rfl, hbx⟩
          have HB18 := Lib.hid (show Below w.heap.size w w18 from HB17.out.trans (hbx.mono HB17.out.size))
          clear hbx
          go_wp2_with fail
          refine (C9.out w18 (HT.out.1.below HB18.out HT.out.2)).mono ?_
          rintro e w19 ⟨rfl, hbx⟩
          have HB19 := Lib.hid (show Below w.heap.size w w19 from HB18.out.trans (hbx.mono HB18.out.size))
          clear hbx
          go_wp2_with fail
          refine (known_top w19 (HT.out.1.below HB19.out HT.out.2)).mono ?_
          rintro e w20 ⟨rfl, hbx⟩
          have HB20 := Lib.hid (show Below w.heap.size w w20 from HB19.out.trans (hbx.mono HB19.out.size))
          clear hbx
          go_wp2
          go_ret
          exact ⟨rfl, HB20.out⟩
        · obtain ⟨rfl, rfl⟩ := HP.out.2.2.1.2 rfl
          go_wp2_with fail
          refine (C8.out w17 (HT.out.1.below HB17.out HT.out.2)).mono ?_
          rintro e w18 ⟨rfl, hbx⟩
          have HB18 := Lib.hid (show Below w.heap.size w w18 from HB17.out.trans (hbx.mono HB17.out.size))
          clear hbx
          go_wp2_with fail
          refine (C9.out w18 (HT.out.1.below HB18.out HT.out.2)).mono ?_
          rintro e w19 ⟨rfl, hbx⟩
          have HB19 := Lib.hid (show Below w.heap.size w w19 from HB18.out.trans (hbx.mono HB18.out.size))
          clear hbx
          go_wp2_with fail
          refine (known_top w19 (HT.out.1.below HB19.out HT.out.2)).mono ?_
          rintro e w20 ⟨rfl, hbx⟩
          have HB20 := Lib.hid (show Below w.heap.size w w20 from HB19.out.trans (hbx.mono HB19.out.size))
          clear hbx
          go_wp2
          go_ret
          exact ⟨rfl, HB20.out⟩
      · obtain ⟨rfl, rfl⟩ := HP.out.2.1.2 rfl
        go_wp2_with fail
        refine (C4.out w16 (HT.out.1.below HB16.out HT.out.2)).mono ?_
        rintro e w21 ⟨rfl, hbx⟩
        have HB21 := Lib.hid (show Below w.heap.size w w21 from HB16.out.trans (hbx.mono HB16.out.size))
        clear hbx
        go_wp2_with fail
        refine (C7.out w21).mono ?_
        rintro e w17 ⟨rfl, hbx⟩
        have HB17 := Lib.hid (show Below w.heap.size w w17 from HB21.out.trans (hbx.mono HB21.out.size))
        clear hbx
        rcases Bool.eq_false_or_eq_true fC with rfl | rfl
        · obtain ⟨rfl, rfl⟩ := HP.out.2.2.1.1 rfl
          go_wp2_with fail
          refine (C8.out w17 (HT.out.1.below HB17.out HT.out.2)).mono ?_
          rintro e w18 ⟨rfl, hbx⟩
          have HB18 := Lib.hid (show Below w.heap.size w w18 from HB17.out.trans (hbx.mono HB17.out.size))
          clear hbx
          go_wp2_with fail
          refine (C9.out w18 (HT.out.1.below HB18.out HT.out.2)).mono ?_
          rintro e w19 ⟨rfl, hbx⟩
          have HB19 := Lib.hid (show Below w.heap.size w w19 from HB18.out.trans (hbx.mono HB18.out.size))
          clear hbx
          go_wp2_with fail
          refine (known_top w19 (HT.out.1.below HB19.out HT.out.2)).mono ?_
          rintro e w20 ⟨rfl, hbx⟩
          have HB20 := Lib.hid (show Below w.heap.size w w20 from HB19.out.trans (hbx.mono HB19.out.size))
          clear hbx
          go_wp2
          go_ret
          exact ⟨rfl, HB20.out⟩
        · obtain ⟨rfl, rfl⟩ := HP.out.2.2.1.2 rfl
          go_wp2_with fail
          refine (C8.out w17 (HT.out.1.below HB17.out HT.out.2)).mono ?_
          rintro e w18 ⟨rfl, hbx⟩
          have HB18 := Lib.hid (show Below w.heap.size w w18 from HB17.out.trans (hbx.mono HB17.out.size))
          clear hbx
          go_wp2_with fail
          refine (C9.out w18 (HT.out.1.below HB18.out HT.out.2)).mono ?_
          rintro e w19 ⟨rfl, hbx⟩
          have HB19 := Lib.hid (show Below w.heap.size w w19 from HB18.out.trans (hbx.mono HB18.out.size))
          clear hbx
          go_wp2_with fail
          refine (known_top w19 (HT.out.1.below HB19.out HT.out.2)).mono ?_
          rintro e w20 ⟨rfl, hbx⟩
          have HB20 := Lib.hid (show Below w.heap.size w w20 from HB19.out.trans (hbx.mono HB19.out.size))
          clear hbx
          go_wp2
          go_ret
          exact ⟨rfl, HB20.out⟩
  · obtain rfl : wt = false := by rw [← HP.out.2.2.2, hi0]; rfl
    have hi1 : ¬ 0 < i := by omega
    have hi2 : (i : Int) = 0 := by omega
    go_wp2_with fail
    refine (C5.out w14).mono ?_
    rintro e w15 ⟨rfl, hbx⟩
    have HB15 := Lib.hid (show Below w.heap.size w w15 from HB14.out.trans (hbx.mono HB14.out.size))
    clear hbx
    rcases Bool.eq_false_or_eq_true fA with rfl | rfl
    · obtain ⟨rfl, rfl⟩ := HP.out.1.1 rfl
      go_wp2_with fail
      refine (C6.out w15).mono ?_
      rintro e w16 ⟨rfl, hbx⟩
      have HB16 := Lib.hid (show Below w.heap.size w w16 from HB15.out.trans (hbx.mono HB15.out.size))
      clear hbx
      rcases Bool.eq_false_or_eq_true fB with rfl | rfl
      · obtain ⟨rfl, rfl⟩ := HP.out.2.1.1 rfl
        go_wp2_with fail
        refine (C4.out w16 (HT.out.1.below HB16.out HT.out.2)).mono ?_
        rintro e w21 ⟨rfl, hbx⟩
        have HB21 := Lib.hid (show Below w.heap.size w w21 from HB16.out.trans (hbx.mono HB16.out.size))
        clear hbx
        go_wp2_with fail
        refine (C7.out w21).mono ?_
        rintro e w17 ⟨rfl, hbx⟩
        have HB17 := Lib.hid (show Below w.heap.size w w17 from HB21.out.trans (hbx.mono HB21.out.size))
        clear hbx
        rcases Bool.eq_false_or_eq_true fC with rfl | rfl
        · obtain ⟨rfl, rfl⟩ := HP.out.2.2.1.1 rfl
          go_wp2_with fail
          refine (C8.out w17 (HT.out.1.below HB17.out HT.out.2)).mono ?_
          rintro e w18 ⟨rfl, hbx⟩
          have HB18 := Lib.hid (show Below w.heap.size w w18 from HB17.out.trans (hbx.mono HB17.out.size))
          clear hbx
          go_wp2_with fail
          refine (C9.out w18 (HT.out.1.below HB18.out HT.out.2)).mono ?_
          rintro e w19 ⟨rfl, hbx⟩
          have HB19 := Lib.hid (show Below w.heap.size w w19 from HB18.out.trans (hbx.mono HB18.out.size))
          clear hbx
          go_wp2_with fail
          refine (known_top w19 (HT.out.1.below HB19.out HT.out.2)).mono ?_
          rintro e w20 ⟨rfl, hbx⟩
          have HB20 := Lib.hid (show Below w.heap.size w w20 from HB19.out.trans (hbx.mono HB19.out.size))
          clear hbx
          go_wp2
          go_ret
          exact ⟨rfl, HB20.out⟩
        · obtain ⟨rfl, rfl⟩ := HP.out.2.2.1.2 rfl
          go_wp2_with fail
          refine (C8.out w17 (HT.out.1.below HB17.out HT.out.2)).mono ?_
          rintro e w18 ⟨rfl, hbx⟩
          have HB18 := Lib.hid (show Below w.heap.size w w18 from HB17.out.trans (hbx.mono HB17.out.size))
          clear hbx
          go_wp2_with fail
          refine (C9.out w18 (HT.out.1.below HB18.out HT.out.2)).mono ?_
          rintro e w19 ⟨rfl, hbx⟩
          have HB19 := Lib.hid (show Below w.heap.size w w19 from HB18.out.trans (hbx.mono HB18.out.size))
          clear hbx
          go_wp2_with fail
          refine (known_top w19 (HT.out.1.below HB19.out HT.out.2)).mono ?_
          rintro e w20 ⟨rfl, hbx⟩
          have HB20 := Lib.hid (show Below w.heap.size w w20 from HB19.out.trans (hbx.mono HB19.out.size))
          clear hbx
          go_wp2
          go_ret
          exact ⟨rfl, HB20.out⟩
      · obtain ⟨rfl, rfl⟩ := HP.out.2.1.2 rfl
        go_wp2_with fail
        refine (C4.out w16 (HT.out.1.below HB16.out HT.out.2)).mono ?_
        rintro e w21 ⟨rfl, hbx⟩
        have HB21 := Lib.hid (show Below w.heap.size w w21 from HB16.out.trans (hbx.mono HB16.out.size))
        clear hbx
        go_wp2_with fail
        refine (C7.out w21).mono ?_
        rintro e w17 ⟨rfl, hbx⟩
        have HB17 := Lib.hid (show Below w.heap.size w w17 from HB21.out.trans (hbx.mono HB21.out.size))
        clear hbx
        rcases Bool.eq_false_or_eq_true fC with rfl | rfl
        · obtain ⟨rfl, rfl⟩ := HP.out.2.2.1.1 rfl
          go_wp2_with fail
          refine (C8.out w17 (HT.out.1.below HB17.out HT.out.2)).mono ?_
          rintro e w18 ⟨rfl, hbx⟩
          have HB18 := Lib.hid (show Below w.heap.size w w18 from HB17.out.trans (hbx.mono HB17.out.size))
          clear hbx
          go_wp2_with fail
          refine (C9.out w18 (HT.out.1.below HB18.out HT.out.2)).mono ?_
          rintro e w19 ⟨rfl, hbx⟩
          have HB19 := Lib.hid (show Below w.heap.size w w19 from HB18.out.trans (hbx.mono HB18.out.size))
          clear hbx
          go_wp2_with fail
          refine (known_top w19 (HT.out.1.below HB19.out HT.out.2)).mono ?_
          rintro e w20 ⟨rfl, hbx⟩
          have HB20 := Lib.hid (show Below w.heap.size w w20 from HB19.out.trans (hbx.mono HB19.out.size))
          clear hbx
          go_wp2
          go_ret
          exact ⟨rfl, HB20.out⟩
        · obtain ⟨rfl, rfl⟩ := HP.out.2.2.1.2 rfl
          go_wp2_with fail
          refine (C8.out w17 (HT.out.1.below HB17.out HT.out.2)).mono ?_
          rintro e w18 ⟨rfl, hbx⟩
          have HB18 := Lib.hid (show Below w.heap.size w w18 from HB17.out.trans (hbx.mono HB17.out.size))
          clear hbx
          go_wp2_with fail
          refine (C9.out w18 (HT.out.1.below HB18.out HT.out.2)).mono ?_
          rintro e w19 ⟨rfl, hbx⟩
          have HB19 := Lib.hid (show Below w.heap.size w w19 from HB18.out.trans (hbx.mono HB18.out.size))
          clear hbx
          go_wp2_with fail
          refine (known_top w19 (HT.out.1.below HB19.out HT.out.2)).mono ?_
          rintro e w20 ⟨rfl, hbx⟩
          have HB20 := Lib.hid (show Below w.heap.size w w20 from HB19.out.trans (hbx.mono HB19.out.size))
          clear hbx
          go_wp2
          go_ret
          exact ⟨rfl, HB20.out⟩
    · obtain ⟨rfl, rfl⟩ := HP.out.1.2 rfl
      go_wp2_with fail
      refine (C6.out w15).mono ?_
      rintro e w16 ⟨rfl, hbx⟩
      have HB16 := Lib.hid (show Below w.heap.size w w16 from HB15.out.trans (hbx.mono HB15.out.size))
      clear hbx
      rcases Bool.eq_false_or_eq_true fB with rfl | rfl
      · obtain ⟨rfl, rfl⟩ := HP.out.2.1.1 rfl
        go_wp2_with fail
        refine (C4.out w16 (HT.out.1.below HB16.out HT.out.2)).mono ?_
        rintro e w21 ⟨rfl, hbx⟩
        have HB21 := Lib.hid (show Below w.heap.size w w21 from HB16.out.trans (hbx.mono HB16.out.size))
        clear hbx
        go_wp2_with fail
        refine (C7.out w21).mono ?_
        rintro e w17 ⟨rfl, hbx⟩
        have HB17 := Lib.hid (show Below w.heap.size w w17 from HB21.out.trans (hbx.mono HB21.out.size))
        clear hbx
        rcases Bool.eq_false_or_eq_true fC with rfl | rfl
        · obtain ⟨rfl, rfl⟩ := HP.out.2.2.1.1 rfl
          go_wp2_with fail
          refine (C8.out w17 (HT.out.1.below HB17.out HT.out.2)).mono ?_
          rintro e w18 ⟨rfl, hbx⟩
          have HB18 := Lib.hid (show Below w.heap.size w w18 from HB17.out.trans (hbx.mono HB17.out.size))
          clear hbx
          go_wp2_with fail
          refine (C9.out w18 (HT.out.1.below HB18.out HT.out.2)).mono ?_
          rintro e w19 ⟨rfl, hbx⟩
          have HB19 := Lib.hid (show Below w.heap.size w w19 from HB18.out.trans (hbx.mono HB18.out.size))
          clear hbx
          go_wp2_with fail
          refine (known_top w19 (HT.out.1.below HB19.out HT.out.2)).mono ?_
          rintro e w20 ⟨rfl, hbx⟩
          have HB20 := Lib.hid (show Below w.heap.size w w20 from HB19.out.trans (hbx.mono HB19.out.size))
          clear hbx
          go_wp2
          go_ret
          exact ⟨rfl, HB20.out⟩
        · obtain ⟨rfl, rfl⟩ := HP.out.2.2.1.2 rfl
          go_wp2_with fail
          refine (C8.out w17 (HT.out.1.below HB17.out HT.out.2)).mono ?_
          rintro e w18 ⟨rfl, hbx⟩
          have HB18 := Lib.hid (show Below w.heap.size w w18 from HB17.out.trans (hbx.mono HB17.out.size))
          clear hbx
          go_wp2_with fail
          refine (C9.out w18 (HT.out.1.below HB18.out HT.out.2)).mono ?_
          rintro e w19 ⟨rfl, hbx⟩
          have HB19 := Lib.hid (show Below w.heap.size w w19 from HB18.out.trans (hbx.mono HB18.out.size))
          clear hbx
          go_wp2_with fail
          refine (known_top w19 (HT.out.1.below HB19.out HT.out.2)).mono ?_
          rintro e w20 ⟨rfl, hbx⟩
          have HB20 := Lib.hid (show Below w.heap.size w w20 from HB19.out.trans (hbx.mono HB19.out.size))
          clear hbx
          go_wp2
          go_ret
          exact ⟨rfl, HB20.out⟩
      · obtain ⟨rfl, rfl⟩ := HP.out.2.1.2 rfl
        go_wp2_with fail
        refine (C4.out w16 (HT.out.1.below HB16.out HT.out.2)).mono ?_
        rintro e w21 ⟨rfl, hbx⟩
        have HB21 := Lib.hid (show Below w.heap.size w w21 from HB16.out.trans (hbx.mono HB16.out.size))
        clear hbx
        go_wp2_with fail
        refine (C7.out w21).mono ?_
        rintro e w17 ⟨rfl, hbx⟩
        have HB17 := Lib.hid (show Below w.heap.size w w17 from HB21.out.trans (hbx.mono HB21.out.size))
        clear hbx
        rcases Bool.eq_false_or_eq_true fC with rfl | rfl
        · obtain ⟨rfl, rfl⟩ := HP.out.2.2.1.1 rfl
          go_wp2_with fail
          refine (C8.out w17 (HT.out.1.below HB17.out HT.out.2)).mono ?_
          rintro e w18 ⟨rfl, hbx⟩
          have HB18 := Lib.hid (show Below w.heap.size w w18 from HB17.out.trans (hbx.mono HB17.out.size))
          clear hbx
          go_wp2_with fail
          refine (C9.out w18 (HT.out.1.below HB18.out HT.out.2)).mono ?_
          rintro e w19 ⟨rfl, hbx⟩
          have HB19 := Lib.hid (show Below w.heap.size w w19 from HB18.out.trans (hbx.mono HB18.out.size))
          clear hbx
          go_wp2_with fail
          refine (known_top w19 (HT.out.1.below HB19.out HT.out.2)).mono ?_
          rintro e w20 ⟨rfl, hbx⟩
          have HB20 := Lib.hid (show Below w.heap.size w w20 from HB19.out.trans (hbx.mono HB19.out.size))
          clear hbx
          go_wp2
          go_ret
          exact ⟨rfl, HB20.out⟩
        · obtain ⟨rfl, rfl⟩ := HP.out.2.2.1.2 rfl
          go_wp2_with fail
          refine (C8.out w17 (HT.out.1.below HB17.out HT.out.2)).mono ?_
          rintro e w18 ⟨rfl, hbx⟩
          have HB18 := Lib.hid (show Below w.heap.size w w18 from HB17.out.trans (hbx.mono HB17.out.size))
          clear hbx
          go_wp2_with fail
          refine (C9.out w18 (HT.out.1.below HB18.out HT.out.2)).mono ?_
          rintro e w19 ⟨rfl, hbx⟩
          have HB19 := Lib.hid (show Below w.heap.size w w19 from HB18.out.trans (hbx.mono HB18.out.size))
          clear hbx
          go_wp2_with fail
          refine (known_top w19 (HT.out.1.below HB19.out HT.out.2)).mono ?_
          rintro e w20 ⟨rfl, hbx⟩
          have HB20 := Lib.hid (show Below w.heap.size w w20 from HB19.out.trans (hbx.mono HB19.out.size))
          clear hbx
          go_wp2
          go_ret
          exact ⟨rfl, HB20.out⟩
  · obtain rfl : wt = true := by rw [← HP.out.2.2.2, decide_eq_false (by omega)]; rfl
    go_wp2_with fail
    refine (C5.out w14).mono ?_
    rintro e w15 ⟨rfl, hbx⟩
    have HB15 := Lib.hid (show Below w.heap.size w w15 from HB14.out.trans (hbx.mono HB14.out.size))
    clear hbx
    rcases Bool.eq_false_or_eq_true fA with rfl | rfl
    · obtain ⟨rfl, rfl⟩ := HP.out.1.1 rfl
      go_wp2_with fail
      refine (C6.out w15).mono ?_
      rintro e w16 ⟨rfl, hbx⟩
      have HB16 := Lib.hid (show Below w.heap.size w w16 from HB15.out.trans (hbx.mono HB15.out.size))
      clear hbx
      rcases Bool.eq_false_or_eq_true fB with rfl | rfl
      · obtain ⟨rfl, rfl⟩ := HP.out.2.1.1 rfl
        go_wp2_with fail
        refine (C4.out w16 (HT.out.1.below HB16.out HT.out.2)).mono ?_
        rintro e w21 ⟨rfl, hbx⟩
        have HB21 := Lib.hid (show Below w.heap.size w w21 from HB16.out.trans (hbx.mono HB16.out.size))
        clear hbx
        go_wp2_with fail
        refine (C7.out w21).mono ?_
        rintro e w17 ⟨rfl, hbx⟩
        have HB17 := Lib.hid (show Below w.heap.size w w17 from HB21.out.trans (hbx.mono HB21.out.size))
        clear hbx
        rcases Bool.eq_false_or_eq_true fC with rfl | rfl
        · obtain ⟨rfl, rfl⟩ := HP.out.2.2.1.1 rfl
          go_wp2_with fail
          refine (C8.out w17 (HT.out.1.below HB17.out HT.out.2)).mono ?_
          rintro e w18 ⟨rfl, hbx⟩
          have HB18 := Lib.hid (show Below w.heap.size w w18 from HB17.out.trans (hbx.mono HB17.out.size))
          clear hbx
          go_wp2_with fail
          refine (C9.out w18 (HT.out.1.below HB18.out HT.out.2)).mono ?_
          rintro e w19 ⟨rfl, hbx⟩
          have HB19 := Lib.hid (show Below w.heap.size w w19 from HB18.out.trans (hbx.mono HB18.out.size))
          clear hbx
          go_wp2_with fail
          refine (known_top w19 (HT.out.1.below HB19.out HT.out.2)).mono ?_
          rintro e w20 ⟨rfl, hbx⟩
          have HB20 := Lib.hid (show Below w.heap.size w w20 from HB19.out.trans (hbx.mono HB19.out.size))
          clear hbx
          go_wp2
          go_ret
          exact ⟨rfl, HB20.out⟩
        · obtain ⟨rfl, rfl⟩ := HP.out.2.2.1.2 rfl
          go_wp2_with fail
          refine (C8.out w17 (HT.out.1.below HB17.out HT.out.2)).mono ?_
          rintro e w18 ⟨rfl, hbx⟩
          have HB18 := Lib.hid (show Below w.heap.size w w18 from HB17.out.trans (hbx.mono HB17.out.size))
          clear hbx
          go_wp2_with fail
          refine (C9.out w18 (HT.out.1.below HB18.out HT.out.2)).mono ?_
          rintro e w19 ⟨rfl, hbx⟩
          have HB19 := Lib.hid (show Below w.heap.size w w19 from HB18.out.trans (hbx.mono HB18.out.size))
          clear hbx
          go_wp2_with fail
          refine (known_top w19 (HT.out.1.below HB19.out HT.out.2)).mono ?_
          rintro e w20 ⟨rfl, hbx⟩
          have HB20 := Lib.hid (show Below w.heap.size w w20 from HB19.out.trans (hbx.mono HB19.out.size))
          clear hbx
          go_wp2
          go_ret
          exact ⟨rfl, HB20.out⟩
      · obtain ⟨rfl, rfl⟩ := HP.out.2.1.2 rfl
        go_wp2_with fail
        refine (C4.out w16 (HT.out.1.below HB16.out HT.out.2)).mono ?_
        rintro e w21 ⟨rfl, hbx⟩
        have HB21 := Lib.hid (show Below w.heap.size w w21 from HB16.out.trans (hbx.mono HB16.out.size))
        clear hbx
        go_wp2_with fail
        refine (C7.out w21).mono ?_
        rintro e w17 ⟨rfl, hbx⟩
        have HB17 := Lib.hid (show Below w.heap.size w w17 from HB21.out.trans (hbx.mono HB21.out.size))
        clear hbx
        rcases Bool.eq_false_or_eq_true fC with rfl | rfl
        · obtain ⟨rfl, rfl⟩ := HP.out.2.2.1.1 rfl
          go_wp2_with fail
          refine (C8.out w17 (HT.out.1.below HB17.out HT.out.2)).mono ?_
          rintro e w18 ⟨rfl, hbx⟩
          have HB18 := Lib.hid (show Below w.heap.size w w18 from HB17.out.trans (hbx.mono HB17.out.size))
          clear hbx
          go_wp2_with fail
          refine (C9.out w18 (HT.out.1.below HB18.out HT.out.2)).mono ?_
          rintro e w19 ⟨rfl, hbx⟩
          have HB19 := Lib.hid (show Below w.heap.size w w19 from HB18.out.trans (hbx.mono HB18.out.size))
          clear hbx
          go_wp2_with fail
          refine (known_top w19 (HT.out.1.below HB19.out HT.out.2)).mono ?_
          rintro e w20 ⟨rfl, hbx⟩
          have HB20 := Lib.hid (show Below w.heap.size w w20 from HB19.out.trans (hbx.mono HB19.out.size))
          clear hbx
          go_wp2
          go_ret
          exact ⟨rfl, HB20.out⟩
        · obtain ⟨rfl, rfl⟩ := HP.out.2.2.1.2 rfl
          go_wp2_with fail
          refine (C8.out w17 (HT.out.1.below HB17.out HT.out.2)).mono ?_
          rintro e w18 ⟨rfl, hbx⟩
          have HB18 := Lib.hid (show Below w.heap.size w w18 from HB17.out.trans (hbx.mono HB17.out.size))
          clear hbx
          go_wp2_with fail
          refine (C9.out w18 (HT.out.1.below HB18.out HT.out.2)).mono ?_
          rintro e w19 ⟨rfl, hbx⟩
          have HB19 := Lib.hid (show Below w.heap.size w w19 from HB18.out.trans (hbx.mono HB18.out.size))
          clear hbx
          go_wp2_with fail
          refine (known_top w19 (HT.out.1.below HB19.out HT.out.2)).mono ?_
          rintro e w20 ⟨rfl, hbx⟩
          have HB20 := Lib.hid (show Below w.heap.size w w20 from HB19.out.trans (hbx.mono HB19.out.size))
          clear hbx
          go_wp2
          go_ret
          exact ⟨rfl, HB20.out⟩
    · obtain ⟨rfl, rfl⟩ := HP.out.1.2 rfl
      go_wp2_with fail
      refine (C6.out w15).mono ?_
      rintro e w16 ⟨rfl, hbx⟩
      have HB16 := Lib.hid (show Below w.heap.size w w16 from HB15.out.trans (hbx.mono HB15.out.size))
      clear hbx
      rcases Bool.eq_false_or_eq_true fB with rfl | rfl
      · obtain ⟨rfl, rfl⟩ := HP.out.2.1.1 rfl
        go_wp2_with fail
        refine (C4.out w16 (HT.out.1.below HB16.out HT.out.2)).mono ?_
        rintro e w21 ⟨rfl, hbx⟩
        have HB21 := Lib.hid (show Below w.heap.size w w21 from HB16.out.trans (hbx.mono HB16.out.size))
        clear hbx
        go_wp2_with fail
        refine (C7.out w21).mono ?_
        rintro e w17 ⟨rfl, hbx⟩
        have HB17 := Lib.hid (show Below w.heap.size w w17 from HB21.out.trans (hbx.mono HB21.out.size))
        clear hbx
        rcases Bool.eq_false_or_eq_true fC with rfl | rfl
        · obtain ⟨rfl, rfl⟩ := HP.out.2.2.1.1 rfl
          go_wp2_with fail
          refine (C8.out w17 (HT.out.1.below HB17.out HT.out.2)).mono ?_
          rintro e w18 ⟨rfl, hbx⟩
          have HB18 := Lib.hid (show Below w.heap.size w w18 from HB17.out.trans (hbx.mono HB17.out.size))
          clear hbx
          go_wp2_with fail
          refine (C9.out w18 (HT.out.1.below HB18.out HT.out.2)).mono ?_
          rintro e w19 ⟨rfl, hbx⟩
          have HB19 := Lib.hid (show Below w.heap.size w w19 from HB18.out.trans (hbx.mono HB18.out.size))
          clear hbx
          go_wp2_with fail
          refine (known_top w19 (HT.out.1.below HB19.out HT.out.2)).mono ?_
          rintro e w20 ⟨rfl, hbx⟩
          have HB20 := Lib.hid (show Below w.heap.size w w20 from HB19.out.trans (hbx.mono HB19.out.size))
          clear hbx
          go_wp2
          go_ret
          exact ⟨rfl, HB20.out⟩
        · obtain ⟨rfl, rfl⟩ := HP.out.2.2.1.2 rfl
          go_wp2_with fail
          refine (C8.out w17 (HT.out.1.below HB17.out HT.out.2)).mono ?_
          rintro e w18 ⟨rfl, hbx⟩
          have HB18 := Lib.hid (show Below w.heap.size w w18 from HB17.out.trans (hbx.mono HB17.out.size))
          clear hbx
          go_wp2_with fail
          refine (C9.out w18 (HT.out.1.below HB18.out HT.out.2)).mono ?_
          rintro e w19 ⟨rfl, hbx⟩
          have HB19 := Lib.hid (show Below w.heap.size w w19 from HB18.out.trans (hbx.mono HB18.out.size))
          clear hbx
          go_wp2_with fail
          refine (known_top w19 (HT.out.1.below HB19.out HT.out.2)).mono ?_
          rintro e w20 ⟨rfl, hbx⟩
          have HB20 := Lib.hid (show Below w.heap.size w w20 from HB19.out.trans (hbx.mono HB19.out.size))
          clear hbx
          go_wp2
          go_ret
          exact ⟨rfl, HB20.out⟩
      · obtain ⟨rfl, rfl⟩ := HP.out.2.1.2 rfl
        go_wp2_with fail
        refine (C4.out w16 (HT.out.1.below HB16.out HT.out.2)).mono ?_
        rintro e w21 ⟨rfl, hbx⟩
        have HB21 := Lib.hid (show Below w.heap.size w w21 from HB16.out.trans (hbx.mono HB16.out.size))
        clear hbx
        go_wp2_with fail
        refine (C7.out w21).mono ?_
        rintro e w17 ⟨rfl, hbx⟩
        have HB17 := Lib.hid (show Below w.heap.size w w17 from HB21.out.trans (hbx.mono HB21.out.size))
        clear hbx
        rcases Bool.eq_false_or_eq_true fC with rfl | rfl
        · obtain ⟨rfl, rfl⟩ := HP.out.2.2.1.1 rfl
          go_wp2_with fail
          refine (C8.out w17 (HT.out.1.below HB17.out HT.out.2)).mono ?_
          rintro e w18 ⟨rfl, hbx⟩
          have HB18 := Lib.hid (show Below w.heap.size w w18 from HB17.out.trans (hbx.mono HB17.out.size))
          clear hbx
          go_wp2_with fail
          refine (C9.out w18 (HT.out.1.below HB18.out HT.out.2)).mono ?_
          rintro e w19 ⟨rfl, hbx⟩
          have HB19 := Lib.hid (show Below w.heap.size w w19 from HB18.out.trans (hbx.mono HB18.out.size))
          clear hbx
          go_wp2_with fail
          refine (known_top w19 (HT.out.1.below HB19.out HT.out.2)).mono ?_
          rintro e w20 ⟨rfl, hbx⟩
          have HB20 := Lib.hid (show Below w.heap.size w w20 from HB19.out.trans (hbx.mono HB19.out.size))
          clear hbx
          go_wp2
          go_ret
          exact ⟨rfl, HB20.out⟩
        · obtain ⟨rfl, rfl⟩ := HP.out.2.2.1.2 rfl
          go_wp2_with fail
          refine (C8.out w17 (HT.out.1.below HB17.out HT.out.2)).mono ?_
          rintro e w18 ⟨rfl, hbx⟩
          have HB18 := Lib.hid (show Below w.heap.size w w18 from HB17.out.trans (hbx.mono HB17.out.size))
          clear hbx
          go_wp2_with fail
          refine (C9.out w18 (HT.out.1.below HB18.out HT.out.2)).mono ?_
          rintro e w19 ⟨rfl, hbx⟩
          have HB19 := Lib.hid (show Below w.heap.size w w19 from HB18.out.trans (hbx.mono HB18.out.size))
          clear hbx
          go_wp2_with fail
          refine (known_top w19 (HT.out.1.below HB19.out HT.out.2)).mono ?_
          rintro e w20 ⟨rfl, hbx⟩
          have HB20 := Lib.hid (show Below w.heap.size w w20 from HB19.out.trans (hbx.mono HB19.out.size))
          clear hbx
          go_wp2
          go_ret
          exact ⟨rfl, HB20.out⟩
set_option maxRecDepth 100000 in
theorem signs_long (n : ByteArray) (i : Int) (h : 300 < n.size) (w : World) (ht : Tabs w) :
    Calls Tryd.prog 7 #[.string n, .int .i64 i] w fun e w' => BPost w true e w' := by
  have g1 : (300 : Int) < (n.size : Int) := by omega
  have HT := Lib.hid ht
  clear h ht
  go_enter Tryd.func7, Tryd.ntmps7
  go_wp2_with fail
  refine (known_top w HT.out).mono ?_
  rintro e w4 ⟨rfl, hb4⟩
  have HB4 := Lib.hid hb4
  clear hb4
  go_wp2
  go_ret
  exact ⟨rfl, HB4.out⟩
set_option maxRecDepth 100000 in
theorem signs_none (n : ByteArray) (i : Int) (hs : n.size ≤ 300) (hn : nameL n.data.toList = false) (w : World) (ht : Tabs w) :
    Calls Tryd.prog 7 #[.string n, .int .i64 i] w fun e w' => BPost w true e w' := by
  have g1 : ¬ (300 : Int) < (n.size : Int) := by omega
  have HT := Lib.hid (And.intro ht ht.two)
  have C0 := fun W => rname_any n (by omega) W
  rw [hn] at C0
  have C0 := Lib.hid C0
  clear hn ht
  go_enter Tryd.func7, Tryd.ntmps7
  go_wp2_with fail
  refine (C0.out w).mono ?_
  rintro e w1 ⟨rfl, hb1⟩
  have HB1 := Lib.hid hb1
  clear hb1
  go_wp2_with fail
  refine (known_top w1 (HT.out.1.below HB1.out HT.out.2)).mono ?_
  rintro e w4 ⟨rfl, hb4⟩
  have HB4 := Lib.hid (show Below w.heap.size w w4 from HB1.out.trans (hb4.mono HB1.out.size))
  clear hb4
  go_wp2
  go_ret
  exact ⟨rfl, HB4.out⟩
set_option maxRecDepth 100000 in
theorem signs_out (n : ByteArray) (i : Int) (hs : n.size ≤ 300) (hn : nameL n.data.toList = true) (hi : i < 0 ∨ ((lv n.data.toList).length : Int) ≤ i) (w : World) (ht : Tabs w) :
    Calls Tryd.prog 7 #[.string n, .int .i64 i] w fun e w' => BPost w true e w' := by
  have g1 : ¬ (300 : Int) < (n.size : Int) := by omega
  have HT := Lib.hid (And.intro ht ht.two)
  have C0 := fun W => rname_any n (by omega) W
  rw [hn] at C0
  have C0 := Lib.hid C0
  have C1 := Lib.hid (fun W => rlevels_any n (by omega) W)
  generalize lv n.data.toList = L at *
  clear hn ht
  rcases (show i < 0 ∨ ¬ i < 0 ∧ (L.length : Int) ≤ i by omega) with h1 | ⟨h1, h2⟩ <;>
  · go_enter Tryd.func7, Tryd.ntmps7
    go_wp2_with fail
    refine (C0.out w).mono ?_
    rintro e w1 ⟨rfl, hb1⟩
    have HB1 := Lib.hid hb1
    clear hb1
    go_wp2_with fail
    refine (C1.out w1).mono ?_
    rintro e w2 ⟨v2, rfl, ho2, hb2⟩
    obtain ⟨la, lc, rfl⟩ := row_slice ho2
    have HB2 := Lib.hid (show Below w.heap.size w w2 from HB1.out.trans (hb2.mono HB1.out.size))
    clear hb2 ho2
    go_wp2_with fail
    refine (known_top w2 (HT.out.1.below HB2.out HT.out.2)).mono ?_
    rintro e w4 ⟨rfl, hb4⟩
    have HB4 := Lib.hid (show Below w.heap.size w w4 from HB2.out.trans (hb4.mono HB2.out.size))
    clear hb4
    go_wp2
    go_ret
    exact ⟨rfl, HB4.out⟩
theorem signs_law (n : ByteArray) (i : Int) (_ : -9223372036854775808 ≤ i ∧ i ≤ 9223372036854775807) (w : World) (ht : Tabs w) :
    Calls Tryd.prog 7 #[.string n, .int .i64 i] w fun e w' => BPost w true e w' := by
  by_cases h : n.size ≤ 300
  · rcases Bool.eq_false_or_eq_true (nameL n.data.toList) with hn | hn
    · by_cases hi : i < 0 ∨ ((lv n.data.toList).length : Int) ≤ i
      · exact signs_out n i h hn hi w ht
      · have := signs_good n i.toNat h hn (by omega) w ht
        rwa [show ((i.toNat : Nat) : Int) = i by omega] at this
    · exact signs_none n i h hn w ht
  · exact signs_long n i (by omega) w ht
end Go.Proofs.YtkabdalnkmbloaaDoor
