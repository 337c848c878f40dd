/- What all proofs of this seat share, of no program: slices of bytes and of parts in memory; a law's last step: it answered true, and nothing that lay before has turned. -/
import Derived.Below
import Derived.Carry
import Derived.ChangeSame
import Derived.OpenShut
import Derived.Deep.Matrix
import Derived.RowKit
namespace Go.Proofs.YtgcfgheamaoceaaGreatDoor
open Go.ChangeShapes Go.WideShapes Go.RowKit

/-- From the slice's address on lie these bytes, in a block below n₀. -/
def BytesAt (n₀ : Nat) (W : World) (a : Option Addr) (l : List UInt8) : Prop := l ≠ [] → ∃ b off, a = some ⟨b, off, none⟩ ∧ b < n₀ ∧ ∀ j, j < l.length → W.cell? ⟨b, off + j, none⟩ = some (.int .u8 ((l[j]?.getD 0).toNat : Int))
theorem BytesAt.below {n₀ : Nat} {A B : World} {a : Option Addr} {l : List UInt8} (h : Below n₀ A B) (k : BytesAt n₀ A a l) : BytesAt n₀ B a l := fun hl => by
  obtain ⟨b, off, rfl, hb, hc⟩ := k hl
  exact ⟨b, off, rfl, hb, fun j hj => (h.cell (p := ⟨b, off + j, none⟩) hb).trans (hc j hj)⟩
theorem BytesAt.mono {n₀ n₁ : Nat} {A : World} {a : Option Addr} {l : List UInt8} (hn : n₀ ≤ n₁) (k : BytesAt n₀ A a l) : BytesAt n₁ A a l := fun hl => by
  obtain ⟨b, off, rfl, hb, hc⟩ := k hl
  exact ⟨b, off, rfl, Nat.lt_of_lt_of_le hb hn, hc⟩
theorem BytesAt.nil {n₀ : Nat} {A : World} {a : Option Addr} : BytesAt n₀ A a [] := fun h => absurd rfl h
theorem BytesAt.left {n₀ : Nat} {A : World} {a : Option Addr} {l m : List UInt8} (k : BytesAt n₀ A a (l ++ m)) : BytesAt n₀ A a l := fun hl => by
  obtain ⟨b, off, rfl, hb, hc⟩ := k (by intro h; exact hl (List.append_eq_nil_iff.1 h).1)
  refine ⟨b, off, rfl, hb, fun j hj => ?_⟩
  have := hc j (by rw [List.length_append]; omega)
  rwa [List.getElem?_append_left hj] at this
/-- From the slice's address on lie slices of bytes. -/
def PartsAt (n₀ : Nat) (W : World) (a : Option Addr) (ls : List (List UInt8)) : Prop := ls ≠ [] → ∃ b off, a = some ⟨b, off, none⟩ ∧ b < n₀ ∧
  ∀ j, j < ls.length → (ls[j]?.getD []).length ≤ 9223372036854775807 ∧ ∃ ai ci, W.cell? ⟨b, off + j, none⟩ = some (.slice ai (ls[j]?.getD []).length ci) ∧ BytesAt n₀ W ai (ls[j]?.getD [])
theorem PartsAt.below {n₀ : Nat} {A B : World} {a : Option Addr} {l : List (List UInt8)} (h : Below n₀ A B) (k : PartsAt n₀ A a l) : PartsAt n₀ B a l := fun hl => by
  obtain ⟨b, off, rfl, hb, hc⟩ := k hl
  refine ⟨b, off, rfl, hb, fun j hj => ?_⟩
  obtain ⟨h1, ai, ci, h2, h3⟩ := hc j hj
  exact ⟨h1, ai, ci, (h.cell (p := ⟨b, off + j, none⟩) hb).trans h2, h3.below h⟩
theorem PartsAt.mono {n₀ n₁ : Nat} {A : World} {a : Option Addr} {l : List (List UInt8)} (hn : n₀ ≤ n₁) (k : PartsAt n₀ A a l) : PartsAt n₁ A a l := fun hl => by
  obtain ⟨b, off, rfl, hb, hc⟩ := k hl
  refine ⟨b, off, rfl, Nat.lt_of_lt_of_le hb hn, fun j hj => ?_⟩
  obtain ⟨h1, ai, ci, h2, h3⟩ := hc j hj
  exact ⟨h1, ai, ci, h2, h3.mono hn⟩

/-- The blocks that K names are as they were. -/
def KeepsOn (K : Nat → Prop) (A C : World) : Prop := ∀ k, K k → C.heap[k]? = A.heap[k]?
theorem KeepsOn.refl (K : Nat → Prop) (A : World) : KeepsOn K A A := fun _ _ => rfl
theorem KeepsOn.trans {K : Nat → Prop} {A B C : World} (h : KeepsOn K A B) (k : KeepsOn K B C) : KeepsOn K A C := fun b hb => (k b hb).trans (h b hb)
theorem KeepsOn.cell {K : Nat → Prop} {A C : World} (h : KeepsOn K A C) {b o : Nat} (hb : K b) : C.cell? ⟨b, o, none⟩ = A.cell? ⟨b, o, none⟩ := World.cell?_of_block (h b hb)
theorem KeepsOn.of_below {n₀ : Nat} {A C : World} (h : Below n₀ A C) {K : Nat → Prop} (hK : ∀ k, K k → k < n₀) : KeepsOn K A C := fun k hk => h.block k (hK k hk)
theorem KeepsOn.of_grown {A C : World} {row : Option Nat} (h : A.grownBy C row) {K : Nat → Prop} (hK : ∀ k, K k → k < A.heap.size ∧ some k ≠ row) : KeepsOn K A C := fun k hk => h.block k (hK k hk).1 (hK k hk).2
/-- From the slice's address on lie these bytes, in a block that K names. -/
def BytesOn (K : Nat → Prop) (W : World) (a : Option Addr) (l : List UInt8) : Prop := l ≠ [] → ∃ b off, a = some ⟨b, off, none⟩ ∧ K b ∧ ∀ j, j < l.length → W.cell? ⟨b, off + j, none⟩ = some (.int .u8 ((l[j]?.getD 0).toNat : Int))
theorem BytesOn.keeps {K : Nat → Prop} {A B : World} {a : Option Addr} {l : List UInt8} (h : KeepsOn K A B) (k : BytesOn K A a l) : BytesOn K B a l := fun hl => by
  obtain ⟨b, off, rfl, hb, hc⟩ := k hl
  exact ⟨b, off, rfl, hb, fun j hj => (h.cell hb).trans (hc j hj)⟩
theorem BytesOn.mono {K K' : Nat → Prop} {A : World} {a : Option Addr} {l : List UInt8} (hn : ∀ b, K b → K' b) (k : BytesOn K A a l) : BytesOn K' A a l := fun hl => by
  obtain ⟨b, off, rfl, hb, hc⟩ := k hl
  exact ⟨b, off, rfl, hn b hb, hc⟩
theorem BytesAt.on {n₀ : Nat} {A : World} {a : Option Addr} {l : List UInt8} (h : BytesAt n₀ A a l) : BytesOn (fun k => k < n₀) A a l := h
def PartsOn (K : Nat → Prop) (W : World) (a : Option Addr) (ls : List (List UInt8)) : Prop := ls ≠ [] → ∃ b off, a = some ⟨b, off, none⟩ ∧ K b ∧
  ∀ j, j < ls.length → (ls[j]?.getD []).length ≤ 9223372036854775807 ∧ ∃ ai ci, W.cell? ⟨b, off + j, none⟩ = some (.slice ai (ls[j]?.getD []).length ci) ∧ BytesOn K W ai (ls[j]?.getD [])
theorem PartsOn.keeps {K : Nat → Prop} {A B : World} {a : Option Addr} {l : List (List UInt8)} (h : KeepsOn K A B) (k : PartsOn K A a l) : PartsOn K B a l := fun hl => by
  obtain ⟨b, off, rfl, hb, hc⟩ := k hl
  refine ⟨b, off, rfl, hb, fun j hj => ?_⟩
  obtain ⟨h1, ai, ci, h2, h3⟩ := hc j hj
  exact ⟨h1, ai, ci, (h.cell hb).trans h2, h3.keeps h⟩
theorem PartsAt.on {n₀ : Nat} {A : World} {a : Option Addr} {l : List (List UInt8)} (h : PartsAt n₀ A a l) : PartsOn (fun k => k < n₀) A a l := h

section
variable {H : Type} {enc : TypeId × Value → H} {P : Program}

/-- Arguments read in a world in which nothing that lay has turned as they did. -/
theorem trodAll_below (hl : laidOutB P = true) {W W' : World} (hb : Below W.heap.size W W') {sp : Nat → Bool} : ∀ {ts : List TypeId} {vs : List Value} {ds : List (DataW H)} {ps : List MemPlace},
    (∀ t ∈ ts, P.readableRec t = true ∧ t < P.types.size) → DataW.TrodAll enc P W 0 (fun _ => true) true ts vs ds ps → (∀ x ∈ ps, x.block < W.heap.size) → (∀ x ∈ ps, sp x.block = true) → DataW.TrodAll enc P W' 0 sp true ts vs ds ps
  | [], [], [], _, _, h, _, _ => h
  | t :: ts, v :: vs, d :: ds, ps, hts, h, hlt, hsp => by
    obtain ⟨p, q, h1, h2, rfl⟩ := h
    have ht := hts t (by simp)
    exact ⟨p, q, WideElems.Trod_stays hl ht.1 ht.2 h1 (fun x hx => hb.same (hlt x (List.mem_append_left _ hx))) (fun x hx => hsp x (List.mem_append_left _ hx)),
      trodAll_below hl hb (fun u hu => hts u (by simp [hu])) h2 (fun x hx => hlt x (List.mem_append_right _ hx)) (fun x hx => hsp x (List.mem_append_right _ hx)), rfl⟩

/-- A LAW's LAST STEP: it answered true, and nothing that lay when it began has turned. -/
theorem law_post {f : Func} {s : ChangeSpec} {apart fresh handsOn again : Bool} {W W' : World} {args : Array Value} {ds gs : List (DataW H)} {before : List MemPlace} {tb : TypeId}
    (hl : laidOutB P = true) (hts : ∀ t ∈ f.params.toList, P.readableRec t = true ∧ t < P.types.size) (hvars : s.vars = [])
    (hW : DataW.Whole enc P f.params.toList s.vars apart W args.toList ds gs before)
    (hr : (s.fn H (ds ++ gs)).results = [.lit (.bool true)]) (ha : (s.fn H (ds ++ gs)).args = ds) (hv : (s.fn H (ds ++ gs)).vars = [])
    (htb : P.underlying tb = some .bool) (hres : f.resultTypes = #[tb]) (hb : Below W.heap.size W W') :
    s.post enc P f apart fresh handsOn again W args (.bool true) W' := by
  have hlt : ∀ p ∈ before, p.block < W.heap.size := fun p hp => hW.lt p hp
  have hW0 := hW
  obtain ⟨p, q, hA, hV, rfl, hz, hn⟩ := hW
  rw [hvars] at hV
  obtain ⟨rfl, rfl⟩ := trodVars_none hV
  simp only [List.append_nil] at *
  have hargs : ∀ sp : Nat → Bool, (∀ x ∈ p, sp x.block = true) → DataW.TrodAll enc P W' 0 sp true f.params.toList args.toList ds p := fun sp hsp => trodAll_below hl hb hts hA hlt hsp
  have hresult : ∀ (b : Nat) (sp : Nat → Bool) (hd : Bool), DataW.TrodAll enc P W' b sp hd f.resultTypes.toList ((Value.bool true).resultList f.resultTypes.size) [.lit (.bool true)] [] := fun b sp hd => by
    rw [hres]; exact trodAll_cons_mk (shut_bool htb true) trodAll_mk0
  have hno : ∀ sp : Nat → Bool, DataW.TrodVars enc P W' sp s.vars [] [] := fun sp => by rw [hvars]; rfl
  refine ⟨ds, [], p, [], p, [], by simpa using hW0, by simp only [List.append_nil]; rw [hr]; exact hresult _ _ _, by simp only [List.append_nil]; rw [ha]; exact hargs _ (fun x hx => by simpa using hlt x hx), by simp only [List.append_nil]; rw [hv]; exact hno _,
    World.keptBut_mono (fun x hx => ⟨hx, Or.inr (by simpa using hx)⟩) (hb.frame (· ∈ p)), fun _ => ?_⟩
  refine ⟨ok_one hres rfl (okWide_bool_mk htb true), _, _, ([] ++ p) ++ [], ⟨[] ++ p, [], trodAll_append (hargs _ (fun _ _ => rfl)) (hresult _ _ _), hno _, rfl, ?_, ?_⟩, ?_⟩
  · intro b off hp
    have hin : MemPlace.cell b off ∈ p := by simpa using hp
    rw [hb.frozen (hlt _ hin)]
    exact hz b off hin
  · intro h
    simpa using hn h
  · intro x hx _
    simpa using hx

theorem cell_lt {W : World} {a : Addr} {v : Value} (h : W.cell? a = some v) : a.block < W.heap.size := by
  rcases Nat.lt_or_ge a.block W.heap.size with h' | h'
  · exact h'
  · simp [World.cell?, Array.getElem?_eq_none h'] at h

theorem wf_u8 {n : Int} (h : (Lit.int .u8 n).wf = true) : 0 ≤ n ∧ n < 256 := by
  simp [Lit.wf] at h
  have h1 : IntKind.u8.min = 0 := rfl
  have h2 : IntKind.u8.max = 255 := rfl
  omega

theorem addr_add (b off j : Nat) : (⟨b, off, none⟩ : Addr).add j = ⟨b, off + j, none⟩ := by
  unfold Addr.add
  split
  · simp_all
  · rfl

/-- An argument of bytes, opened. -/
theorem open_bytes {t e : TypeId} {base : Nat} {W : World} {v : Value} {d : DataW H} {ps : List MemPlace} (ht : P.underlying t = some (.slice e)) (he : P.underlying e = some (.int .u8)) (hc : P.cellsOf e = 1)
    (hok : Value.okWide P W .any base t v) (h : DataW.Trod enc P W 0 (fun _ => true) true t v d ps) :
    ∃ a l cap, v = .slice a (l : List UInt8).length cap ∧ l.length ≤ cap ∧ cap ≤ maxLen ∧ BytesAt W.heap.size W a l ∧ (a = none → cap = 0) := by
  obtain ⟨a0, len, cap, rfl⟩ := okWide_slice ht hok
  obtain ⟨fuel, hf⟩ := h
  rcases open_ints ht he hc hf with ⟨hcs, hx⟩ | ⟨a, len', cap', zs, hcs, _, hl, hm, hz, hx, hcell, hwz⟩
  · simp [Value.cells] at hcs
    obtain ⟨rfl, rfl, rfl⟩ := hcs
    exact ⟨none, [], 0, rfl, Nat.le_refl _, Nat.zero_le _, .nil, fun _ => rfl⟩
  · simp [Value.cells] at hcs
    obtain ⟨rfl, rfl, rfl⟩ := hcs
    simp only [if_true] at hz
    refine ⟨some a, (zs.take len).map (fun z => UInt8.ofNat z.toNat), cap, ?_, ?_, hm, ?_, fun h => by cases h⟩
    · simp; omega
    · simp; omega
    · intro hne
      have hlen : 0 < len := by
        rcases Nat.eq_zero_or_pos len with h0 | h0
        · subst h0; simp at hne
        · exact h0
      obtain ⟨b, off, spot⟩ := a
      have hspot : spot = none := by simpa [Addr.add] using World.cell?_spot (hcell 0 (by omega))
      subst hspot
      refine ⟨b, off, rfl, ?_, fun j hj => ?_⟩
      · have := cell_lt (hcell 0 (by omega)); simpa [Addr.add] using this
      · have hj1 : j < len ∧ j < zs.length := by simp at hj; omega
        have h1 := hcell j (by omega)
        have hw := wf_u8 (hwz (zs.getD j 0) (by simp [List.getD, List.getElem?_eq_getElem hj1.2]))
        have e2 : (((zs.take len).map (fun z => UInt8.ofNat z.toNat))[j]?.getD 0).toNat = (zs.getD j 0).toNat := by
          rw [List.getElem?_map, List.getElem?_take, if_pos hj1.1, List.getElem?_eq_getElem hj1.2]
          simp only [List.getD, List.getElem?_eq_getElem hj1.2, Option.map_some, Option.getD_some] at hw ⊢
          exact UInt8.toNat_ofNat_of_lt' (by have : UInt8.size = 256 := rfl; omega)
        have e3 : (⟨b, off, none⟩ : Addr).add j = ⟨b, off + j, none⟩ := addr_add b off j
        rw [e2, show (((zs.getD j 0).toNat : Nat) : Int) = zs.getD j 0 by omega, ← e3]
        exact h1
end
end Go.Proofs.YtgcfgheamaoceaaGreatDoor
