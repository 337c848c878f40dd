/- Texts of the proof in one file, in build order: Kit, CrcMath, CrcFns, Reg, Bytes, WireB, WireW, WireW2, WireT. -/
import Derived.Below
import Derived.Carry
import Derived.ChangeSame
import Derived.OpenShut
import Derived.Deep.Matrix
import Derived.RowKit
import Derived.Laws.BitsAll
import Derived.KernelRfl
import Derived.WalkKit
import Derived.Outline
import Derived.LoopTactic
import Derived.LoopN
import Derived.Lib.LaidTab
import Derived.Lib.Hide
import Derived.Test.YtaijjlaheoamaaaDoorRows
import Derived.Orders
import Derived.OrdersHeld
import Derived.OwnWalk
import Derived.Laws.AppendOwn
import Derived.Laws.AppendOwnNone
import Derived.Test.YtaijjlaheoamaaaDoorProg
import Derived.Maps.AppendAt
import Derived.Lib.AppendStr
import Derived.ScopeJumps
import Derived.WalkMore
import Derived.Deep.QuietTactic
/- What all proofs of this seat share, of no program: slices of bytes and of parts in memory; a law's last step: it answered true, and nothing that lay before has turned. -/
namespace Go.Proofs.YtaijjlaheoamaaaDoor
open Go.ChangeShapes Go.WideShapes Go.RowKit

/-- From the slice's address on lie these bytes, in a block below n₀. -/
def BytesAt (n₀ : Nat) (W : World) (a : Option Addr) (l : List UInt8) : Prop := l ≠ [] → ∃ b off, a = some ⟨b, off, none⟩ ∧ b < n₀ ∧ ∀ j, j < l.length → W.cell? ⟨b, off + j, none⟩ = some (.int .u8 ((l[j]?.getD 0).toNat : Int))
theorem BytesAt.below {n₀ : Nat} {A B : World} {a : Option Addr} {l : List UInt8} (h : Below n₀ A B) (k : BytesAt n₀ A a l) : BytesAt n₀ B a l := fun hl => by
  obtain ⟨b, off, rfl, hb, hc⟩ := k hl
  exact ⟨b, off, rfl, hb, fun j hj => (h.cell (p := ⟨b, off + j, none⟩) hb).trans (hc j hj)⟩
theorem BytesAt.mono {n₀ n₁ : Nat} {A : World} {a : Option Addr} {l : List UInt8} (hn : n₀ ≤ n₁) (k : BytesAt n₀ A a l) : BytesAt n₁ A a l := fun hl => by
  obtain ⟨b, off, rfl, hb, hc⟩ := k hl
  exact ⟨b, off, rfl, Nat.lt_of_lt_of_le hb hn, hc⟩
theorem BytesAt.nil {n₀ : Nat} {A : World} {a : Option Addr} : BytesAt n₀ A a [] := fun h => absurd rfl h
theorem BytesAt.left {n₀ : Nat} {A : World} {a : Option Addr} {l m : List UInt8} (k : BytesAt n₀ A a (l ++ m)) : BytesAt n₀ A a l := fun hl => by
  obtain ⟨b, off, rfl, hb, hc⟩ := k (by intro h; exact hl (List.append_eq_nil_iff.1 h).1)
  refine ⟨b, off, rfl, hb, fun j hj => ?_⟩
  have := hc j (by rw [List.length_append]; omega)
  rwa [List.getElem?_append_left hj] at this
/-- From the slice's address on lie slices of bytes. -/
def PartsAt (n₀ : Nat) (W : World) (a : Option Addr) (ls : List (List UInt8)) : Prop := ls ≠ [] → ∃ b off, a = some ⟨b, off, none⟩ ∧ b < n₀ ∧
  ∀ j, j < ls.length → (ls[j]?.getD []).length ≤ 9223372036854775807 ∧ ∃ ai ci, W.cell? ⟨b, off + j, none⟩ = some (.slice ai (ls[j]?.getD []).length ci) ∧ BytesAt n₀ W ai (ls[j]?.getD [])
theorem PartsAt.below {n₀ : Nat} {A B : World} {a : Option Addr} {l : List (List UInt8)} (h : Below n₀ A B) (k : PartsAt n₀ A a l) : PartsAt n₀ B a l := fun hl => by
  obtain ⟨b, off, rfl, hb, hc⟩ := k hl
  refine ⟨b, off, rfl, hb, fun j hj => ?_⟩
  obtain ⟨h1, ai, ci, h2, h3⟩ := hc j hj
  exact ⟨h1, ai, ci, (h.cell (p := ⟨b, off + j, none⟩) hb).trans h2, h3.below h⟩
theorem PartsAt.mono {n₀ n₁ : Nat} {A : World} {a : Option Addr} {l : List (List UInt8)} (hn : n₀ ≤ n₁) (k : PartsAt n₀ A a l) : PartsAt n₁ A a l := fun hl => by
  obtain ⟨b, off, rfl, hb, hc⟩ := k hl
  refine ⟨b, off, rfl, Nat.lt_of_lt_of_le hb hn, fun j hj => ?_⟩
  obtain ⟨h1, ai, ci, h2, h3⟩ := hc j hj
  exact ⟨h1, ai, ci, h2, h3.mono hn⟩

/-- The blocks that K names are as they were. -/
def KeepsOn (K : Nat → Prop) (A C : World) : Prop := ∀ k, K k → C.heap[k]? = A.heap[k]?
theorem KeepsOn.refl (K : Nat → Prop) (A : World) : KeepsOn K A A := fun _ _ => rfl
theorem KeepsOn.trans {K : Nat → Prop} {A B C : World} (h : KeepsOn K A B) (k : KeepsOn K B C) : KeepsOn K A C := fun b hb => (k b hb).trans (h b hb)
theorem KeepsOn.cell {K : Nat → Prop} {A C : World} (h : KeepsOn K A C) {b o : Nat} (hb : K b) : C.cell? ⟨b, o, none⟩ = A.cell? ⟨b, o, none⟩ := World.cell?_of_block (h b hb)
theorem KeepsOn.of_below {n₀ : Nat} {A C : World} (h : Below n₀ A C) {K : Nat → Prop} (hK : ∀ k, K k → k < n₀) : KeepsOn K A C := fun k hk => h.block k (hK k hk)
theorem KeepsOn.of_grown {A C : World} {row : Option Nat} (h : A.grownBy C row) {K : Nat → Prop} (hK : ∀ k, K k → k < A.heap.size ∧ some k ≠ row) : KeepsOn K A C := fun k hk => h.block k (hK k hk).1 (hK k hk).2
/-- From the slice's address on lie these bytes, in a block that K names. -/
def BytesOn (K : Nat → Prop) (W : World) (a : Option Addr) (l : List UInt8) : Prop := l ≠ [] → ∃ b off, a = some ⟨b, off, none⟩ ∧ K b ∧ ∀ j, j < l.length → W.cell? ⟨b, off + j, none⟩ = some (.int .u8 ((l[j]?.getD 0).toNat : Int))
theorem BytesOn.keeps {K : Nat → Prop} {A B : World} {a : Option Addr} {l : List UInt8} (h : KeepsOn K A B) (k : BytesOn K A a l) : BytesOn K B a l := fun hl => by
  obtain ⟨b, off, rfl, hb, hc⟩ := k hl
  exact ⟨b, off, rfl, hb, fun j hj => (h.cell hb).trans (hc j hj)⟩
theorem BytesOn.mono {K K' : Nat → Prop} {A : World} {a : Option Addr} {l : List UInt8} (hn : ∀ b, K b → K' b) (k : BytesOn K A a l) : BytesOn K' A a l := fun hl => by
  obtain ⟨b, off, rfl, hb, hc⟩ := k hl
  exact ⟨b, off, rfl, hn b hb, hc⟩
theorem BytesAt.on {n₀ : Nat} {A : World} {a : Option Addr} {l : List UInt8} (h : BytesAt n₀ A a l) : BytesOn (fun k => k < n₀) A a l := h
def PartsOn (K : Nat → Prop) (W : World) (a : Option Addr) (ls : List (List UInt8)) : Prop := ls ≠ [] → ∃ b off, a = some ⟨b, off, none⟩ ∧ K b ∧
  ∀ j, j < ls.length → (ls[j]?.getD []).length ≤ 9223372036854775807 ∧ ∃ ai ci, W.cell? ⟨b, off + j, none⟩ = some (.slice ai (ls[j]?.getD []).length ci) ∧ BytesOn K W ai (ls[j]?.getD [])
theorem PartsOn.keeps {K : Nat → Prop} {A B : World} {a : Option Addr} {l : List (List UInt8)} (h : KeepsOn K A B) (k : PartsOn K A a l) : PartsOn K B a l := fun hl => by
  obtain ⟨b, off, rfl, hb, hc⟩ := k hl
  refine ⟨b, off, rfl, hb, fun j hj => ?_⟩
  obtain ⟨h1, ai, ci, h2, h3⟩ := hc j hj
  exact ⟨h1, ai, ci, (h.cell hb).trans h2, h3.keeps h⟩
theorem PartsAt.on {n₀ : Nat} {A : World} {a : Option Addr} {l : List (List UInt8)} (h : PartsAt n₀ A a l) : PartsOn (fun k => k < n₀) A a l := h

section
variable {H : Type} {enc : TypeId × Value → H} {P : Program}

/-- Arguments read in a world in which nothing that lay has turned as they did. -/
theorem trodAll_below (hl : laidOutB P = true) {W W' : World} (hb : Below W.heap.size W W') {sp : Nat → Bool} : ∀ {ts : List TypeId} {vs : List Value} {ds : List (DataW H)} {ps : List MemPlace},
    (∀ t ∈ ts, P.readableRec t = true ∧ t < P.types.size) → DataW.TrodAll enc P W 0 (fun _ => true) true ts vs ds ps → (∀ x ∈ ps, x.block < W.heap.size) → (∀ x ∈ ps, sp x.block = true) → DataW.TrodAll enc P W' 0 sp true ts vs ds ps
  | [], [], [], _, _, h, _, _ => h
  | t :: ts, v :: vs, d :: ds, ps, hts, h, hlt, hsp => by
    obtain ⟨p, q, h1, h2, rfl⟩ := h
    have ht := hts t (by simp)
    exact ⟨p, q, WideElems.Trod_stays hl ht.1 ht.2 h1 (fun x hx => hb.same (hlt x (List.mem_append_left _ hx))) (fun x hx => hsp x (List.mem_append_left _ hx)),
      trodAll_below hl hb (fun u hu => hts u (by simp [hu])) h2 (fun x hx => hlt x (List.mem_append_right _ hx)) (fun x hx => hsp x (List.mem_append_right _ hx)), rfl⟩

/-- A LAW's LAST STEP: it answered true, and nothing that lay when it began has turned. -/
theorem law_post {f : Func} {s : ChangeSpec} {apart fresh handsOn again : Bool} {W W' : World} {args : Array Value} {ds gs : List (DataW H)} {before : List MemPlace} {tb : TypeId}
    (hl : laidOutB P = true) (hts : ∀ t ∈ f.params.toList, P.readableRec t = true ∧ t < P.types.size) (hvars : s.vars = [])
    (hW : DataW.Whole enc P f.params.toList s.vars apart W args.toList ds gs before)
    (hr : (s.fn H (ds ++ gs)).results = [.lit (.bool true)]) (ha : (s.fn H (ds ++ gs)).args = ds) (hv : (s.fn H (ds ++ gs)).vars = [])
    (htb : P.underlying tb = some .bool) (hres : f.resultTypes = #[tb]) (hb : Below W.heap.size W W') :
    s.post enc P f apart fresh handsOn again W args (.bool true) W' := by
  have hlt : ∀ p ∈ before, p.block < W.heap.size := fun p hp => hW.lt p hp
  have hW0 := hW
  obtain ⟨p, q, hA, hV, rfl, hz, hn⟩ := hW
  rw [hvars] at hV
  obtain ⟨rfl, rfl⟩ := trodVars_none hV
  simp only [List.append_nil] at *
  have hargs : ∀ sp : Nat → Bool, (∀ x ∈ p, sp x.block = true) → DataW.TrodAll enc P W' 0 sp true f.params.toList args.toList ds p := fun sp hsp => trodAll_below hl hb hts hA hlt hsp
  have hresult : ∀ (b : Nat) (sp : Nat → Bool) (hd : Bool), DataW.TrodAll enc P W' b sp hd f.resultTypes.toList ((Value.bool true).resultList f.resultTypes.size) [.lit (.bool true)] [] := fun b sp hd => by
    rw [hres]; exact trodAll_cons_mk (shut_bool htb true) trodAll_mk0
  have hno : ∀ sp : Nat → Bool, DataW.TrodVars enc P W' sp s.vars [] [] := fun sp => by rw [hvars]; rfl
  refine ⟨ds, [], p, [], p, [], by simpa using hW0, by simp only [List.append_nil]; rw [hr]; exact hresult _ _ _, by simp only [List.append_nil]; rw [ha]; exact hargs _ (fun x hx => by simpa using hlt x hx), by simp only [List.append_nil]; rw [hv]; exact hno _,
    World.keptBut_mono (fun x hx => ⟨hx, Or.inr (by simpa using hx)⟩) (hb.frame (· ∈ p)), fun _ => ?_⟩
  refine ⟨ok_one hres rfl (okWide_bool_mk htb true), _, _, ([] ++ p) ++ [], ⟨[] ++ p, [], trodAll_append (hargs _ (fun _ _ => rfl)) (hresult _ _ _), hno _, rfl, ?_, ?_⟩, ?_⟩
  · intro b off hp
    have hin : MemPlace.cell b off ∈ p := by simpa using hp
    rw [hb.frozen (hlt _ hin)]
    exact hz b off hin
  · intro h
    simpa using hn h
  · intro x hx _
    simpa using hx

theorem cell_lt {W : World} {a : Addr} {v : Value} (h : W.cell? a = some v) : a.block < W.heap.size := by
  rcases Nat.lt_or_ge a.block W.heap.size with h' | h'
  · exact h'
  · simp [World.cell?, Array.getElem?_eq_none h'] at h

theorem wf_u8 {n : Int} (h : (Lit.int .u8 n).wf = true) : 0 ≤ n ∧ n < 256 := by
  simp [Lit.wf] at h
  have h1 : IntKind.u8.min = 0 := rfl
  have h2 : IntKind.u8.max = 255 := rfl
  omega

theorem addr_add (b off j : Nat) : (⟨b, off, none⟩ : Addr).add j = ⟨b, off + j, none⟩ := by
  unfold Addr.add
  split
  · simp_all
  · rfl

/-- An argument of bytes, opened. -/
theorem open_bytes {t e : TypeId} {base : Nat} {W : World} {v : Value} {d : DataW H} {ps : List MemPlace} (ht : P.underlying t = some (.slice e)) (he : P.underlying e = some (.int .u8)) (hc : P.cellsOf e = 1)
    (hok : Value.okWide P W .any base t v) (h : DataW.Trod enc P W 0 (fun _ => true) true t v d ps) :
    ∃ a l cap, v = .slice a (l : List UInt8).length cap ∧ l.length ≤ cap ∧ cap ≤ maxLen ∧ BytesAt W.heap.size W a l ∧ (a = none → cap = 0) := by
  obtain ⟨a0, len, cap, rfl⟩ := okWide_slice ht hok
  obtain ⟨fuel, hf⟩ := h
  rcases open_ints ht he hc hf with ⟨hcs, hx⟩ | ⟨a, len', cap', zs, hcs, _, hl, hm, hz, hx, hcell, hwz⟩
  · simp [Value.cells] at hcs
    obtain ⟨rfl, rfl, rfl⟩ := hcs
    exact ⟨none, [], 0, rfl, Nat.le_refl _, Nat.zero_le _, .nil, fun _ => rfl⟩
  · simp [Value.cells] at hcs
    obtain ⟨rfl, rfl, rfl⟩ := hcs
    simp only [if_true] at hz
    refine ⟨some a, (zs.take len).map (fun z => UInt8.ofNat z.toNat), cap, ?_, ?_, hm, ?_, fun h => by cases h⟩
    · simp; omega
    · simp; omega
    · intro hne
      have hlen : 0 < len := by
        rcases Nat.eq_zero_or_pos len with h0 | h0
        · subst h0; simp at hne
        · exact h0
      obtain ⟨b, off, spot⟩ := a
      have hspot : spot = none := by simpa [Addr.add] using World.cell?_spot (hcell 0 (by omega))
      subst hspot
      refine ⟨b, off, rfl, ?_, fun j hj => ?_⟩
      · have := cell_lt (hcell 0 (by omega)); simpa [Addr.add] using this
      · have hj1 : j < len ∧ j < zs.length := by simp at hj; omega
        have h1 := hcell j (by omega)
        have hw := wf_u8 (hwz (zs.getD j 0) (by simp [List.getD, List.getElem?_eq_getElem hj1.2]))
        have e2 : (((zs.take len).map (fun z => UInt8.ofNat z.toNat))[j]?.getD 0).toNat = (zs.getD j 0).toNat := by
          rw [List.getElem?_map, List.getElem?_take, if_pos hj1.1, List.getElem?_eq_getElem hj1.2]
          simp only [List.getD, List.getElem?_eq_getElem hj1.2, Option.map_some, Option.getD_some] at hw ⊢
          exact UInt8.toNat_ofNat_of_lt' (by have : UInt8.size = 256 := rfl; omega)
        have e3 : (⟨b, off, none⟩ : Addr).add j = ⟨b, off + j, none⟩ := addr_add b off j
        rw [e2, show (((zs.getD j 0).toNat : Nat) : Int) = zs.getD j 0 by omega, ← e3]
        exact h1
end
end Go.Proofs.YtaijjlaheoamaaaDoor
/- Plain numbers for layer 1: the word of a byte by the table, the sum of bytes, byte by byte, as functions on natural numbers. Nothing of the program. -/
namespace Go.Proofs.YtaijjlaheoamaaaDoor

def crcTab : List Int := [0, 498536548, 997073096, 651767980, 1994146192, 1802195444, 1303535960, 1342533948, 3988292384, 4027552580, 3604390888, 3412177804, 2607071920, 2262029012, 2685067896, 3183342108]
def crcT (i : Nat) : Nat := ([0, 498536548, 997073096, 651767980, 1994146192, 1802195444, 1303535960, 1342533948, 3988292384, 4027552580, 3604390888, 3412177804, 2607071920, 2262029012, 2685067896, 3183342108] : List Nat).getD i 0
/-- Four halvings at once. -/
def crcHalf (x : Nat) : Nat := crcT (x % 16) ^^^ (x / 16)
def crcWord (b : Nat) : Nat := crcHalf (crcHalf b)
def crcStep (s b : Nat) : Nat := crcWord ((s % 256) ^^^ b) ^^^ (s / 256)
def crcRun (s : Nat) (l : List UInt8) : Nat := l.foldl (fun s b => crcStep s b.toNat) s
def crcSum (l : List UInt8) : Nat := 4294967295 - crcRun 4294967295 l

theorem crcT_lt (i : Nat) : crcT i < 4294967296 := by
  by_cases h : i < 16
  · have : ∀ j : Fin 16, crcT j.1 < 4294967296 := by decide +kernel
    exact this ⟨i, h⟩
  · unfold crcT
    rw [List.getD_eq_getElem?_getD, List.getElem?_eq_none (by simp; omega)]
    decide
theorem crcT_tab (i : Nat) : crcTab.getD i 0 = (crcT i : Int) := by
  by_cases h : i < 16
  · have : ∀ j : Fin 16, crcTab.getD j.1 0 = (crcT j.1 : Int) := by decide +kernel
    exact this ⟨i, h⟩
  · unfold crcT crcTab
    rw [List.getD_eq_getElem?_getD, List.getElem?_eq_none (by simp; omega), List.getD_eq_getElem?_getD, List.getElem?_eq_none (by simp; omega)]
    rfl
theorem xor_lt32 {a b : Nat} (ha : a < 4294967296) (hb : b < 4294967296) : a ^^^ b < 4294967296 := Nat.xor_lt_two_pow (n := 32) ha hb
theorem crcHalf_lt {x : Nat} (h : x < 4294967296) : crcHalf x < 4294967296 := xor_lt32 (crcT_lt _) (by omega)
theorem crcWord_lt {x : Nat} (h : x < 256) : crcWord x < 4294967296 := crcHalf_lt (crcHalf_lt (by omega))
theorem xor_lt8 {a b : Nat} (ha : a < 256) (hb : b < 256) : a ^^^ b < 256 := Nat.xor_lt_two_pow (n := 8) ha hb
theorem crcStep_lt {s b : Nat} (h : s < 4294967296) (hb : b < 256) : crcStep s b < 4294967296 := xor_lt32 (crcWord_lt (xor_lt8 (by omega) hb)) (by omega)
theorem crcRun_lt {s : Nat} (h : s < 4294967296) : ∀ (l : List UInt8), crcRun s l < 4294967296 := by
  intro l
  induction l generalizing s with
  | nil => exact h
  | cons b l ih => exact ih (crcStep_lt h (UInt8.toNat_lt b))
theorem crcRun_append (s : Nat) (l m : List UInt8) : crcRun s (l ++ m) = crcRun (crcRun s l) m := by simp [crcRun]
theorem crcRun_snoc (s : Nat) (l : List UInt8) (b : UInt8) : crcRun s (l ++ [b]) = crcStep (crcRun s l) b.toNat := by simp [crcRun]

/- THE OPERATORS, AS NATURAL NUMBERS HAVE THEM. -/
theorem and15 {x : Nat} (h : x < 4294967296) : bits .and .u32 (x : Int) 15 = ((x % 16 : Nat) : Int) := by
  have := u32_and_nat x 15 h (by decide)
  rw [show ((15 : Nat) : Int) = 15 from rfl] at this
  rw [this, show (15 : Nat) = 2 ^ 4 - 1 from rfl, Nat.and_two_pow_sub_one_eq_mod]
theorem xor32 {x y : Nat} (hx : x < 4294967296) (hy : y < 4294967296) : bits .xor .u32 (x : Int) (y : Int) = ((x ^^^ y : Nat) : Int) := u32_xor_nat x y hx hy
theorem xor8 {x y : Nat} (hx : x < 256) (hy : y < 256) : bits .xor .u8 (x : Int) (y : Int) = ((x ^^^ y : Nat) : Int) := u8_xor_nat x y hx hy
theorem not_nat {x : Nat} (h : x < 4294967296) : 4294967295 ^^^ x = 4294967295 - x := by
  have e : (BitVec.allOnes 32 ^^^ BitVec.ofNat 32 x).toNat = (~~~ BitVec.ofNat 32 x).toNat := by rw [BitVec.not_def]
  rw [BitVec.toNat_xor, BitVec.toNat_not, BitVec.toNat_allOnes, BitVec.toNat_ofNat, Nat.mod_eq_of_lt h] at e
  simpa using e
theorem not32 {x : Nat} (h : x < 4294967296) : bits .xor .u32 IntKind.u32.max (x : Int) = ((4294967295 - x : Nat) : Int) := by
  have := xor32 (x := 4294967295) (by decide) h
  rw [not_nat h] at this
  exact this
end Go.Proofs.YtaijjlaheoamaaaDoor
/- The contracts of layer 1's small functions: a byte's word, one step of a sum. -/
namespace Go.Proofs.YtaijjlaheoamaaaDoor
open Go.RowKit

/-- The table's cells hold its sixteen numbers. -/
def Tab (w : World) : Prop := ∀ i, i < 16 → w.cell? ⟨0, i, none⟩ = some (.int .u32 (crcT i : Int))

theorem word_any (b : Nat) (hb : b < 256) (w : World) (ht : Tab w) :
    Calls Tryd.prog 71 #[.int .u8 b] w fun e w' => e = .returned (.int .u32 (crcWord b : Int)) ∧ w = w' := by
  have l1 : crcHalf b < 4294967296 := crcHalf_lt (by omega)
  have a1 := and15 (x := b) (by omega)
  have c1 := ht (b % 16) (by omega)
  have x1 : bits .xor .u32 (crcT (b % 16) : Int) ((b : Int) / 16) = (crcHalf b : Int) := by
    have := xor32 (crcT_lt (b % 16)) (y := b / 16) (by omega)
    rw [show crcHalf b = crcT (b % 16) ^^^ b / 16 from rfl]; simpa using this
  have a2 := and15 l1
  have c2 := ht (crcHalf b % 16) (by omega)
  have x2 : bits .xor .u32 (crcT (crcHalf b % 16) : Int) ((crcHalf b : Int) / 16) = (crcWord b : Int) := by
    have := xor32 (crcT_lt (crcHalf b % 16)) (y := crcHalf b / 16) (by omega)
    rw [show crcWord b = crcT (crcHalf b % 16) ^^^ crcHalf b / 16 from rfl]; simpa using this
  clear ht
  go_enter Tryd.func71, Tryd.ntmps71
  go_wp2
  refine wp_loop_rounds 3 ?_; rw [rounds_succ]
  go_wp2
  rw [rounds_succ]
  go_wp2
  rw [rounds_succ]
  go_wp2
  go_ret
  exact ⟨rfl, rfl⟩

theorem step_any (s : Nat) (b : UInt8) (hs : s < 4294967296) (w : World) (ht : Tab w) :
    Calls Tryd.prog 60 #[.int .u32 s, .int .u8 b.toNat] w fun e w' => e = .returned (.int .u32 (crcStep s b.toNat : Int)) ∧ w = w' := by
  have hb := UInt8.toNat_lt b
  have x8 : bits .xor .u8 ((s : Int) % 256) (b.toNat : Int) = (((s % 256) ^^^ b.toNat : Nat) : Int) := by
    have := xor8 (x := s % 256) (y := b.toNat) (by omega) hb
    simpa using this
  have hx : (s % 256) ^^^ b.toNat < 256 := xor_lt8 (by omega) hb
  have x32 : bits .xor .u32 (crcWord ((s % 256) ^^^ b.toNat) : Int) ((s : Int) / 256) = (crcStep s b.toNat : Int) := by
    have := xor32 (crcWord_lt hx) (y := s / 256) (by omega)
    rw [show crcStep s b.toNat = crcWord ((s % 256) ^^^ b.toNat) ^^^ s / 256 from rfl]; simpa using this
  go_enter Tryd.func60, Tryd.ntmps60
  go_wp2_with (go_at_call 71; refine (word_any _ hx _ ht).mono ?_; rintro e w' ⟨rfl, rfl⟩)
  go_ret
  exact ⟨rfl, rfl⟩
end Go.Proofs.YtaijjlaheoamaaaDoor
/- A statement whose order Go leaves open: one look at each operation serves every order. What is known of the world may hang on which operations have come up ('I listed'); an operation that has not come up tells that those that wait for it have not. Of no program. -/
namespace Go.Proofs.YtaijjlaheoamaaaDoor

section
variable {P : Program} {ops : Array Oper} {Q : Exit → Act → World → Prop}

/-- What is known when the operations in 'listed' have come up. -/
structure RegL (ops : Array Oper) (I : Array Bool → World → Prop) (Sp : Nat → Value → World → Prop) (a0 : Act) (listed : Array Bool) (a : Act) (w : World) : Prop where
  inv : I listed w
  size : listed.size = ops.size
  defers : a.defers = a0.defers
  len : a.tmps.size = a0.tmps.size
  old : ∀ t, (∀ (i : Nat) (o : Oper), ops[i]? = some o → o.dst ≠ some t) → a.tmps.getD t undef = a0.tmps.getD t undef
  said : ∀ (i : Nat) (o : Oper) (d : Tmp), ops[i]? = some o → listed.getD i false = true → o.dst = some d → Sp i (a.tmps.getD d undef) w
  closed : ∀ (i : Nat) (o : Oper), ops[i]? = some o → listed.getD i false = true → ∀ e ∈ o.after, Region.binds .any e = true → listed.getD e.on false = true

theorem getD_putL_same {a : Act} {d : Tmp} {v : Value} (h : d < a.tmps.size) : (a.put (some d) v).tmps.getD d undef = v := by
  simp [Act.put, h]
theorem getD_putL_other {a : Act} {d t : Tmp} {v : Value} (h : d ≠ t) : (a.put (some d) v).tmps.getD t undef = a.tmps.getD t undef := by
  simp [Act.put, h]

theorem readyL_nil_all {listed : Array Bool} (hsz : listed.size = ops.size) (hlex : ∀ i o, ops[i]? = some o → ∀ e ∈ o.after, Region.binds .any e = true → e.on < i) (h : Region.ready .any ops listed = []) :
    ∀ i, i < ops.size → listed.getD i false = true := by
  intro i
  induction i using Nat.strongRecOn with
  | _ i ih =>
    intro hi
    cases hb : listed.getD i false with
    | true => rfl
    | false =>
      have hb2 : listed.getD i true = false := by
        rw [Array.getD, dif_pos (by omega)] at hb ⊢; exact hb
      have ho : ops[i]? = some ops[i] := Array.getElem?_eq_getElem hi
      have : i ∈ Region.ready .any ops listed := mem_ready.2 ⟨hb2, ops[i], ho, fun e he hbd => by
        have hlt := hlex i _ ho e he hbd
        exact ih e.on hlt (by omega)⟩
      rw [h] at this
      cases this

theorem wpAny_l (I : Array Bool → World → Prop) (Sp : Nat → Value → World → Prop) (a0 : Act)
    (hlex : ∀ i o, ops[i]? = some o → ∀ e ∈ o.after, Region.binds .any e = true → e.on < i)
    (hd : ∀ (i j : Nat) (oi oj : Oper) (d : Tmp), ops[i]? = some oi → ops[j]? = some oj → i ≠ j → oi.dst = some d → oj.dst ≠ some d)
    (hin : ∀ (i : Nat) (o : Oper) (d : Tmp), ops[i]? = some o → o.dst = some d → d < a0.tmps.size)
    (step : ∀ (i : Nat) (o : Oper), ops[i]? = some o → ∀ listed a w, RegL ops I Sp a0 listed a w → listed.getD i false = false → (∀ e ∈ o.after, Region.binds .any e = true → listed.getD e.on false = true) →
      wpOp P ops Q i (fun a' w' => ∃ v, a' = a.put o.dst v ∧ I (listed.setIfInBounds i true) w' ∧ (o.dst.isSome = true → Sp i v w') ∧ ∀ j u, listed.getD j false = true → Sp j u w → Sp j u w') a w)
    (fin : ∀ listed a w, RegL ops I Sp a0 listed a w → (∀ i, i < ops.size → listed.getD i false = true) → Q .normal a w) :
    ∀ (fuel : Nat) (listed : Array Bool) (a : Act) (w : World), RegL ops I Sp a0 listed a w → listed.toList.count false = fuel → wpAny P .any ops Q fuel listed a w := by
  intro fuel
  induction fuel with
  | zero =>
    intro listed a w hI hc
    have hno : ∀ i, i < ops.size → listed.getD i false = true := by
      intro i hi
      have hi2 : i < listed.size := by rw [hI.size]; exact hi
      have := List.count_eq_zero.1 hc
      rw [Array.getD, dif_pos hi2]
      have h2 : listed[i] ≠ false := fun hb => this (by rw [← hb]; exact Array.mem_toList_iff.2 (Array.getElem_mem hi2))
      exact (Bool.not_eq_false _).mp h2
    refine ⟨?_, fin listed a w hI hno⟩
    apply List.eq_nil_iff_forall_not_mem.2
    intro i hi
    obtain ⟨h0, o, ho, -⟩ := mem_ready.1 hi
    have hi1 := (Array.getElem?_eq_some_iff.1 ho).1
    have hi2 : i < listed.size := by rw [hI.size]; exact hi1
    have h1 := hno i hi1
    rw [Array.getD, dif_pos hi2] at h0 h1
    rw [h0] at h1
    cases h1
  | succ fuel ih =>
    intro listed a w hI hc
    refine ⟨fun h => fin listed a w hI (readyL_nil_all hI.size hlex h), fun i hi => ?_⟩
    obtain ⟨h0, o, ho, hpre⟩ := mem_ready.1 hi
    have hi1 := (Array.getElem?_eq_some_iff.1 ho).1
    have hi2 : i < listed.size := by rw [hI.size]; exact hi1
    have h0' : listed.getD i false = false := by
      rw [Array.getD, dif_pos hi2] at h0 ⊢; exact h0
    refine wpOp_mono ?_ (step i o ho listed a w hI h0' hpre)
    rintro a' w' ⟨v, rfl, hI', hS, hkeep⟩
    have hset : ∀ k, k ≠ i → (listed.setIfInBounds i true).getD k false = listed.getD k false := fun k hk => by
      simp [Ne.symm hk]
    have hseti : (listed.setIfInBounds i true).getD i false = true := by simp [hi2]
    have hup : ∀ k, listed.getD k false = true → (listed.setIfInBounds i true).getD k false = true := fun k hk => by
      by_cases hki : k = i
      · rw [hki]; exact hseti
      · rw [hset k hki]; exact hk
    refine ih _ _ _ ?_ ?_
    · refine ⟨hI', by simpa using hI.size, ?_, ?_, ?_, ?_, ?_⟩
      · cases hdst : o.dst <;> simp [Act.put, hI.defers]
      · cases hdst : o.dst <;> simp [Act.put, hI.len]
      · intro t ht
        rw [← hI.old t ht]
        cases hdst : o.dst with
        | none => rfl
        | some d => exact getD_putL_other (fun e => ht i o ho (by rw [hdst, e]))
      · intro j oj d hj hlist hdj
        by_cases hji : j = i
        · subst hji
          obtain rfl : o = oj := Option.some.inj (ho.symm.trans hj)
          rw [hdj, getD_putL_same (by rw [hI.len]; exact hin j o d ho hdj)]
          exact hS (by rw [hdj]; rfl)
        · rw [hset j hji] at hlist
          have hold := hkeep j _ hlist (hI.said j oj d hj hlist hdj)
          cases hdst : o.dst with
          | none => exact hold
          | some d' =>
            have hne : d' ≠ d := fun e => hd i j o oj d' ho hj (Ne.symm hji) hdst (by rw [hdj, e])
            rw [getD_putL_other hne]
            exact hold
      · intro k ok hk hlk e he hb
        by_cases hki : k = i
        · subst hki
          obtain rfl : o = ok := Option.some.inj (ho.symm.trans hk)
          exact hup _ (hpre e he hb)
        · rw [hset k hki] at hlk
          exact hup _ (hI.closed k ok hk hlk e he hb)
    · rw [Array.toList_setIfInBounds, List.count_set (by simpa using hi2)]
      have hf : listed.toList[i]'(by simpa using hi2) = false := by
        rw [Array.getElem_toList]
        rw [Array.getD, dif_pos hi2] at h0; exact h0
      simp [hf, hc]

/- Closed facts on a region's text, as Bools. -/
def lexB (ops : Array Oper) : Bool := (List.range ops.size).all fun i => match ops[i]? with | some o => o.after.all fun e => decide (e.on < i) | none => true
def dstB (ops : Array Oper) : Bool := (List.range ops.size).all fun i => (List.range ops.size).all fun j => i == j || match ops[i]?, ops[j]? with | some oi, some oj => oi.dst == none || oi.dst != oj.dst | _, _ => true
def inB (ops : Array Oper) (n : Nat) : Bool := (List.range ops.size).all fun i => match ops[i]? with | some o => (match o.dst with | some d => decide (d < n) | none => true) | none => true
def oldB (ops : Array Oper) (t : Tmp) : Bool := (List.range ops.size).all fun i => match ops[i]? with | some o => o.dst != some t | none => true
/-- Operation j waits for operation i. -/
def waitsB (ops : Array Oper) (i j : Nat) : Bool := match ops[j]? with | some o => o.after.any fun e => e.on == i && Region.binds .any e | none => false
theorem lex_of (h : lexB ops = true) : ∀ i o, ops[i]? = some o → ∀ e ∈ o.after, Region.binds .any e = true → e.on < i := fun i o ho e he _ => by
  have hi := (Array.getElem?_eq_some_iff.1 ho).1
  have := List.all_eq_true.1 h i (List.mem_range.2 hi)
  simp only [ho] at this
  have := Array.all_eq_true_iff_forall_mem.1 this e he
  simpa using this
theorem dst_of (h : dstB ops = true) (i j : Nat) (oi oj : Oper) (d : Tmp) (hi : ops[i]? = some oi) (hj : ops[j]? = some oj) (hne : i ≠ j) (hd : oi.dst = some d) : oj.dst ≠ some d := fun e => by
  have h1 := List.all_eq_true.1 h i (List.mem_range.2 (Array.getElem?_eq_some_iff.1 hi).1)
  have h2 := List.all_eq_true.1 h1 j (List.mem_range.2 (Array.getElem?_eq_some_iff.1 hj).1)
  simp [hi, hj, hd, e, hne] at h2
theorem in_of {n : Nat} (h : inB ops n = true) (i : Nat) (o : Oper) (d : Tmp) (hi : ops[i]? = some o) (hd : o.dst = some d) : d < n := by
  have h1 := List.all_eq_true.1 h i (List.mem_range.2 (Array.getElem?_eq_some_iff.1 hi).1)
  simp only [hi, hd] at h1
  simpa using h1
theorem old_of {t : Tmp} (h : oldB ops t = true) (i : Nat) (o : Oper) (hi : ops[i]? = some o) : o.dst ≠ some t := fun e => by
  have h1 := List.all_eq_true.1 h i (List.mem_range.2 (Array.getElem?_eq_some_iff.1 hi).1)
  simp [hi, e] at h1

/-- The region's law, all orders at once. -/
theorem wp_region_l {id : Nat} (I : Array Bool → World → Prop) (Sp : Nat → Value → World → Prop) {a0 : Act} {w : World} (hm : P.follows .mixedOrders = true)
    (hlex : lexB ops = true) (hdst : dstB ops = true) (hin : inB ops a0.tmps.size = true) (hI : I (Array.replicate ops.size false) w.drew)
    (step : ∀ (i : Nat) (o : Oper), ops[i]? = some o → ∀ listed a w', RegL ops I Sp a0 listed a w' → listed.getD i false = false → (∀ e ∈ o.after, Region.binds .any e = true → listed.getD e.on false = true) →
      wpOp P ops Q i (fun a' w'' => ∃ v, a' = a.put o.dst v ∧ I (listed.setIfInBounds i true) w'' ∧ (o.dst.isSome = true → Sp i v w'') ∧ ∀ j u, listed.getD j false = true → Sp j u w' → Sp j u w'') a w')
    (fin : ∀ listed a w', RegL ops I Sp a0 listed a w' → (∀ i, i < ops.size → listed.getD i false = true) → Q .normal a w') :
    (Code.region id ops true).wp P Q a0 w := by
  have hno : ∀ i, (Array.replicate ops.size false).getD i false = false := fun i => by
    simp only [Array.getD_eq_getD_getElem?, Array.getElem?_replicate]
    split <;> rfl
  refine wp_region_any hm (wpAny_l I Sp a0 (lex_of hlex) (fun i j oi oj d hi hj hne hd => dst_of hdst i j oi oj d hi hj hne hd) (fun i o d hi hd => in_of hin i o d hi hd) step fin _ _ _ _ ?_ (by simp))
  refine ⟨hI, by simp, rfl, rfl, fun _ _ => rfl, ?_, ?_⟩
  · intro i o d _ hl _
    rw [hno i] at hl; cases hl
  · intro i o _ hl
    rw [hno i] at hl; cases hl

section
variable {I : Array Bool → World → Prop} {Sp : Nat → Value → World → Prop} {a0 a : Act} {listed : Array Bool} {w : World}
/-- What an operation's own slot holds once it has come up. -/
theorem RegL.slot (h : RegL ops I Sp a0 listed a w) (i : Nat) {o : Oper} (d : Tmp) (ho : ops[i]? = some o) (hl : listed.getD i false = true) (hd : o.dst = some d) : Sp i (a.eval (.tmp d)) w := h.said i o d ho hl hd
theorem RegL.kept (h : RegL ops I Sp a0 listed a w) {t : Tmp} (ht : oldB ops t = true) : a.eval (.tmp t) = a0.tmps.getD t undef := h.old t (fun i o hi => old_of ht i o hi)
/-- An operation has not come up: one that waits for it has not. -/
theorem RegL.notyet (h : RegL ops I Sp a0 listed a w) {i : Nat} (hi : listed.getD i false = false) (j : Nat) (hw : waitsB ops i j = true) : listed.getD j false = false := by
  cases hj : listed.getD j false with
  | false => rfl
  | true =>
    unfold waitsB at hw
    split at hw
    · rename_i o ho
      rw [← Array.any_toList, List.any_eq_true] at hw
      obtain ⟨e, he, hb⟩ := hw
      rw [Array.mem_toList_iff] at he
      simp only [Bool.and_eq_true, beq_iff_eq] at hb
      have := h.closed j o ho hj e he hb.2
      rw [hb.1, hi] at this; cases this
    · cases hw
end
theorem listed_other {listed : Array Bool} {i j : Nat} (h : j ≠ i) : (listed.setIfInBounds i true).getD j false = listed.getD j false := by
  simp [Ne.symm h]
theorem listed_same {listed : Array Bool} {i : Nat} (h : i < listed.size) : (listed.setIfInBounds i true).getD i false = true := by
  simp [h]

theorem wpOp_val {i : Nat} {o : Oper} {a : Act} {w w' : World} {v : Value} {K : Act → World → Prop} (ho : ops[i]? = some o) (hg : Region.wanted o (yielded ops a.tmps) = true) (hrun : (execOp a.eval o).run P w = .ok (.value v) w') (hK : K (a.put o.dst v) w') : wpOp P ops Q i K a w := by
  unfold wpOp
  simp only [ho]
  rw [if_pos hg]
  left
  unfold Oper.wp
  rw [hrun]
  exact hK
theorem wpOp_unit {i : Nat} {o : Oper} {a : Act} {w w' : World} {K : Act → World → Prop} (ho : ops[i]? = some o) (hg : Region.wanted o (yielded ops a.tmps) = true) (hrun : (execOp a.eval o).run P w = .ok .skip w') (hK : K (a.put o.dst undef) w') : wpOp P ops Q i K a w := by
  unfold wpOp
  simp only [ho]
  rw [if_pos hg]
  left
  unfold Oper.wp
  rw [hrun]
  exact hK
theorem wpOp_call {i : Nat} {o : Oper} {a : Act} {w : World} {f : FuncId} {args : Array Value} {K : Act → World → Prop} (ho : ops[i]? = some o) (hw : Region.wanted o (yielded ops a.tmps) = true) (hrun : (execOp a.eval o).run P w = .ok (.enter f args) w)
    (hC : Calls P f args w fun e w' => ∃ v, e = .returned v ∧ K (a.put o.dst v) w') : wpOp P ops Q i K a w := by
  unfold wpOp
  simp only [ho]
  rw [if_pos hw]
  left
  unfold Oper.wp
  rw [hrun]
  refine hC.mono ?_
  rintro e w' ⟨v, rfl, h⟩
  exact h

section
variable {i : Nat} {o : Oper} {a : Act} {w w' : World} {v : Value} {K : Act → World → Prop}
theorem wpOp_look {T : TypeId} {m x : Operand} {c : Bool} {vm vx : Value} (ho : ops[i]? = some o) (hg : Region.wanted o (yielded ops a.tmps) = true) (hop : o.op = .lookup T m x c) (hm : a.eval m = vm) (hx : a.eval x = vx) (hrun : (Instr.lookup T vm vx c).run P w = .ok v w') (hK : K (a.put o.dst v) w') : wpOp P ops Q i K a w :=
  wpOp_val ho hg (by simp only [execOp, hop, hm, hx, hrun, Sem.run_bind, Sem.run_pure, Result.andThen_ok]) hK
theorem wpOp_load {T : TypeId} {x : Operand} {vx : Value} (ho : ops[i]? = some o) (hg : Region.wanted o (yielded ops a.tmps) = true) (hop : o.op = .load T x) (hx : a.eval x = vx) (hrun : (Instr.loadAt T vx).run P w = .ok v w') (hK : K (a.put o.dst v) w') : wpOp P ops Q i K a w :=
  wpOp_val ho hg (by simp only [execOp, hop, hx, hrun, Sem.run_bind, Sem.run_pure, Result.andThen_ok]) hK
theorem wpOp_store {T : TypeId} {x y : Operand} {vx vy : Value} (ho : ops[i]? = some o) (hg : Region.wanted o (yielded ops a.tmps) = true) (hop : o.op = .store T x y) (hx : a.eval x = vx) (hy : a.eval y = vy) (hrun : (Instr.storeAt T vx vy).run P w = .ok () w') (hK : K (a.put o.dst undef) w') : wpOp P ops Q i K a w :=
  wpOp_unit ho hg (by simp only [execOp, hop, hx, hy, hrun, Sem.run_bind, Sem.run_pure, Result.andThen_ok]) hK
theorem wpOp_alloc {T : TypeId} (ho : ops[i]? = some o) (hg : Region.wanted o (yielded ops a.tmps) = true) (hop : o.op = .alloc T) (hrun : (Instr.alloc T true (.tuple #[])).run P w = .ok v w') (hK : K (a.put o.dst v) w') : wpOp P ops Q i K a w :=
  wpOp_val ho hg (by simp only [execOp, hop, hrun, Sem.run_bind, Sem.run_pure, Result.andThen_ok]) hK
theorem wpOp_build {T : TypeId} {parts : Array (Nat × Operand)} {vs : Array (Nat × Value)} (ho : ops[i]? = some o) (hg : Region.wanted o (yielded ops a.tmps) = true) (hop : o.op = .build T parts) (hv : (parts.map fun (j, x) => (j, a.eval x)) = vs) (hrun : (Instr.build T vs).run P w = .ok v w') (hK : K (a.put o.dst v) w') : wpOp P ops Q i K a w :=
  wpOp_val ho hg (by simp only [execOp, hop, hv, hrun, Sem.run_bind, Sem.run_pure, Result.andThen_ok]) hK
theorem wpOp_buildSlice {T : TypeId} {n : Nat} {parts : Array (Nat × Operand)} {vs : Array (Nat × Value)} (ho : ops[i]? = some o) (hg : Region.wanted o (yielded ops a.tmps) = true) (hop : o.op = .buildSlice T n parts) (hv : (parts.map fun (j, x) => (j, a.eval x)) = vs) (hrun : (Instr.buildSlice T n vs).run P w = .ok v w') (hK : K (a.put o.dst v) w') : wpOp P ops Q i K a w :=
  wpOp_val ho hg (by simp only [execOp, hop, hv, hrun, Sem.run_bind, Sem.run_pure, Result.andThen_ok]) hK
theorem wpOp_update {T : TypeId} {m x y : Operand} {vm vx vy : Value} (ho : ops[i]? = some o) (hg : Region.wanted o (yielded ops a.tmps) = true) (hop : o.op = .mapUpdate T m x y) (hm : a.eval m = vm) (hx : a.eval x = vx) (hy : a.eval y = vy) (hrun : (Instr.mapUpdate T vm vx vy).run P w = .ok () w') (hK : K (a.put o.dst undef) w') : wpOp P ops Q i K a w :=
  wpOp_unit ho hg (by simp only [execOp, hop, hm, hx, hy, hrun, Sem.run_bind, Sem.run_pure, Result.andThen_ok]) hK
theorem wpOp_move {x : Operand} (ho : ops[i]? = some o) (hg : Region.wanted o (yielded ops a.tmps) = true) (hop : o.op = .move x ∨ o.op = .assign x) (hx : a.eval x = v) (hK : K (a.put o.dst v) w) : wpOp P ops Q i K a w :=
  wpOp_val (w' := w) ho hg (by rcases hop with hop | hop <;> simp only [execOp, hop, hx, Sem.run_pure]) hK
theorem wpOp_nilCheck {x : Operand} {ad : Addr} (ho : ops[i]? = some o) (hg : Region.wanted o (yielded ops a.tmps) = true) (hop : o.op = .nilCheck x) (hx : a.eval x = .pointer (some ad)) (hK : K (a.put o.dst (.pointer (some ad))) w) : wpOp P ops Q i K a w :=
  wpOp_val (v := .pointer (some ad)) (w' := w) ho hg (by simp only [execOp, hop, hx, Sem.run_pure]) hK
theorem wpOp_field {T : TypeId} {x : Operand} {f : Nat} {vx : Value} (ho : ops[i]? = some o) (hg : Region.wanted o (yielded ops a.tmps) = true) (hop : o.op = .fieldAddr T x f) (hx : a.eval x = vx) (hrun : (Instr.fieldAt T vx f).run P w = .ok v w') (hK : K (a.put o.dst v) w') : wpOp P ops Q i K a w :=
  wpOp_val ho hg (by simp only [execOp, hop, hx, hrun, Sem.run_bind, Sem.run_pure, Result.andThen_ok]) hK
theorem wpOp_index {T : TypeId} {x y : Operand} {vx vy : Value} (ho : ops[i]? = some o) (hg : Region.wanted o (yielded ops a.tmps) = true) (hop : o.op = .indexAddr T x y) (hx : a.eval x = vx) (hy : a.eval y = vy) (hrun : (Instr.indexAt T vx vy).run P w = .ok v w') (hK : K (a.put o.dst v) w') : wpOp P ops Q i K a w :=
  wpOp_val ho hg (by simp only [execOp, hop, hx, hy, hrun, Sem.run_bind, Sem.run_pure, Result.andThen_ok]) hK
theorem wpOp_slice {T : TypeId} {x : Operand} {lo hi mx : Option Operand} {vx : Value} {vlo vhi vmx : Option Value} (ho : ops[i]? = some o) (hg : Region.wanted o (yielded ops a.tmps) = true) (hop : o.op = .slice T x lo hi mx) (hx : a.eval x = vx) (h1 : lo.map a.eval = vlo) (h2 : hi.map a.eval = vhi) (h3 : mx.map a.eval = vmx)
    (hrun : (Instr.sliceAt T vx vlo vhi vmx).run P w = .ok v w') (hK : K (a.put o.dst v) w') : wpOp P ops Q i K a w :=
  wpOp_val ho hg (by simp only [execOp, hop, hx, h1, h2, h3, hrun, Sem.run_bind, Sem.run_pure, Result.andThen_ok]) hK
theorem wpOp_toArray {T : TypeId} {x : Operand} {vx : Value} (ho : ops[i]? = some o) (hg : Region.wanted o (yielded ops a.tmps) = true) (hop : o.op = .sliceToArrayPointer T x) (hx : a.eval x = vx) (hrun : (Instr.arrayAt T vx).run P w = .ok v w') (hK : K (a.put o.dst v) w') : wpOp P ops Q i K a w :=
  wpOp_val ho hg (by simp only [execOp, hop, hx, hrun, Sem.run_bind, Sem.run_pure, Result.andThen_ok]) hK
theorem wpOp_append {x y : Operand} {ts : Array TypeId} {vx vy : Value} (ho : ops[i]? = some o) (hg : Region.wanted o (yielded ops a.tmps) = true) (hop : o.op = .call { callee := .builtin .append, args := #[x, y], argTypes := ts }) (hx : a.eval x = vx) (hy : a.eval y = vy)
    (hrun : (Builtin.append_ ts o.type #[vx, vy]).run P w = .ok v w') (hK : K (a.put o.dst v) w') : wpOp P ops Q i K a w :=
  wpOp_val (v := v) (w' := w') ho hg (by simp [execOp, hop, resolve, invoke, Go.builtin, hx, hy, hrun, Result.andThen]) hK
theorem wpOp_copy {x y : Operand} {ts : Array TypeId} {vx vy : Value} (ho : ops[i]? = some o) (hg : Region.wanted o (yielded ops a.tmps) = true) (hop : o.op = .call { callee := .builtin .copy, args := #[x, y], argTypes := ts }) (hx : a.eval x = vx) (hy : a.eval y = vy)
    (hrun : (Builtin.copy_ ts o.type #[vx, vy]).run P w = .ok v w') (hK : K (a.put o.dst v) w') : wpOp P ops Q i K a w :=
  wpOp_val (v := v) (w' := w') ho hg (by simp [execOp, hop, resolve, invoke, Go.builtin, hx, hy, hrun, Result.andThen]) hK
/-- A call of a Go function by its number. -/
theorem wpOp_callFn {f : FuncId} {args : Array Operand} {ts : Array TypeId} {vs : Array Value} (ho : ops[i]? = some o) (hg : Region.wanted o (yielded ops a.tmps) = true) (hop : o.op = .call { callee := .value (.func f), args := args, argTypes := ts }) (hv : args.map a.eval = vs)
    (hen : ∀ args w, (callFunc f args).run P w = .ok (.enter f args) w) (hC : Calls P f vs w fun e w' => ∃ v, e = .returned v ∧ K (a.put o.dst v) w') : wpOp P ops Q i K a w :=
  wpOp_call ho hg (by simp [execOp, hop, resolve, invoke, Deferred.ofValue, hv, hen, Act.eval]) hC
end
end
end Go.Proofs.YtaijjlaheoamaaaDoor
/- Slices of bytes that a call has made itself: appending bytes to them, and what they hold. -/
namespace Go.Proofs.YtaijjlaheoamaaaDoor
open Go.RowKit

theorem infoU8 : (Tryd.prog.info? 5).map (fun i => (i.zero, i.size, i.bytes)) = some (some (.int .u8 0), 1, 1) := by kernel_rfl
def byteVals (l : List UInt8) : List Value := l.map fun x => .int .u8 (x.toNat : Int)
/-- The slice value v, made since the heap had base blocks (or nil), holds the bytes l. -/
def OwnB (w : World) (base : Nat) (v : Value) (l : List UInt8) : Prop := w.ownsRow base 5 1 v l.length (byteVals l)
theorem OwnB.nil (w : World) (base : Nat) : OwnB w base (.slice none 0 0) [] := ⟨rfl, .inl ⟨rfl, rfl⟩⟩
theorem OwnB.bytes {w : World} {base : Nat} {v : Value} {l : List UInt8} (h : OwnB w base v l) :
    (v = .slice none 0 0 ∧ l = []) ∨ ∃ g cap, v = .slice (some ⟨g, 0, none⟩) l.length cap ∧ base ≤ g ∧ g < w.heap.size ∧ l.length ≤ cap ∧ cap ≤ maxLen ∧ BytesAt w.heap.size w (some ⟨g, 0, none⟩) l ∧
      (∀ j, j < l.length → w.cell? ⟨g, j, none⟩ = some (.int .u8 ((l[j]?.getD 0).toNat : Int)) ∧ w.frozen? ⟨g, j, none⟩ = false) := by
  obtain ⟨hlen, ⟨rfl, h0⟩ | ⟨g, cap, cur, rfl, hg, hh, hn, hcap, hsz, htk⟩⟩ := h
  · exact .inl ⟨rfl, List.eq_nil_of_length_eq_zero h0⟩
  · have hlt : g < w.heap.size := (Array.getElem?_eq_some_iff.1 hh).1
    have hcell : ∀ j, j < l.length → w.cell? ⟨g, j, none⟩ = some (.int .u8 ((l[j]?.getD 0).toNat : Int)) := fun j hj => by
      have h1 : (cur.toList.take (l.length * 1))[j]? = some (.int .u8 ((l[j]?.getD 0).toNat : Int)) := by
        rw [htk, byteVals, List.getElem?_map, List.getElem?_eq_getElem hj]; simp
      rw [List.getElem?_take, if_pos (by omega), Array.getElem?_toList] at h1
      unfold World.cell?; simp only [hh]; exact h1
    refine .inr ⟨g, cap, rfl, hg, hlt, hn, hcap, fun _ => ⟨g, 0, rfl, hlt, fun j hj => by rw [Nat.zero_add]; exact hcell j hj⟩, fun j hj => ⟨hcell j hj, ?_⟩⟩
    unfold World.frozen?; simp only [hh]; simp

theorem OwnB.block {w : World} {base : Nat} {v : Value} {l : List UInt8} (h : OwnB w base v l) : ∀ k, v.ownBlock = some k → base ≤ k := fun k hk => by
  rcases h.bytes with ⟨rfl, _⟩ | ⟨g, cap, rfl, hg, _⟩
  · cases hk
  · cases hk; exact hg
theorem OwnB.grown {w w' : World} {base : Nat} {v : Value} {l : List UInt8} (h : OwnB w base v l) (hg : w.grownBy w' v.ownBlock) {n : Nat} {a : World} (hb : Below n a w) (hn : n ≤ base) (hn2 : n ≤ w.heap.size) : Below n a w' :=
  hb.grown hg hn2 (fun k hk => Nat.le_trans hn (h.block k hk))

theorem below_grown {w w' : World} (h : Below w.heap.size w w') : w.grownBy w' none := ⟨h.os, h.tape, h.output, h.size, fun i hi _ => h.block i hi⟩
theorem OwnB.kept {w w' : World} {base : Nat} {v : Value} {l : List UInt8} {row : Option Nat} (h : OwnB w base v l) (hg : w.grownBy w' row) (hne : ∀ g, row = some g → g < base) : OwnB w' base v l :=
  World.ownsRow.kept h hg (by
    rcases h.bytes with ⟨rfl, _⟩ | ⟨g, cap, rfl, hg1, _⟩
    · exact .inl rfl
    · refine .inr fun e => ?_
      have := hne g e.symm; omega)
theorem OwnB.far {w : World} {base : Nat} {v : Value} {l : List UInt8} (h : OwnB w base v l) {C : Nat} (hC : w.heap.size ≤ C) : some C ≠ v.ownBlock := fun e => by
  rcases h.bytes with ⟨rfl, _⟩ | ⟨g, cap, rfl, _, hg1, _⟩
  · cases e
  · have : C = g := Option.some.inj e
    omega

theorem wpList_append_bytes {w : World} {ops : Array Oper} {rest : List Oper} {o : Oper} {a : Act} {Q : Exit → Act → World → Prop} (hgd : o.guard = none) (s x : Operand)
    (ho : o.op = .call { callee := .builtin .append, args := #[s, x], argTypes := #[22, 22] }) (base n₀ : Nat) (v : Value) (l : List UInt8) (hs : a.eval s = v) (hown : OwnB w base v l)
    (ao : Option Addr) (m : List UInt8) (c : Nat) (hx : a.eval x = .slice ao m.length c) (hnone : ao = none → c = 0) (hle : m.length ≤ c) (hm : BytesAt n₀ w ao m) (hbound : l.length + m.length ≤ 1099511627776) (hbase : base ≤ w.heap.size)
    (h : ∀ v' w', OwnB w' base v' (l ++ m) → w.grownBy w' v.ownBlock → wpList Tryd.prog ops Q rest (a.put o.dst v') w') : wpList Tryd.prog ops Q (o :: rest) a w := by
  obtain ⟨i0, hi, hz0, hz1, hz2⟩ := info_parts infoU8
  cases ao with
  | none =>
    obtain rfl := hnone rfl
    obtain rfl : m = [] := List.eq_nil_of_length_eq_zero (by omega)
    refine wpList_append_own_none hgd s x 22 ho base 5 i0 1 Tryd.underlying22 hi v l.length (byteVals l) hs hown hx (h v w (by simpa using hown) ?_)
    exact ⟨rfl, rfl, rfl, Nat.le_refl _, fun _ _ _ => rfl⟩
  | some ad =>
    refine wpList_append_own w hgd s x 22 ho base 5 i0 (.int .u8 0) 1 1 Tryd.underlying22 hi hz0 hz1 hz2 rfl (by decide) v l.length (byteVals l) hs hown ad m.length c (byteVals m) hx (by simp [byteVals]) ?_ ?_ (by unfold maxLen; omega) (by omega) hbase
      (fun v' w' h1 h2 _ => h v' w' (by simpa [OwnB, byteVals] using h1) h2)
    · intro j u hu
      have hj : j < m.length := by
        have := (List.getElem?_eq_some_iff.1 hu).1; simpa [byteVals] using this
      obtain ⟨b, off, e, hb, hc⟩ := hm (by rintro rfl; simp at hj)
      cases e
      rw [addr_add, hc j hj]
      rw [byteVals, List.getElem?_map, List.getElem?_eq_getElem hj] at hu
      simp [hj] at hu ⊢
      exact hu
    · intro u hu
      simp only [byteVals, List.mem_map] at hu
      obtain ⟨y, _, rfl⟩ := hu
      simp [Value.oneCell']
end Go.Proofs.YtaijjlaheoamaaaDoor
/- Layer 3: numbers as bytes, one behind the other; runs of bytes that a call has made, and where they lie. -/
namespace Go.Proofs.YtaijjlaheoamaaaDoor
open Go.RowKit

/-- The first i of k bytes of a number, its higher bytes first. -/
def laidB (n k i : Nat) : List UInt8 := (List.range i).map fun j => UInt8.ofNat (n / 2 ^ (8 * (k - 1 - j)))
theorem laidB_zero (n k : Nat) : laidB n k 0 = [] := rfl
theorem laidB_succ (n k i : Nat) : laidB n k (i + 1) = laidB n k i ++ [UInt8.ofNat (n / 2 ^ (8 * (k - 1 - i)))] := by simp [laidB, List.range_succ]
theorem laidB_len (n k i : Nat) : (laidB n k i).length = i := by simp [laidB]

/-- What an append turns: the slice's own block, and new ones; where the new slice lies. -/
structure Goes (w w' : World) (v v' : Value) : Prop where
  grown : w.grownBy w' v.ownBlock
  near : v'.ownBlock = v.ownBlock ∨ ∃ g, v'.ownBlock = some g ∧ w.heap.size ≤ g
theorem Goes.refl (w : World) (v : Value) : Goes w w v v := ⟨⟨rfl, rfl, rfl, Nat.le_refl _, fun _ _ _ => rfl⟩, .inl rfl⟩
theorem Goes.trans {a b c : World} {v v1 v2 : Value} (h : Goes a b v v1) (k : Goes b c v1 v2) : Goes a c v v2 := by
  refine ⟨⟨k.grown.os.trans h.grown.os, k.grown.tape.trans h.grown.tape, k.grown.output.trans h.grown.output, Nat.le_trans h.grown.size k.grown.size, fun i hi hne => ?_⟩, ?_⟩
  · have h1 : some i ≠ v1.ownBlock := by
      rcases h.near with e | ⟨g, e, hg⟩
      · rw [e]; exact hne
      · rw [e]; intro e2; cases e2; omega
    exact (k.grown.block i (Nat.lt_of_lt_of_le hi h.grown.size) h1).trans (h.grown.block i hi hne)
  · rcases k.near with e | ⟨g, e, hg⟩
    · rcases h.near with e2 | ⟨g, e2, hg⟩
      · exact .inl (e.trans e2)
      · exact .inr ⟨g, e.trans e2, hg⟩
    · exact .inr ⟨g, e, Nat.le_trans h.grown.size hg⟩
theorem Goes.alloc {w w' : World} {v v' : Value} {o : Obj} (h : Goes (w.alloc o) w' v v') : Goes w w' v v' := by
  have hs : (w.alloc o).heap.size = w.heap.size + 1 := by simp
  refine ⟨⟨h.grown.os, h.grown.tape, h.grown.output, by have := h.grown.size; omega, fun i hi hne => (h.grown.block i (by omega) hne).trans (Below.heap_alloc w o i hi)⟩, ?_⟩
  rcases h.near with e | ⟨g, e, hg⟩
  · exact .inl e
  · exact .inr ⟨g, e, by omega⟩
theorem Goes.below {n₀ : Nat} {w w' : World} {v v' : Value} (h : Goes w w' v v') (hn : n₀ ≤ w.heap.size) (hv : ∀ k, v.ownBlock = some k → n₀ ≤ k) : Below n₀ w w' := (Below.refl _ _).grown h.grown hn hv

theorem OwnB.form {w : World} {base : Nat} {v : Value} {l : List UInt8} (h : OwnB w base v l) : ∃ a cap, v = .slice a l.length cap ∧ BytesAt w.heap.size w a l ∧ l.length ≤ cap ∧ cap ≤ maxLen ∧ (a = none → cap = 0) ∧ (∀ b off s, a = some ⟨b, off, s⟩ → base ≤ b) := by
  rcases h.bytes with ⟨rfl, rfl⟩ | ⟨g, cap, rfl, h1, _, h2, h3, h4, _⟩
  · exact ⟨none, 0, rfl, .nil, Nat.le_refl _, Nat.zero_le _, fun _ => rfl, fun _ _ _ e => by cases e⟩
  · exact ⟨_, cap, rfl, h4, h2, h3, (fun e => by cases e), (fun b off s e => by cases e; exact h1)⟩
theorem OwnB.alloc {w : World} {base : Nat} {v : Value} {l : List UInt8} (h : OwnB w base v l) (o : Obj) : OwnB (w.alloc o) base v l := by
  refine ⟨h.1, ?_⟩
  rcases h.2 with hn | ⟨g, cap, cur, rfl, hb, hh, r⟩
  · exact .inl hn
  · exact .inr ⟨g, cap, cur, rfl, hb, (Below.heap_alloc w o g (Array.getElem?_eq_some_iff.1 hh).1).trans hh, r⟩

/-- append of bytes to a slice that the call made: where the new one lies. -/
theorem wpList_append_goes {w : World} {ops : Array Oper} {rest : List Oper} {o : Oper} {a : Act} {Q : Exit → Act → World → Prop} (hgd : o.guard = none) (s x : Operand)
    (ho : o.op = .call { callee := .builtin .append, args := #[s, x], argTypes := #[22, 22] }) (base n₀ : Nat) (v : Value) (l : List UInt8) (hs : a.eval s = v) (hown : OwnB w base v l)
    (ao : Addr) (m : List UInt8) (c : Nat) (hx : a.eval x = .slice (some ao) m.length c) (hm : BytesAt n₀ w (some ao) m) (hbound : l.length + m.length ≤ 1099511627776) (hbase : base ≤ w.heap.size)
    (h : ∀ v' w', OwnB w' base v' (l ++ m) → Goes w w' v v' → (v' = .slice none 0 0 ↔ v = .slice none 0 0 ∧ m.length = 0) → wpList Tryd.prog ops Q rest (a.put o.dst v') w') : wpList Tryd.prog ops Q (o :: rest) a w := by
  obtain ⟨i0, hi, hz0, hz1, hz2⟩ := info_parts infoU8
  refine wpList_append_own_at w hgd s x 22 ho base 5 i0 (.int .u8 0) 1 1 Tryd.underlying22 hi hz0 hz1 hz2 rfl (by decide) v l.length (byteVals l) hs hown ao m.length c (byteVals m) hx (by simp [byteVals]) ?_ ?_ (by unfold maxLen; omega) (by omega) hbase
      (fun v' w' h1 h2 h3 h4 => h v' w' (by simpa [OwnB, byteVals] using h1) ⟨h2, h4.imp id fun e => ⟨_, e, Nat.le_refl _⟩⟩ h3)
  · intro j u hu
    have hj : j < m.length := by
      have := (List.getElem?_eq_some_iff.1 hu).1; simpa [byteVals] using this
    obtain ⟨b, off, e, hb, hc⟩ := hm (by rintro rfl; simp at hj)
    cases e
    rw [addr_add, hc j hj]
    rw [byteVals, List.getElem?_map, List.getElem?_eq_getElem hj] at hu
    simp [hj] at hu ⊢
    exact hu
  · intro u hu
    simp only [byteVals, List.mem_map] at hu
    obtain ⟨y, _, rfl⟩ := hu
    simp [Value.oneCell']
theorem one_byte (w : World) (x : UInt8) : BytesAt (w.heap.size + 1) (w.alloc (.cells #[.int .u8 (x.toNat : Int)] 5)) (some ⟨w.heap.size, 0, none⟩) [x] := fun _ =>
  ⟨_, 0, rfl, by omega, fun j hj => by
    simp at hj; subst hj
    simp⟩

theorem byte_of (n m : Nat) : (((UInt8.ofNat (n / 2 ^ m)).toNat : Nat) : Int) = (n : Int) / 2 ^ m % 256 := by
  have h : ((n / 2 ^ m : Nat) : Int) = (n : Int) / 2 ^ m := by rw [Int.natCast_ediv, Int.natCast_pow]; rfl
  rw [← h, UInt8.toNat_ofNat']
  exact Int.natCast_emod _ _
theorem wrap64_eq {z : Int} (h : -9223372036854775808 ≤ z) (h2 : z < 9223372036854775808) : wrap64 z = z := by unfold wrap64; omega

set_option maxHeartbeats 4000000 in
set_option maxRecDepth 100000 in
theorem lay64_any (n k : Nat) (hk : k ≤ 8) (w : World) (base : Nat) (v : Value) (l : List UInt8) (hO : OwnB w base v l) (hb : base ≤ w.heap.size) (hl : l.length ≤ 1000000) :
    Calls Tryd.prog 64 #[v, .int .u64 n, .int .i64 k] w fun e w' => ∃ v', e = .returned v' ∧ OwnB w' base v' (l ++ laidB n k k) ∧ Goes w w' v v' := by
  go_enter Tryd.func64, Tryd.ntmps64
  go_wp2
  go_loopw [0, 7, 9, 10, 11, 12, 13, 14, 15, 16, 17, 18, 19, 20, 21, 22, 23] (fun u _ i _ _ _ _ _ _ _ _ _ _ _ _ _ _ wr => ∃ j : Nat, j ≤ k ∧ i = .int .i64 j ∧ OwnB wr base u (l ++ laidB n k j) ∧ Goes w wr v u) (fun _ _ i _ _ _ _ _ _ _ _ _ _ _ _ _ _ _ => k - (intOf i).toNat)
  case atStart => exact ⟨0, Nat.zero_le _, rfl, by simpa [laidB_zero] using hO, Goes.refl _ _⟩
  case round =>
    obtain ⟨j, hj, rfl, hOr, hG⟩ := hrel
    by_cases hlt : j < k
    · have hjk : (j : Int) < k := by omega
      have hx : (((UInt8.ofNat (n / 2 ^ (8 * (k - 1 - j)))).toNat : Nat) : Int) = (n : Int) / 2 ^ (8 * (k - 1 - j)) % 256 := byte_of _ _
      have h1 := one_byte wr (UInt8.ofNat (n / 2 ^ (8 * (k - 1 - j))))
      rw [hx] at h1
      have hsz := hG.grown.size
      have hq : (l ++ laidB n k j).length + 1 ≤ 1099511627776 := by simp [laidB_len]; omega
      have e1 : wrap64 ((j : Int) + 1) = ((j + 1 : Nat) : Int) := by unfold wrap64; omega
      have E1 := Lib.hid e1
      have OA := hOr.alloc (.cells #[.int .u8 ((n : Int) / 2 ^ (8 * (k - 1 - j)) % 256)] 5)
      clear e1 hx
      go_wp2_with (at_builtin; refine wpList_append_goes rfl _ _ rfl base (wr.heap.size + 1) _ _ rfl OA ⟨wr.heap.size, 0, none⟩ [UInt8.ofNat (n / 2 ^ (8 * (k - 1 - j)))] 1 rfl h1 hq (by simp; omega) ?_; intro v' w' O' G' _)
      have e1 := E1.out
      generalize wrap64 ((j : Int) + 1) = q at e1 ⊢
      subst e1
      go_roundw
      case rel => exact ⟨j + 1, hlt, rfl, by rw [laidB_succ, ← List.append_assoc]; exact O', hG.trans G'.alloc⟩
      case measure => exact Nat.sub_lt_sub_left hlt (Nat.lt_succ_self j)
    · obtain rfl : j = k := by omega
      have hjk : ¬ ((j : Int) < j) := by omega
      go_wp2
      go_ret
      exact ⟨_, rfl, hOr, hG⟩
end Go.Proofs.YtaijjlaheoamaaaDoor
/- Layer 3: a writer in memory, and the contracts of its calls. -/
namespace Go.Proofs.YtaijjlaheoamaaaDoor
open Go.RowKit

/-- Two blocks are turned at most: one that is named, and a slice's own; where the slice lies then. -/
structure Goes2 (w w' : World) (B : Nat) (v v' : Value) : Prop where
  os : w'.os = w.os
  tape : w'.tape = w.tape
  output : w'.output = w.output
  size : w.heap.size ≤ w'.heap.size
  block : ∀ k, k < w.heap.size → k ≠ B → some k ≠ v.ownBlock → w'.heap[k]? = w.heap[k]?
  near : v'.ownBlock = v.ownBlock ∨ ∃ g, v'.ownBlock = some g ∧ w.heap.size ≤ g
theorem Goes2.refl (w : World) (B : Nat) (v : Value) : Goes2 w w B v v := ⟨rfl, rfl, rfl, Nat.le_refl _, fun _ _ _ _ => rfl, .inl rfl⟩
theorem Goes2.of_below {w w' : World} (B : Nat) (v : Value) (h : Below w.heap.size w w') : Goes2 w w' B v v := ⟨h.os, h.tape, h.output, h.size, fun k hk _ _ => h.block k hk, .inl rfl⟩
theorem Goes2.trans {a b c : World} {B : Nat} {v v1 v2 : Value} (h : Goes2 a b B v v1) (k : Goes2 b c B v1 v2) : Goes2 a c B v v2 := by
  refine ⟨k.os.trans h.os, k.tape.trans h.tape, k.output.trans h.output, Nat.le_trans h.size k.size, fun i hi hB hne => ?_, ?_⟩
  · have h1 : some i ≠ v1.ownBlock := by
      rcases h.near with e | ⟨g, e, hg⟩
      · rw [e]; exact hne
      · rw [e]; intro e2; cases e2; omega
    exact (k.block i (Nat.lt_of_lt_of_le hi h.size) hB h1).trans (h.block i hi hB hne)
  · rcases k.near with e | ⟨g, e, hg⟩
    · rcases h.near with e2 | ⟨g, e2, hg⟩
      · exact .inl (e.trans e2)
      · exact .inr ⟨g, e.trans e2, hg⟩
    · exact .inr ⟨g, e, Nat.le_trans h.size hg⟩
theorem Goes2.below {n₀ : Nat} {w w' : World} {B : Nat} {v v' : Value} (h : Goes2 w w' B v v') (hn : n₀ ≤ w.heap.size) (hB : n₀ ≤ B) (hv : ∀ k, v.ownBlock = some k → n₀ ≤ k) : Below n₀ w w' :=
  ⟨h.os, h.tape, h.output, h.size, fun k hk => h.block k (by omega) (by omega) (fun e => by have := hv k e.symm; omega)⟩

/-- Block B is a writer that has these bytes, all of it from block n₀ on. -/
structure IsWr (n₀ : Nat) (w : World) (B : Nat) (v : Value) (l : List UInt8) : Prop where
  cells : w.heap[B]? = some (.cells #[.bool true, v] 122 (0, 0))
  own : OwnB w n₀ v l
  lo : n₀ ≤ B
  len : l.length ≤ 65536

section
variable {n₀ : Nat} {w : World} {B : Nat} {v : Value} {l : List UInt8}
theorem IsWr.lt (h : IsWr n₀ w B v l) : B < w.heap.size := (Array.getElem?_eq_some_iff.1 h.cells).1
theorem IsWr.n_le (h : IsWr n₀ w B v l) : n₀ ≤ w.heap.size := Nat.le_trans h.lo (Nat.le_of_lt h.lt)
theorem IsWr.cell0 (h : IsWr n₀ w B v l) : w.cell? ⟨B, 0, none⟩ = some (.bool true) := cell_of_row w B 0 _ _ _ h.cells
theorem IsWr.cell1 (h : IsWr n₀ w B v l) : w.cell? ⟨B, 1, none⟩ = some v := cell_of_row w B 1 _ _ _ h.cells
theorem IsWr.frozen (h : IsWr n₀ w B v l) (i : Nat) : w.frozen? ⟨B, i, none⟩ = false := frozen_of_row w B i _ _ h.cells
theorem own_block {v : Value} {l : List UInt8} (h : OwnB w n₀ v l) (g : Nat) (hg : v.ownBlock = some g) : ∃ cs, w.heap[g]? = some (.cells cs 5 (0, 0)) := by
  rcases h.2 with ⟨rfl, _⟩ | ⟨g', cap, cur, rfl, _, hh, _⟩
  · cases hg
  · cases hg; exact ⟨cur, hh⟩
theorem IsWr.ne (h : IsWr n₀ w B v l) : some B ≠ v.ownBlock := fun e => by
  obtain ⟨cs, hb⟩ := own_block h.own B e.symm
  rw [h.cells] at hb; cases hb
theorem IsWr.kept {w' : World} {row : Option Nat} (h : IsWr n₀ w B v l) (hg : w.grownBy w' row) (h1 : some B ≠ row) (h2 : v.ownBlock = none ∨ v.ownBlock ≠ row) : IsWr n₀ w' B v l :=
  ⟨(hg.block B h.lt h1).trans h.cells, World.ownsRow.kept h.own hg h2, h.lo, h.len⟩
theorem IsWr.below {w' : World} (h : IsWr n₀ w B v l) (hb : Below w.heap.size w w') : IsWr n₀ w' B v l :=
  h.kept (below_grown hb) (by simp) (by cases v.ownBlock <;> simp)
theorem IsWr.mono {n₁ : Nat} (h : IsWr n₀ w B v l) (hn : n₁ ≤ n₀) : IsWr n₁ w B v l := by
  refine ⟨h.cells, ⟨h.own.1, ?_⟩, Nat.le_trans hn h.lo, h.len⟩
  rcases h.own.2 with e | ⟨g, cap, cur, e, hb, r⟩
  · exact .inl e
  · exact .inr ⟨g, cap, cur, e, Nat.le_trans hn hb, r⟩
/-- What a call of the writer leaves: its result; the writer. -/
def WrPost (n₀ : Nat) (w : World) (B : Nat) (v : Value) (r : Nat × List UInt8) (e : Ending) (w' : World) : Prop :=
  e = .returned (.int .i64 r.1) ∧ ∃ v', IsWr n₀ w' B v' r.2 ∧ Goes2 w w' B v v'
theorem wr_same {r : Nat} (h : IsWr n₀ w B v l) : WrPost n₀ w B v (r, l) (.returned (.int .i64 r)) w := ⟨rfl, v, h, Goes2.refl _ _ _⟩
theorem wr_cells {w1 : World} {v1 : Value} (h : IsWr n₀ w B v l) (hG : Goes w w1 v v1) : w1.cell? ⟨B, 1, none⟩ = some v ∧ w1.frozen? ⟨B, 1, none⟩ = false := by
  have hc : w1.heap[B]? = some (.cells #[.bool true, v] 122 (0, 0)) := (hG.grown.block B h.lt h.ne).trans h.cells
  exact ⟨cell_of_row w1 B 1 _ _ _ hc, frozen_of_row w1 B 1 _ _ hc⟩
/-- The new slice is stored into the writer. -/
theorem wr_store {w1 : World} {v1 : Value} {l1 : List UInt8} (h : IsWr n₀ w B v l) (hO : OwnB w1 n₀ v1 l1) (hG : Goes w w1 v v1) (hl : l1.length ≤ 65536) : WrPost n₀ w B v (0, l1) (.returned (.int .i64 0)) (w1.setCell ⟨B, 1, none⟩ v1) := by
  have hc : w1.heap[B]? = some (.cells #[.bool true, v] 122 (0, 0)) := (hG.grown.block B h.lt h.ne).trans h.cells
  have hg : w1.grownBy (w1.setCell ⟨B, 1, none⟩ v1) (some B) := ⟨rfl, rfl, rfl, by simp [World.setCell], fun i _ hne => Below.heap_setCell w1 ⟨B, 1, none⟩ v1 i (fun e => hne (by rw [e]))⟩
  refine ⟨rfl, v1, ⟨?_, World.ownsRow.kept hO hg (.inr fun e => ?_), h.lo, hl⟩, ⟨hG.grown.os, hG.grown.tape, hG.grown.output, Nat.le_trans hG.grown.size hg.size, fun k hk hB hv => ?_, hG.near⟩⟩
  · rw [heap_setCell_same w1 B 1 _ _ v1 hc]; rfl
  · obtain ⟨cs, hb⟩ := own_block hO B e
    rw [hc] at hb; cases hb
  · exact (hg.block k (Nat.lt_of_lt_of_le hk hG.grown.size) (fun e => hB (Option.some.inj e))).trans (hG.grown.block k hk hv)
end
abbrev wptr (B : Nat) : Value := .pointer (some ⟨B, 0, none⟩)

theorem newWriter_any (w : World) : Calls Tryd.prog 45 #[] w fun e w' => e = .returned (wptr w.heap.size) ∧ IsWr w.heap.size w' w.heap.size (.slice none 0 0) [] ∧ Below w.heap.size w w' := by
  go_enter Tryd.func45, Tryd.ntmps45
  go_wp2
  go_ret
  exact ⟨rfl, ⟨heap_alloc_new w _, OwnB.nil _ _, Nat.le_refl _, by simp⟩, (Below.refl _ _).alloc (Nat.le_refl _) _⟩
section
variable {n₀ : Nat} {w : World} {B : Nat} {v : Value} {l : List UInt8}
theorem wthere_any (h : IsWr n₀ w B v l) : Calls Tryd.prog 62 #[wptr B] w fun e w' => e = .returned (.bool true) ∧ w = w' := by
  have hc := h.cell0
  go_enter Tryd.func62, Tryd.ntmps62
  go_wp2
  go_ret
  exact ⟨rfl, rfl⟩
theorem wtakes_any (h : IsWr n₀ w B v l) (n : Nat) : Calls Tryd.prog 63 #[wptr B, .int .i64 n] w fun e w' => e = .returned (.bool (decide (l.length + n ≤ 65536))) ∧ w = w' := by
  have hc := h.cell1
  obtain ⟨ao, cap, rfl, -, -, -, -, -⟩ := h.own.form
  have hl := h.len
  have hd : decide (l.length + n ≤ 65536) = decide ((n : Int) ≤ 65536 - (l.length : Int)) := by
    apply decide_eq_decide.2; omega
  rw [hd]
  clear hd h
  go_enter Tryd.func63, Tryd.ntmps63
  go_wp2
  go_ret
  exact ⟨rfl, rfl⟩
theorem sized_any (k : Int) : Calls Tryd.prog 54 #[.int .i64 k] w fun e w' => e = .returned (.bool (decide (1 ≤ k ∧ k ≤ 8))) ∧ w = w' := by
  by_cases h1 : 1 ≤ k
  · rw [show decide (1 ≤ k ∧ k ≤ 8) = decide (k ≤ 8) by simp [h1]]
    go_enter Tryd.func54, Tryd.ntmps54
    go_wp2
    go_ret
    exact ⟨rfl, rfl⟩
  · rw [show decide (1 ≤ k ∧ k ≤ 8) = false by simp [h1]]
    go_enter Tryd.func54, Tryd.ntmps54
    go_wp2
    go_ret
    exact ⟨rfl, rfl⟩
end

set_option maxRecDepth 100000 in
/-- slices.Clone of bytes: bytes that lie anywhere; the clone is the call's own. -/
theorem clone_wire (w : World) (ao : Option Addr) (l : List UInt8) (cap n₁ : Nat) (hm : BytesAt n₁ w ao l) (hnone : ao = none → cap = 0) (hle : l.length ≤ cap) (hl : l.length ≤ 1000000) :
    Calls Tryd.prog 51 #[.slice ao l.length cap] w fun e w' => ∃ v', e = .returned v' ∧ OwnB w' w.heap.size v' l ∧ Below w.heap.size w w' := by
  cases ao with
  | none =>
    obtain rfl := hnone rfl
    obtain rfl : l = [] := List.eq_nil_of_length_eq_zero (by omega)
    have he : ∀ w : World, (binOp .eql 22 (.slice none 0 0) (.slice none 0 0)).run Tryd.prog w = .ok (.bool true) w := fun _ => rfl
    go_enter Tryd.func51, Tryd.ntmps51
    go_wp2
    go_ret
    exact ⟨_, rfl, OwnB.nil _ _, Below.refl _ _⟩
  | some ad =>
    have O0 : OwnB (w.alloc (.cells #[] 5)) w.heap.size (.slice (some ⟨w.heap.size, 0, none⟩) 0 0) [] := World.ownsRow_made w #[] 0 (Nat.le_refl _) (by simp) rfl
    have he : ∀ w : World, (binOp .eql 22 (.slice (some ad) l.length cap) (.slice none 0 0)).run Tryd.prog w = .ok (.bool false) w := fun _ => rfl
    have hq : ([] : List UInt8).length + l.length ≤ 1099511627776 := by simp; omega
    have hm2 : BytesAt (max n₁ w.heap.size) (w.alloc (.cells #[] 5)) (some ad) l := fun hne => by
      obtain ⟨b, off, e, hb, hc⟩ := hm hne
      refine ⟨b, off, e, by omega, fun j hj => ?_⟩
      have := hc j hj
      exact ((below_grown ((Below.refl w.heap.size w).alloc (Nat.le_refl _) (.cells #[] 5))).cell this (by simp))
    go_enter Tryd.func51, Tryd.ntmps51
    go_wp2_with (at_builtin; refine wpList_append_goes rfl _ _ rfl w.heap.size _ _ [] rfl O0 ad l cap rfl hm2 hq (by simp) ?_; intro v' w' O' G' _)
    go_ret
    refine ⟨_, rfl, by simpa using O', ?_⟩
    exact G'.alloc.below (Nat.le_refl _) (fun k e => by cases e; exact Nat.le_refl _)
theorem wbytes_any {n₀ : Nat} {w : World} {B : Nat} {v : Value} {l : List UInt8} (h : IsWr n₀ w B v l) : Calls Tryd.prog 47 #[wptr B] w fun e w' => ∃ v', e = .returned v' ∧ OwnB w' w.heap.size v' l ∧ Below w.heap.size w w' := by
  have hc := h.cell1
  have ht := wthere_any h
  have hl := h.len
  obtain ⟨ao, cap, rfl, hm, h1, h2, h3, -⟩ := h.own.form
  have hcl := clone_wire w ao l cap _ hm h3 h1 (by omega)
  have T := Lib.hid ht
  have C := Lib.hid hcl
  clear ht h hcl hm h3
  go_enter Tryd.func47, Tryd.ntmps47
  go_wp2_with (first
    | (go_at_call 62; refine T.out.mono ?_; rintro e w' ⟨rfl, rfl⟩)
    | (go_at_call 51; refine C.out.mono ?_; rintro e w' ⟨v', rfl, hO, hB⟩))
  go_ret
  exact ⟨_, rfl, hO, hB⟩
end Go.Proofs.YtaijjlaheoamaaaDoor
/- Layer 3: what a writer writes: numbers, truths, texts. -/
namespace Go.Proofs.YtaijjlaheoamaaaDoor
open Go.RowKit

/-- What Number answers, and the bytes behind it. -/
def wNum (l : List UInt8) (n : Nat) (k : Int) : Nat × List UInt8 :=
  if k < 1 ∨ 8 < k ∨ 2 ^ (8 * k.toNat) ≤ n then (2, l) else if 65536 < l.length + k.toNat then (3, l) else (0, l ++ laidB n k.toNat k.toNat)
def wTruth (l : List UInt8) (b : Bool) : Nat × List UInt8 := if 65536 < l.length + 1 then (3, l) else (0, l ++ [if b then 1 else 0])
def wText (l s : List UInt8) : Nat × List UInt8 := if 65536 < l.length + 2 + s.length then (3, l) else (0, l ++ (laidB s.length 2 2 ++ s))

section
variable {n₀ : Nat} {w : World} {B : Nat} {v : Value} {l : List UInt8}
/-- What holds where Number jumps to its last lines. -/
def NumJump (w : World) (B : Nat) (n : Nat) (k : Int) (a' : Act) (w' : World) : Prop :=
  w' = w ∧ ∃ u7 u8 u9 u10 u11 u12 u13 u14 u15 u16 u17 u18 u19 u20 u21 u22 u23 u24 u25 u26 u27 u28 u29 u30 u31 u32 u33 : Value, a' = { tmps := #[wptr B, .int .u64 n, .int .i64 k, undef, undef, undef, .int .i64 0, u7, u8, u9, u10, u11, u12, u13, u14, u15, u16, u17, u18, u19, u20, u21, u22, u23, u24, u25, u26, u27, u28, u29, u30, u31, u32, u33], defers := [] }
set_option maxHeartbeats 1000000 in
set_option maxRecDepth 100000 in
theorem wnum_any (h : IsWr n₀ w B v l) (n : Nat) (k : Int) : Calls Tryd.prog 46 #[wptr B, .int .u64 n, .int .i64 k] w fun e w' => WrPost n₀ w B v (wNum l n k) e w' := by
  have T := Lib.hid (wthere_any h)
  have S := Lib.hid (fun w => sized_any (w := w) k)
  by_cases hk : 1 ≤ k ∧ k ≤ 8
  · obtain ⟨m, rfl⟩ : ∃ m : Nat, k = m := ⟨k.toNat, by omega⟩
    by_cases hlt : n < 2 ^ (8 * m)
    · have K := Lib.hid (wtakes_any h m)
      have e1 : wNum l n m = if 65536 < l.length + m then (3, l) else (0, l ++ laidB n m m) := by
        unfold wNum; rw [if_neg (by simp only [Int.toNat_natCast]; omega)]; simp only [Int.toNat_natCast]
      have hd : decide (1 ≤ (m : Int) ∧ (m : Int) ≤ 8) = true := by simp; omega
      have hz : (n : Int) / 2 ^ (8 * m) = 0 := by
        have h3 : n / 2 ^ (8 * m) = 0 := Nat.div_eq_of_lt hlt
        have h4 : ((n / 2 ^ (8 * m) : Nat) : Int) = (n : Int) / 2 ^ (8 * m) := by rw [Int.natCast_ediv, Int.natCast_pow]; rfl
        rw [← h4, h3]; rfl
      rw [hd] at S
      have hc := h.cell1
      rw [e1]
      by_cases hfit : 65536 < l.length + m
      · rw [if_pos hfit]
        have hd2 : decide (l.length + m ≤ 65536) = false := by simp; omega
        rw [hd2] at K
        have P := Lib.hid (wr_same (r := 3) h)
        have HZ := Lib.hid hz
        clear h e1 hd hfit hd2 hlt
        go_enter Tryd.func46, Tryd.ntmps46
        go_wp2
        go_step3
        go_wp2_with (first
          | (go_at_call 62; refine T.out.mono ?_; rintro e w' ⟨rfl, rfl⟩)
          | (go_at_call 54; refine (S.out _).mono ?_; rintro e w' ⟨rfl, rfl⟩)
          | (go_at_call 63; refine K.out.mono ?_; rintro e w' ⟨rfl, rfl⟩))
        rw [Exit.noGoto_ret]
        go_ret
        exact P.out
      · rw [if_neg hfit]
        have hd2 : decide (l.length + m ≤ 65536) = true := by simp; omega
        rw [hd2] at K
        have hlen := h.len
        have L := Lib.hid (lay64_any n m (by omega) w n₀ v l h.own h.n_le (by omega))
        have ST := Lib.hid (fun w1 v1 l1 => wr_store (w1 := w1) (v1 := v1) (l1 := l1) h)
        have CC := Lib.hid (fun (w1 : World) (v1 : Value) (hG : Goes w w1 v v1) => wr_cells h hG)
        have HZ := Lib.hid hz
        have hl2 : (l ++ laidB n m m).length ≤ 65536 := by rw [List.length_append, laidB_len]; omega
        have HL2 := Lib.hid hl2
        clear h e1 hd hfit hd2 hlt hl2 hlen
        go_enter Tryd.func46, Tryd.ntmps46
        go_wp2
        go_step3
        go_wp2_with (first
          | (go_at_call 62; refine T.out.mono ?_; rintro e w' ⟨rfl, rfl⟩)
          | (go_at_call 54; refine (S.out _).mono ?_; rintro e w' ⟨rfl, rfl⟩)
          | (go_at_call 63; refine K.out.mono ?_; rintro e w' ⟨rfl, rfl⟩)
          | (go_at_call 64; refine L.out.mono ?_; rintro e w1 ⟨v1, rfl, hO, hG⟩; obtain ⟨c1, c2⟩ := CC.out _ _ hG; obtain ⟨ao1, cap1, rfl, -, -, -, -, -⟩ := hO.form))
        rw [Exit.noGoto_ret]
        go_ret
        simp only [List.length_append] at hO hG
        exact ST.out _ _ _ hO hG HL2.out
    · have e1 : wNum l n m = (2, l) := by unfold wNum; rw [if_pos]; simp only [Int.toNat_natCast]; omega
      have hd : decide (1 ≤ (m : Int) ∧ (m : Int) ≤ 8) = true := by simp; omega
      have hz : 0 < (n : Int) / 2 ^ (8 * m) := by
        have h3 : 0 < n / 2 ^ (8 * m) := Nat.div_pos (by omega) (Nat.two_pow_pos _)
        have h4 : ((n / 2 ^ (8 * m) : Nat) : Int) = (n : Int) / 2 ^ (8 * m) := by rw [Int.natCast_ediv, Int.natCast_pow]; rfl
        rw [← h4]; omega
      rw [hd] at S
      rw [e1]
      have P := Lib.hid (wr_same (r := 2) h)
      clear h e1 hd hlt
      go_enter Tryd.func46, Tryd.ntmps46
      go_wp2
      refine wp_scope_jumps 0 (NumJump w B n m) (fun _ _ => 0) rfl ?first ?pass
      case first =>
        go_wp2_with (first
          | (go_at_call 62; refine T.out.mono ?_; rintro e w' ⟨rfl, rfl⟩)
          | (go_at_call 54; refine (S.out _).mono ?_; rintro e w' ⟨rfl, rfl⟩))
        go_step3
        exact ⟨rfl, rfl, _, _, _, _, _, _, _, _, _, _, _, _, _, _, _, _, _, _, _, _, _, _, _, _, _, _, _, rfl⟩
      case pass =>
        rintro a' w' ⟨rfl, u7, u8, u9, u10, u11, u12, u13, u14, u15, u16, u17, u18, u19, u20, u21, u22, u23, u24, u25, u26, u27, u28, u29, u30, u31, u32, u33, rfl⟩
        go_wp2
        simp only [Exit.jump]
        go_ret
        exact P.out
  · have e1 : wNum l n k = (2, l) := by unfold wNum; rw [if_pos]; omega
    rw [e1]
    have hd : decide (1 ≤ k ∧ k ≤ 8) = false := by simp; omega
    rw [hd] at S
    have P := Lib.hid (wr_same (r := 2) h)
    clear h e1 hd
    go_enter Tryd.func46, Tryd.ntmps46
    go_wp2
    refine wp_scope_jumps 0 (NumJump w B n k) (fun _ _ => 0) rfl ?first ?pass
    case first =>
      go_wp2_with (first
        | (go_at_call 62; refine T.out.mono ?_; rintro e w' ⟨rfl, rfl⟩)
        | (go_at_call 54; refine (S.out _).mono ?_; rintro e w' ⟨rfl, rfl⟩))
      go_step3
      exact ⟨rfl, rfl, _, _, _, _, _, _, _, _, _, _, _, _, _, _, _, _, _, _, _, _, _, _, _, _, _, _, _, rfl⟩
    case pass =>
      rintro a' w' ⟨rfl, u7, u8, u9, u10, u11, u12, u13, u14, u15, u16, u17, u18, u19, u20, u21, u22, u23, u24, u25, u26, u27, u28, u29, u30, u31, u32, u33, rfl⟩
      go_wp2
      simp only [Exit.jump]
      go_ret
      exact P.out
end
end Go.Proofs.YtaijjlaheoamaaaDoor
/- Layer 3: append of a text's bytes, and Text of a writer. -/
namespace Go.Proofs.YtaijjlaheoamaaaDoor
open Go.RowKit

theorem data_len (s : ByteArray) : s.data.toList.length = s.size := by rw [Array.length_toList]; rfl
theorem run_append_str_goes (w : World) (ty : TypeId) (base : Nat) (v : Value) (l : List UInt8) (hown : OwnB w base v l) (s : ByteArray) (hbound : l.length + s.size ≤ 1099511627776) (hbase : base ≤ w.heap.size) :
    ∃ v' w', (Builtin.append_ #[22, 9] ty #[v, .string s]).run Tryd.prog w = .ok v' w' ∧ OwnB w' base v' (l ++ s.data.toList) ∧ Goes w w' v v' := by
  obtain ⟨i0, hi, hz0, hz1, hz2⟩ := info_parts infoU8
  have e1 : (l ++ s.data.toList).length = l.length + s.size := by rw [List.length_append, Array.length_toList]; rfl
  have e2 : byteVals (l ++ s.data.toList) = byteVals l ++ Lib.strCells s := by unfold byteVals Lib.strCells; rw [List.map_append]
  have e2' : byteVals ([] ++ s.data.toList) = [] ++ Lib.strCells s := by unfold byteVals Lib.strCells; simp
  obtain ⟨v', w', hr, h2, h3, h4⟩ := Lib.run_append_own_string (P := Tryd.prog) w base 22 9 ty 5 i0 Tryd.underlying22 Tryd.underlying9 hi hz0 hz1 hz2 v l.length (byteVals l) hown s (by unfold maxLen; omega) (by omega) hbase
  refine ⟨v', w', hr, by unfold OwnB; rw [e1, e2]; exact h2, h3, ?_⟩
  rcases hown.2 with ⟨rfl, hl0⟩ | ⟨g, cap, cur, rfl, hbg, hg, hnc, hcm, hcs, htake⟩
  · have hl : l = [] := List.eq_nil_of_length_eq_zero hl0
    subst hl
    obtain ⟨v2, w2, hr2, k2, -, -⟩ := Lib.run_append_own_string (P := Tryd.prog) w w.heap.size 22 9 ty 5 i0 Tryd.underlying22 Tryd.underlying9 hi hz0 hz1 hz2 (.slice none 0 0) 0 [] (World.ownsRow_nil w _ _ _) s (by unfold maxLen; simp at hbound; omega) (by simp at hbound; omega) (Nat.le_refl _)
    have hh := hr.symm.trans hr2
    injection hh with h5 h6
    subst h5
    rcases k2.2 with ⟨rfl, _⟩ | ⟨g, cap, cur, rfl, hb, _⟩
    · exact .inl rfl
    · exact .inr ⟨g, rfl, hb⟩
  · have hcs' : cur.size = cap := by simpa using hcs
    by_cases hroom : l.length + s.size ≤ cap
    · have hr2 := Lib.run_append_room_string (P := Tryd.prog) w 22 9 ty 5 i0 Tryd.underlying22 Tryd.underlying9 hi hz1 g l.length cap cur hg s hroom (by omega)
      have hh := hr.symm.trans hr2
      injection hh with h5 h6
      subst h5
      exact .inl rfl
    · have holds : ∀ j u, (byteVals l)[j]? = some u → w.cell? ((⟨g, 0, none⟩ : Addr).add j) = some u := World.ownsRow.cells hown (g := g) rfl
      have hr2 := Lib.run_append_grow_string (P := Tryd.prog) w 22 9 ty 5 i0 (.int .u8 0) Tryd.underlying22 Tryd.underlying9 hi hz0 ⟨g, 0, none⟩ l.length cap (byteVals l) (by rw [hz1]; simp [byteVals]) holds s (by omega) (by omega) (by rw [hz2]; exact growslice_fits (by omega) (by omega))
      have hh := hr.symm.trans hr2
      injection hh with h5 h6
      subst h5
      exact .inr ⟨_, rfl, Nat.le_refl _⟩
theorem wpList_append_str {w : World} {ops : Array Oper} {rest : List Oper} {o : Oper} {a : Act} {Q : Exit → Act → World → Prop} (hgd : o.guard = none) (s x : Operand)
    (ho : o.op = .call { callee := .builtin .append, args := #[s, x], argTypes := #[22, 9] }) (base : Nat) (v : Value) (l : List UInt8) (hs : a.eval s = v) (hown : OwnB w base v l)
    (t : ByteArray) (hx : a.eval x = .string t) (hbound : l.length + t.size ≤ 1099511627776) (hbase : base ≤ w.heap.size)
    (h : ∀ v' w', OwnB w' base v' (l ++ t.data.toList) → Goes w w' v v' → wpList Tryd.prog ops Q rest (a.put o.dst v') w') : wpList Tryd.prog ops Q (o :: rest) a w := by
  refine wpList_plain hgd fun K hK => ?_
  obtain ⟨v', w', hr, h2, h3⟩ := run_append_str_goes w o.type base v l hown t hbound hbase
  unfold Oper.wp execOp
  simp only [ho, resolve, invoke, builtin, Sem.run_bind, Sem.run_pure, Result.andThen_ok, List.map_toArray, List.map_cons, List.map_nil, hs, hx, hr]
  exact hK _ _ (h v' w' h2 h3)

/-- What Text answers, and the bytes behind it. -/
def wTextS (l : List UInt8) (s : ByteArray) : Nat × List UInt8 := if 65536 < l.length + 2 + s.size then (3, l) else (0, l ++ (laidB s.size 2 2 ++ s.data.toList))
section
variable {n₀ : Nat} {w : World} {B : Nat} {v : Value} {l : List UInt8}
end
end Go.Proofs.YtaijjlaheoamaaaDoor
