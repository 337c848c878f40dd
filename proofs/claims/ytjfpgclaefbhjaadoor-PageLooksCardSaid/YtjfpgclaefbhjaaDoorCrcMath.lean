/- Plain numbers for layer 1: the word of a byte by the table, the sum of bytes, byte by byte, as functions on natural numbers. Nothing of the program. -/
import Derived.Laws.BitsAll
import Derived.KernelRfl
namespace Go.Proofs.YtjfpgclaefbhjaaDoor

def crcTab : List Int := [0, 498536548, 997073096, 651767980, 1994146192, 1802195444, 1303535960, 1342533948, 3988292384, 4027552580, 3604390888, 3412177804, 2607071920, 2262029012, 2685067896, 3183342108]
def crcT (i : Nat) : Nat := ([0, 498536548, 997073096, 651767980, 1994146192, 1802195444, 1303535960, 1342533948, 3988292384, 4027552580, 3604390888, 3412177804, 2607071920, 2262029012, 2685067896, 3183342108] : List Nat).getD i 0
/-- Four halvings at once. -/
def crcHalf (x : Nat) : Nat := crcT (x % 16) ^^^ (x / 16)
def crcWord (b : Nat) : Nat := crcHalf (crcHalf b)
def crcStep (s b : Nat) : Nat := crcWord ((s % 256) ^^^ b) ^^^ (s / 256)
def crcRun (s : Nat) (l : List UInt8) : Nat := l.foldl (fun s b => crcStep s b.toNat) s
def crcSum (l : List UInt8) : Nat := 4294967295 - crcRun 4294967295 l

theorem crcT_lt (i : Nat) : crcT i < 4294967296 := by
  by_cases h : i < 16
  · have : ∀ j : Fin 16, crcT j.1 < 4294967296 := by decide +kernel
    exact this ⟨i, h⟩
  · unfold crcT
    rw [List.getD_eq_getElem?_getD, List.getElem?_eq_none (by simp; omega)]
    decide
theorem crcT_tab (i : Nat) : crcTab.getD i 0 = (crcT i : Int) := by
  by_cases h : i < 16
  · have : ∀ j : Fin 16, crcTab.getD j.1 0 = (crcT j.1 : Int) := by decide +kernel
    exact this ⟨i, h⟩
  · unfold crcT crcTab
    rw [List.getD_eq_getElem?_getD, List.getElem?_eq_none (by simp; omega), List.getD_eq_getElem?_getD, List.getElem?_eq_none (by simp; omega)]
    rfl
theorem xor_lt32 {a b : Nat} (ha : a < 4294967296) (hb : b < 4294967296) : a ^^^ b < 4294967296 := Nat.xor_lt_two_pow (n := 32) ha hb
theorem crcHalf_lt {x : Nat} (h : x < 4294967296) : crcHalf x < 4294967296 := xor_lt32 (crcT_lt _) (by omega)
theorem crcWord_lt {x : Nat} (h : x < 256) : crcWord x < 4294967296 := crcHalf_lt (crcHalf_lt (by omega))
theorem xor_lt8 {a b : Nat} (ha : a < 256) (hb : b < 256) : a ^^^ b < 256 := Nat.xor_lt_two_pow (n := 8) ha hb
theorem crcStep_lt {s b : Nat} (h : s < 4294967296) (hb : b < 256) : crcStep s b < 4294967296 := xor_lt32 (crcWord_lt (xor_lt8 (by omega) hb)) (by omega)
theorem crcRun_lt {s : Nat} (h : s < 4294967296) : ∀ (l : List UInt8), crcRun s l < 4294967296 := by
  intro l
  induction l generalizing s with
  | nil => exact h
  | cons b l ih => exact ih (crcStep_lt h (UInt8.toNat_lt b))
theorem crcRun_append (s : Nat) (l m : List UInt8) : crcRun s (l ++ m) = crcRun (crcRun s l) m := by simp [crcRun]
theorem crcRun_snoc (s : Nat) (l : List UInt8) (b : UInt8) : crcRun s (l ++ [b]) = crcStep (crcRun s l) b.toNat := by simp [crcRun]

/- THE OPERATORS, AS NATURAL NUMBERS HAVE THEM. -/
theorem and15 {x : Nat} (h : x < 4294967296) : bits .and .u32 (x : Int) 15 = ((x % 16 : Nat) : Int) := by
  have := u32_and_nat x 15 h (by decide)
  rw [show ((15 : Nat) : Int) = 15 from rfl] at this
  rw [this, show (15 : Nat) = 2 ^ 4 - 1 from rfl, Nat.and_two_pow_sub_one_eq_mod]
theorem xor32 {x y : Nat} (hx : x < 4294967296) (hy : y < 4294967296) : bits .xor .u32 (x : Int) (y : Int) = ((x ^^^ y : Nat) : Int) := u32_xor_nat x y hx hy
theorem xor8 {x y : Nat} (hx : x < 256) (hy : y < 256) : bits .xor .u8 (x : Int) (y : Int) = ((x ^^^ y : Nat) : Int) := u8_xor_nat x y hx hy
theorem not_nat {x : Nat} (h : x < 4294967296) : 4294967295 ^^^ x = 4294967295 - x := by
  have e : (BitVec.allOnes 32 ^^^ BitVec.ofNat 32 x).toNat = (~~~ BitVec.ofNat 32 x).toNat := by rw [BitVec.not_def]
  rw [BitVec.toNat_xor, BitVec.toNat_not, BitVec.toNat_allOnes, BitVec.toNat_ofNat, Nat.mod_eq_of_lt h] at e
  simpa using e
theorem not32 {x : Nat} (h : x < 4294967296) : bits .xor .u32 IntKind.u32.max (x : Int) = ((4294967295 - x : Nat) : Int) := by
  have := xor32 (x := 4294967295) (by decide) h
  rw [not_nat h] at this
  exact this
end Go.Proofs.YtjfpgclaefbhjaaDoor
