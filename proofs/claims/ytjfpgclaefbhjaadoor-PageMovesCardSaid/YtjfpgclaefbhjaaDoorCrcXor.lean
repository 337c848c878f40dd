/- The sum of two runs, byte for byte put together by xor. -/
import Derived.Test.YtjfpgclaefbhjaaDoorCrcLin
namespace Go.Proofs.YtjfpgclaefbhjaaDoor

def xor2 (l m : List UInt8) : List UInt8 := List.zipWith (fun x y => x ^^^ y) l m
theorem crcRun_xor : ∀ (l m : List UInt8) (s t : Nat), l.length = m.length → crcRun (s ^^^ t) (xor2 l m) = crcRun s l ^^^ crcRun t m
  | [], [], s, t, _ => rfl
  | [], _ :: _, _, _, h => by simp at h
  | _ :: _, [], _, _, h => by simp at h
  | a :: l, b :: m, s, t, h => by
    have e : crcRun (s ^^^ t) (xor2 (a :: l) (b :: m)) = crcRun (crcStep (s ^^^ t) (a ^^^ b).toNat) (xor2 l m) := rfl
    rw [e, UInt8.toNat_xor, crcStep_xor, crcRun_xor l m _ _ (by simpa using h)]
    rfl
end Go.Proofs.YtjfpgclaefbhjaaDoor
