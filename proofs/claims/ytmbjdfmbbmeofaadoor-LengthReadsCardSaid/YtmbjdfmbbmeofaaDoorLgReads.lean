/- Layer 15: LengthReads. -/
import Derived.Test.YtmbjdfmbbmeofaaDoorLgH
import Derived.Test.YtmbjdfmbbmeofaaDoorLgI
namespace Go.Proofs.YtmbjdfmbbmeofaaDoor
open Go.RowKit

set_option maxRecDepth 100000 in
set_option maxHeartbeats 1000000 in
theorem lengthReads_any (a : Option Addr) (l : List UInt8) (c : Nat) (w : World) (hm : BytesAt w.heap.size w a l) (ht : LgTab w) :
    Calls Tryd.prog 4 #[.slice a l.length c] w fun e w' => LgTrue w e w' := by
  have HK := Lib.hid (lg_known w ht)
  by_cases h1 : 100 < l.length
  · have h2 : (100 : Int) < l.length := by omega
    clear hm ht h1
    go_enter Tryd.func4, Tryd.ntmps4
    go_wp2_with (go_at_call 7; refine HK.out.mono ?_; rintro e w' ⟨rfl, hb⟩; have HB := Lib.hid hb; clear hb)
    go_ret
    exact ⟨rfl, HB.out⟩
  · have h2 : ¬ (100 : Int) < l.length := by omega
    have hR := lgRead_any a l c _ w hm ht
    have hF := lgRref_any a l c _ w hm
    unfold LgPost lgTell at hR hF
    generalize lgRead l = r at hR hF
    obtain ⟨x, y, z⟩ := r
    dsimp only at hR hF
    have HR := Lib.hid hR
    have HF := Lib.hid hF
    clear hm ht h1 hR hF
    go_enter Tryd.func4, Tryd.ntmps4
    go_wp2_with (first
      | (go_at_call 11; refine HR.out.mono ?_; rintro e w' ⟨rfl, rfl⟩)
      | (go_at_call 12; refine HF.out.mono ?_; rintro e w' ⟨rfl, rfl⟩)
      | (go_at_call 7; refine HK.out.mono ?_; rintro e w' ⟨rfl, hb⟩; have HB := Lib.hid hb; clear hb))
    go_ret
    exact ⟨rfl, HB.out⟩
end Go.Proofs.YtmbjdfmbbmeofaaDoor
