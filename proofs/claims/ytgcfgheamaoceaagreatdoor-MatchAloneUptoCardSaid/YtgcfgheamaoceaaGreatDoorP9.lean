/- Texts of the proof in one file, in build order: MatYY, MatAlone, MatchAloneCard. -/
import Derived.Test.YtgcfgheamaoceaaGreatDoorP8
import Derived.Test.YtgcfgheamaoceaaGreatDoorP5
import Derived.Test.YtgcfgheamaoceaaGreatDoorP3
import Derived.Test.YtgcfgheamaoceaaGreatDoorP6
/- Layer 14: MatchAlone, of few entries and a name (wip/tools/mkmatyy.py). -/
namespace Go.Proofs.YtgcfgheamaoceaaGreatDoor
open Go.RowKit Go.MapKept Go.ChangeMaps Go.Maps

section
variable {ops : Array Oper}
theorem wantedOffU {ops : Array Oper} {o oi : Oper} {a : Act} {b : Bool} {d : Tmp} {j : Nat} (hg : o.guard = some (j, b)) (ho : ops[j]? = some oi) (hd : oi.dst = some d) (hsz : d < a.tmps.size) (hv : a.eval (.tmp d) = undef) : Region.wanted o (yielded ops a.tmps) = false := by
  have h1 : a.tmps[d]? = some undef := by
    have : a.tmps.getD d undef = undef := hv
    rw [Array.getD, dif_pos hsz] at this
    rw [Array.getElem?_eq_getElem hsz]; exact congrArg some this
  unfold Region.wanted
  rw [hg]
  simp [yielded, ho, hd, h1, undef]
end
def R23T (B o n cap i B8 c8 : Nat) (e0 : Txt × Nat) : Nat → Value → World → Prop
  | 0, v, _ => v = .slice (some ⟨B8, 0, none⟩) 1 c8
  | 1, v, _ => v = .int .i64 ((1 : Nat) : Int)
  | 2, v, _ => v = .bool true
  | 3, v, _ => v = .bool true
  | 4, v, _ => v = .bool false
  | 5, v, _ => v = .bool false
  | 6, v, _ => v = .slice (some ⟨B8, 0, none⟩) 1 c8
  | 7, v, _ => v = .int .i64 ((1 : Nat) : Int)
  | 8, v, _ => v = .bool false
  | 9, v, _ => v = .bool false
  | 10, v, _ => v = .bool false
  | 11, v, _ => v = .bool true
  | 12, v, _ => v = .bool true
  | 13, v, _ => v = .slice (some ⟨B8, 0, none⟩) 1 c8
  | 14, v, _ => v = .pointer (some ⟨B8, 0 + 0 * 2, none⟩)
  | 15, v, _ => v = .agg #[.string (str e0.1), .int .i64 (e0.2 : Int)]
  | 16, v, _ => v = .slice (some ⟨B, o, none⟩) n cap
  | 17, v, _ => v = .int .i64 (i : Int)
  | 18, v, _ => v = .pointer (some ⟨B, o + i * 3, none⟩)
  | 19, v, _ => v = .pointer (some ⟨B, o + i * 3 + 1, none⟩)
  | 20, v, _ => v = .string (str e0.1)
  | 21, v, _ => v = .slice (some ⟨B, o, none⟩) n cap
  | 22, v, _ => v = .int .i64 (i : Int)
  | 23, v, _ => v = .pointer (some ⟨B, o + i * 3, none⟩)
  | 24, v, _ => v = .pointer (some ⟨B, o + i * 3 + 2, none⟩)
  | 25, v, _ => v = .int .i64 (e0.2 : Int)
  | 26, v, _ => v = .agg #[.string (str e0.1), .int .i64 (e0.2 : Int)]
  | 27, v, _ => v = .bool false
  | 28, v, _ => v = .bool false
  | 29, v, _ => v = .bool false
  | _, _, _ => True
def R23F (at8 : Option Addr) (ct8 : Nat) : Nat → Value → World → Prop
  | 0, v, _ => v = .slice at8 0 ct8
  | 1, v, _ => v = .int .i64 ((0 : Nat) : Int)
  | 2, v, _ => v = .bool false
  | 3, v, _ => v = .bool false
  | 4, v, _ => v = .bool false
  | 5, v, _ => v = .bool false
  | 6, v, _ => v = .slice at8 0 ct8
  | 7, v, _ => v = .int .i64 ((0 : Nat) : Int)
  | 8, v, _ => v = .bool false
  | 9, v, _ => v = .bool false
  | 10, v, _ => v = .bool false
  | 11, v, _ => v = .bool false
  | 12, v, _ => v = .bool false
  | 13, v, _ => v = undef
  | 14, v, _ => v = undef
  | 15, v, _ => v = undef
  | 16, v, _ => v = undef
  | 17, v, _ => v = undef
  | 18, v, _ => v = undef
  | 19, v, _ => v = undef
  | 20, v, _ => v = undef
  | 21, v, _ => v = undef
  | 22, v, _ => v = undef
  | 23, v, _ => v = undef
  | 24, v, _ => v = undef
  | 25, v, _ => v = undef
  | 26, v, _ => v = undef
  | 27, v, _ => v = undef
  | 28, v, _ => v = .bool false
  | 29, v, _ => v = .bool false
  | _, _, _ => True
def R30A  : Nat → Value → World → Prop
  | 0, v, _ => v = .bool false
  | 1, v, _ => v = .bool false
  | 2, v, _ => v = undef
  | 3, v, _ => v = undef
  | 4, v, _ => v = undef
  | 5, v, _ => v = undef
  | 6, v, _ => v = undef
  | 7, v, _ => v = undef
  | 8, v, _ => v = undef
  | 9, v, _ => v = undef
  | 10, v, _ => v = undef
  | 11, v, _ => v = undef
  | 12, v, _ => v = undef
  | 13, v, _ => v = undef
  | 14, v, _ => v = undef
  | 15, v, _ => v = undef
  | 16, v, _ => v = undef
  | 17, v, _ => v = undef
  | 18, v, _ => v = undef
  | 19, v, _ => v = undef
  | 20, v, _ => v = undef
  | 21, v, _ => v = undef
  | 22, v, _ => v = undef
  | 23, v, _ => v = undef
  | 24, v, _ => v = undef
  | 25, v, _ => v = undef
  | 26, v, _ => v = undef
  | 27, v, _ => v = undef
  | 28, v, _ => v = undef
  | 29, v, _ => v = undef
  | 30, v, _ => v = undef
  | 31, v, _ => v = undef
  | 32, v, _ => v = undef
  | 33, v, _ => v = undef
  | 34, v, _ => v = .bool false
  | 35, v, _ => v = .bool false
  | _, _, _ => True
def R30B  : Nat → Value → World → Prop
  | 0, v, _ => v = .bool true
  | 1, v, _ => v = .bool true
  | 2, v, _ => v = .bool false
  | 3, v, _ => v = .bool false
  | 4, v, _ => v = undef
  | 5, v, _ => v = undef
  | 6, v, _ => v = .bool false
  | 7, v, _ => v = .bool false
  | 8, v, _ => v = undef
  | 9, v, _ => v = undef
  | 10, v, _ => v = undef
  | 11, v, _ => v = undef
  | 12, v, _ => v = undef
  | 13, v, _ => v = undef
  | 14, v, _ => v = undef
  | 15, v, _ => v = undef
  | 16, v, _ => v = undef
  | 17, v, _ => v = undef
  | 18, v, _ => v = undef
  | 19, v, _ => v = .bool false
  | 20, v, _ => v = .bool false
  | 21, v, _ => v = undef
  | 22, v, _ => v = undef
  | 23, v, _ => v = undef
  | 24, v, _ => v = undef
  | 25, v, _ => v = undef
  | 26, v, _ => v = undef
  | 27, v, _ => v = undef
  | 28, v, _ => v = undef
  | 29, v, _ => v = undef
  | 30, v, _ => v = undef
  | 31, v, _ => v = undef
  | 32, v, _ => v = .bool false
  | 33, v, _ => v = .bool true
  | 34, v, _ => v = .bool true
  | 35, v, _ => v = .bool true
  | _, _, _ => True
def R30C (B : Nat) (o : Nat) (n : Nat) (cap : Nat) (i : Nat) (k : Nat) (x : En) (y : En) : Nat → Value → World → Prop
  | 0, v, _ => v = .bool true
  | 1, v, _ => v = .bool true
  | 2, v, _ => v = .bool true
  | 3, v, _ => v = .bool true
  | 4, v, _ => v = .int .i64 ((0 : Nat) : Int)
  | 5, v, _ => v = .bool true
  | 6, v, _ => v = .bool true
  | 7, v, _ => v = .bool true
  | 8, v, _ => v = .slice (some ⟨B, o, none⟩) n cap
  | 9, v, _ => v = .int .i64 (k : Int)
  | 10, v, _ => v = .pointer (some ⟨B, o + k * 3, none⟩)
  | 11, v, _ => v = .pointer (some ⟨B, o + k * 3, none⟩)
  | 12, v, _ => v = .string y.f
  | 13, v, _ => v = .slice (some ⟨B, o, none⟩) n cap
  | 14, v, _ => v = .int .i64 (i : Int)
  | 15, v, _ => v = .pointer (some ⟨B, o + i * 3, none⟩)
  | 16, v, _ => v = .pointer (some ⟨B, o + i * 3, none⟩)
  | 17, v, _ => v = .string x.f
  | 18, v, _ => v = .bool false
  | 19, v, _ => v = .bool false
  | 20, v, _ => v = .bool false
  | 21, v, _ => v = undef
  | 22, v, _ => v = undef
  | 23, v, _ => v = undef
  | 24, v, _ => v = undef
  | 25, v, _ => v = undef
  | 26, v, _ => v = undef
  | 27, v, _ => v = undef
  | 28, v, _ => v = undef
  | 29, v, _ => v = undef
  | 30, v, _ => v = undef
  | 31, v, _ => v = undef
  | 32, v, _ => v = .bool false
  | 33, v, _ => v = .bool true
  | 34, v, _ => v = .bool true
  | 35, v, _ => v = .bool true
  | _, _, _ => True
def R30D (B : Nat) (o : Nat) (n : Nat) (cap : Nat) (i : Nat) (k : Nat) (x : En) (y : En) : Nat → Value → World → Prop
  | 0, v, _ => v = .bool true
  | 1, v, _ => v = .bool true
  | 2, v, _ => v = .bool true
  | 3, v, _ => v = .bool true
  | 4, v, _ => v = .int .i64 ((0 : Nat) : Int)
  | 5, v, _ => v = .bool true
  | 6, v, _ => v = .bool true
  | 7, v, _ => v = .bool true
  | 8, v, _ => v = .slice (some ⟨B, o, none⟩) n cap
  | 9, v, _ => v = .int .i64 (k : Int)
  | 10, v, _ => v = .pointer (some ⟨B, o + k * 3, none⟩)
  | 11, v, _ => v = .pointer (some ⟨B, o + k * 3, none⟩)
  | 12, v, _ => v = .string y.f
  | 13, v, _ => v = .slice (some ⟨B, o, none⟩) n cap
  | 14, v, _ => v = .int .i64 (i : Int)
  | 15, v, _ => v = .pointer (some ⟨B, o + i * 3, none⟩)
  | 16, v, _ => v = .pointer (some ⟨B, o + i * 3, none⟩)
  | 17, v, _ => v = .string x.f
  | 18, v, _ => v = .bool true
  | 19, v, _ => v = .bool true
  | 20, v, _ => v = .bool true
  | 21, v, _ => v = .slice (some ⟨B, o, none⟩) n cap
  | 22, v, _ => v = .int .i64 (k : Int)
  | 23, v, _ => v = .pointer (some ⟨B, o + k * 3, none⟩)
  | 24, v, _ => v = .pointer (some ⟨B, o + k * 3 + 1, none⟩)
  | 25, v, _ => v = .string y.c
  | 26, v, _ => v = .slice (some ⟨B, o, none⟩) n cap
  | 27, v, _ => v = .int .i64 (i : Int)
  | 28, v, _ => v = .pointer (some ⟨B, o + i * 3, none⟩)
  | 29, v, _ => v = .pointer (some ⟨B, o + i * 3 + 1, none⟩)
  | 30, v, _ => v = .string x.c
  | 31, v, _ => v = .bool false
  | 32, v, _ => v = .bool false
  | 33, v, _ => v = .bool true
  | 34, v, _ => v = .bool true
  | 35, v, _ => v = .bool true
  | _, _, _ => True
def R30E (B : Nat) (o : Nat) (n : Nat) (cap : Nat) (i : Nat) (k : Nat) (x : En) (y : En) : Nat → Value → World → Prop
  | 0, v, _ => v = .bool true
  | 1, v, _ => v = .bool true
  | 2, v, _ => v = .bool true
  | 3, v, _ => v = .bool true
  | 4, v, _ => v = .int .i64 ((0 : Nat) : Int)
  | 5, v, _ => v = .bool true
  | 6, v, _ => v = .bool true
  | 7, v, _ => v = .bool true
  | 8, v, _ => v = .slice (some ⟨B, o, none⟩) n cap
  | 9, v, _ => v = .int .i64 (k : Int)
  | 10, v, _ => v = .pointer (some ⟨B, o + k * 3, none⟩)
  | 11, v, _ => v = .pointer (some ⟨B, o + k * 3, none⟩)
  | 12, v, _ => v = .string y.f
  | 13, v, _ => v = .slice (some ⟨B, o, none⟩) n cap
  | 14, v, _ => v = .int .i64 (i : Int)
  | 15, v, _ => v = .pointer (some ⟨B, o + i * 3, none⟩)
  | 16, v, _ => v = .pointer (some ⟨B, o + i * 3, none⟩)
  | 17, v, _ => v = .string x.f
  | 18, v, _ => v = .bool true
  | 19, v, _ => v = .bool true
  | 20, v, _ => v = .bool true
  | 21, v, _ => v = .slice (some ⟨B, o, none⟩) n cap
  | 22, v, _ => v = .int .i64 (k : Int)
  | 23, v, _ => v = .pointer (some ⟨B, o + k * 3, none⟩)
  | 24, v, _ => v = .pointer (some ⟨B, o + k * 3 + 1, none⟩)
  | 25, v, _ => v = .string y.c
  | 26, v, _ => v = .slice (some ⟨B, o, none⟩) n cap
  | 27, v, _ => v = .int .i64 (i : Int)
  | 28, v, _ => v = .pointer (some ⟨B, o + i * 3, none⟩)
  | 29, v, _ => v = .pointer (some ⟨B, o + i * 3 + 1, none⟩)
  | 30, v, _ => v = .string x.c
  | 31, v, _ => v = .bool true
  | 32, v, _ => v = .bool true
  | 33, v, _ => v = .bool false
  | 34, v, _ => v = .bool false
  | 35, v, _ => v = .bool false
  | _, _, _ => True
def R41V (Bt gx Bu tn ct xn cp cu j k : Nat) (p e0 : Txt × Nat) : Nat → Value → World → Prop
  | 0, v, _ => v = .slice (some ⟨Bt, 0, none⟩) tn ct
  | 1, v, _ => v = .int .i64 (k : Int)
  | 2, v, _ => v = .pointer (some ⟨Bt, 0 + k * 2, none⟩)
  | 3, v, _ => v = .pointer (some ⟨Bt, 0 + k * 2, none⟩)
  | 4, v, _ => v = .string (str p.1)
  | 5, v, _ => v = .slice (some ⟨gx, 0, none⟩) xn cp
  | 6, v, _ => v = .int .i64 (j : Int)
  | 7, v, _ => v = .pointer (some ⟨gx, 0 + j * 1, none⟩)
  | 8, v, _ => v = .slice (some ⟨Bu, 0, none⟩) 1 cu
  | 9, v, _ => v = .pointer (some ⟨Bu, 0 + 0 * 2, none⟩)
  | 10, v, _ => v = .pointer (some ⟨Bu, 0 + 0 * 2, none⟩)
  | 11, v, _ => v = .string (str e0.1)
  | 12, v, _ => v = .bool ((str p.1).toList == (str e0.1).toList)
  | 13, v, _ => v = .bool ((str p.1).toList == (str e0.1).toList)
  | 14, v, _ => (((str p.1).toList == (str e0.1).toList)) = true → v = .slice (some ⟨Bt, 0, none⟩) tn ct
  | 15, v, _ => (((str p.1).toList == (str e0.1).toList)) = true → v = .int .i64 (k : Int)
  | 16, v, _ => (((str p.1).toList == (str e0.1).toList)) = true → v = .pointer (some ⟨Bt, 0 + k * 2, none⟩)
  | 17, v, _ => (((str p.1).toList == (str e0.1).toList)) = true → v = .pointer (some ⟨Bt, 0 + k * 2 + 1, none⟩)
  | 18, v, _ => (((str p.1).toList == (str e0.1).toList)) = true → v = .int .i64 (p.2 : Int)
  | 19, v, _ => (((str p.1).toList == (str e0.1).toList)) = true → v = .slice (some ⟨gx, 0, none⟩) xn cp
  | 20, v, _ => (((str p.1).toList == (str e0.1).toList)) = true → v = .int .i64 (j : Int)
  | 21, v, _ => (((str p.1).toList == (str e0.1).toList)) = true → v = .pointer (some ⟨gx, 0 + j * 1, none⟩)
  | 22, v, _ => (((str p.1).toList == (str e0.1).toList)) = true → v = .slice (some ⟨Bu, 0, none⟩) 1 cu
  | 23, v, _ => (((str p.1).toList == (str e0.1).toList)) = true → v = .pointer (some ⟨Bu, 0 + 0 * 2, none⟩)
  | 24, v, _ => (((str p.1).toList == (str e0.1).toList)) = true → v = .pointer (some ⟨Bu, 0 + 0 * 2 + 1, none⟩)
  | 25, v, _ => (((str p.1).toList == (str e0.1).toList)) = true → v = .int .i64 (e0.2 : Int)
  | 26, v, _ => (((str p.1).toList == (str e0.1).toList)) = true → v = .bool (decide ((e0.2 : Int) ≤ (p.2 : Int)))
  | 27, v, _ => v = .bool (((str p.1).toList == (str e0.1).toList) && (decide ((e0.2 : Int) ≤ (p.2 : Int))))
  | 28, v, _ => v = .bool (((str p.1).toList == (str e0.1).toList) && (decide ((e0.2 : Int) ≤ (p.2 : Int))))
  | _, _, _ => True
set_option maxRecDepth 100000 in
set_option maxHeartbeats 8000000 in
theorem alone_in (w : World) (ao : Option Addr) (L : List En) (cap : Nat) (hE : EnsAt w ao L) (hL : L.length ≤ 20) (hsh : L.all shortE = true) (hs : ∀ e ∈ L, e.f.size ≤ maxLen ∧ e.c.size ≤ maxLen) (name : ByteArray) (hnm : name.size ≤ 300) (hN : nameL name.data.toList = true) (ht : Tabs w) :
    Calls Tryz.prog 7 #[.slice ao L.length cap, .string name] w fun e w' => AlonePost w e w' := by
  obtain ⟨n, hn⟩ : ∃ n, L.length = n := ⟨_, rfl⟩
  have hn5 : n ≤ 1048576 := by omega
  have hn20 : n ≤ 20 := by omega
  have hwn : IntKind.i64.wrap ((name.size : Nat) : Int) = name.size := by rw [IntKind.wrap_i64]; omega
  have hgt : ¬ (300 : Int) < (name.size : Int) := by omega
  have HA := Lib.hid hE
  have HT := Lib.hid ht
  have HS := Lib.hid (And.intro hs hsh)
  rw [hn]
  clear hE ht hs hL hsh
  go_enter Tryz.func7, Tryz.ntmps7
  go_wp2
  go_loopw [5, 6, 28, 29, 30, 31, 32, 33, 34, 35, 36, 37, 38, 39, 40, 41] (fun xo xi _ _ _ _ _ _ _ _ _ _ _ _ _ _ wr => ∃ i : Nat, xi = .int .i64 i ∧ i ≤ n ∧ OwnA wr w.heap.size xo ((L.take i).map actOf) ∧ Below w.heap.size w wr) (fun _ xi _ _ _ _ _ _ _ _ _ _ _ _ _ _ _ => n - (intOf xi).toNat)
  case atStart => exact ⟨0, rfl, Nat.zero_le _, OwnA.nil _ _, Below.refl _ _⟩
  case round =>
    obtain ⟨i, rfl, hi, hO, hb⟩ := hrel
    rcases Nat.lt_or_ge i n with hin | hin
    · have hlt : (i : Int) < (n : Int) := by omega
      have hwi : IntKind.i64.wrap ((i : Int) + 1) = (i : Int) + 1 := by rw [IntKind.wrap_i64]; omega
      obtain ⟨x, hx⟩ : ∃ x, L[i]? = some x := ⟨_, List.getElem?_eq_getElem (by omega)⟩
      obtain ⟨B, o, rfl, hB, c0, c1, c2⟩ := (HA.out.below hb) i x hx
      have hix := index_en wr B o n cap i hin
      have hlen : ((L.take i).map actOf).length = i := by rw [List.length_map, List.length_take]; omega
      have hnx : (L.take (i + 1)).map actOf = (L.take i).map actOf ++ [actOf x] := by rw [List.take_add_one, hx]; simp
      have hblk := World.alloc_heap_new wr (.cells #[.int .i64 1, .string x.f, .string x.c, .int .i64 x.q] 33)
      obtain ⟨v2, w2, hr, ho2, hg2, -⟩ := run_append_acts (wr.alloc (.cells #[.int .i64 1, .string x.f, .string x.c, .int .i64 x.q] 33)) w.heap.size 22 _ _ [actOf x] (hO.below ((Below.refl _ wr).alloc (Nat.le_refl _) _)) wr.heap.size 0 1 (fun j u hu => by
        rw [cell_of_row _ _ _ _ _ _ hblk, Nat.zero_add]
        match j, hu with
        | 0, hu => cases hu; rfl
        | 1, hu => cases hu; rfl
        | 2, hu => cases hu; rfl
        | 3, hu => cases hu; rfl
        | j + 4, hu => cases hu) (by rw [hlen]; show i + 1 ≤ 2000000; omega) (by have := hb.size; simp; omega)
      have hb2 : Below w.heap.size w w2 := (hb.alloc hb.size _).grown hg2 (by have := hb.size; simp; omega) (fun b e => (ownA_lt hO b e).1)
      have HZ := Lib.hid (And.intro ho2 (And.intro hb2 hnx))
      clear ho2 hg2 hb2 hnx hO hb hlen hx hB hblk
      go_wp2_with (at_builtin; refine wpList_append_val rfl rfl rfl rfl hr ?_)
      exact ⟨⟨i + 1, rfl, hin, by rw [HZ.out.2.2]; exact HZ.out.1, HZ.out.2.1⟩, by show n - ((i : Int) + 1).toNat < n - (i : Int).toNat; omega⟩
    · have hlt : ¬ (i : Int) < (n : Int) := by omega
      rw [List.take_of_length_le (by omega)] at hO
      obtain ⟨aa, ca, e, hat⟩ := ownA_at hO
      rw [List.length_map, hn] at e
      have hfew := few_any wr aa (L.map actOf) ca 20 (by decide) hat (fun s hs => by
        obtain ⟨x, hx, rfl⟩ := List.mem_map.1 hs
        exact HS.out.1 x hx)
      rw [few_acts, List.length_map, hn] at hfew
      have HF := Lib.hid hfew
      have HB := Lib.hid hb
      subst e
      clear hO hb hat hfew
      rw [show (decide (n ≤ 20) && L.all shortE) = true by rw [decide_eq_true hn20, HS.out.2]; rfl] at HF
      have hNm := rname_any name (by omega) wr
      rw [hN] at hNm
      have HN := Lib.hid hNm
      clear hNm
      go_wp2_with (first
        | (go_at_call 8; refine HF.out.mono ?_; rintro e w2 ⟨rfl, rfl⟩)
        | (go_at_call 27; refine HN.out.mono ?_; rintro e w4 ⟨rfl, hb4⟩; have HB4 := Lib.hid (HB.out.trans (hb4.mono HB.out.size)); clear hb4)
        | (go_at_call 10; refine (new_any _).mono ?_; rintro e w5 ⟨BkA, tA0, rfl, hB0, hn0, hb0⟩; have HX := Lib.hid (Fresh.mk hB0 (fun k hk => Nat.le_trans HB4.out.size (hn0 k hk)) (HB4.out.trans (hb0.mono HB4.out.size))); clear hB0 hn0 hb0))
      go_loopw [4, 8, 9, 10, 11, 12, 13, 14, 15, 16, 17, 18, 19, 20, 21, 22, 57, 58, 59, 60, 61, 62, 63, 64, 65, 66, 67, 68, 69, 70, 71, 72, 73, 74, 75, 76, 77, 78, 79, 80, 81, 82, 83, 84, 85, 86, 87, 88, 89, 90, 91, 92, 93, 94, 95, 96, 97, 98, 99, 100, 101, 102, 103, 104, 105, 106, 107, 108, 109, 110, 111, 112, 113, 114, 115, 116, 117, 118, 119, 120, 121, 122, 123, 124, 125, 126, 127, 128, 129, 130, 131, 132, 133, 134, 135, 136, 137, 138, 139, 140, 141, 142, 143, 144, 145, 146, 147, 148, 149, 150, 151, 152, 153, 154, 155, 156, 157, 158, 159, 160, 161, 162, 163, 164, 165, 166, 167, 168, 169, 170, 171, 172, 173, 174, 175, 176, 177, 178, 179, 180, 181, 182, 183, 184, 185, 186, 187, 188, 189, 190, 191, 192, 193] (fun _ xo xi _ _ _ _ _ _ _ _ _ _ _ _ _ _ _ _ _ _ _ _ _ _ _ _ _ _ _ _ _ _ _ _ _ _ _ _ _ _ _ _ _ _ _ _ _ _ _ _ _ _ _ _ _ _ _ _ _ _ _ _ _ _ _ _ _ _ _ _ _ _ _ _ _ _ _ _ _ _ _ _ _ _ _ _ _ _ _ _ _ _ _ _ _ _ _ _ _ _ _ _ _ _ _ _ _ _ _ _ _ _ _ _ _ _ _ _ _ _ _ _ _ _ _ _ _ _ _ _ _ _ _ _ _ _ _ _ _ _ _ _ _ _ _ _ _ _ _ _ _ _ wr => ∃ (i : Nat) (tA : Tr) (X : List (List (Txt × Nat))), xi = .int .i64 i ∧ i ≤ n ∧ Fresh w BkA (setsE L i) tA wr ∧ OnesAt wr w.heap.size (BkF BkA tA) xo X ∧ X.length ≤ i ∧ ∀ x ∈ X, OneOf L name.data.toList i x) (fun _ _ xi _ _ _ _ _ _ _ _ _ _ _ _ _ _ _ _ _ _ _ _ _ _ _ _ _ _ _ _ _ _ _ _ _ _ _ _ _ _ _ _ _ _ _ _ _ _ _ _ _ _ _ _ _ _ _ _ _ _ _ _ _ _ _ _ _ _ _ _ _ _ _ _ _ _ _ _ _ _ _ _ _ _ _ _ _ _ _ _ _ _ _ _ _ _ _ _ _ _ _ _ _ _ _ _ _ _ _ _ _ _ _ _ _ _ _ _ _ _ _ _ _ _ _ _ _ _ _ _ _ _ _ _ _ _ _ _ _ _ _ _ _ _ _ _ _ _ _ _ _ _ _ => n - (intOf xi).toNat)
      case atStart => exact ⟨0, tA0, [], rfl, Nat.zero_le _, HX.out, OnesAt.nil _ _ _, Nat.le_refl _, fun x hx => by cases hx⟩
      case round =>
        obtain ⟨i, tA, X, rfl, hi, hFr, hOn, hXl, hall⟩ := hrel
        rcases Nat.lt_or_ge i n with hin | hin
        case inr =>
          have hlt : ¬ (i : Int) < (n : Int) := by omega
          have hin2 : i = n := by omega
          obtain ⟨ax, cx, rfl⟩ := hOn.slice
          rw [hin2] at hFr hall
          have HR := Lib.hid (And.intro hFr (And.intro hOn hall))
          have hXn : X.length ≤ n := by omega
          obtain ⟨xn, hxn⟩ : ∃ xn, X.length = xn := ⟨_, rfl⟩
          rw [hxn] at hXn ⊢
          clear hFr hOn hall hXl hi
          go_wp2_with fail
          obtain ⟨hFr, hOn, hall⟩ := HR.out
          refine (meets_aside hFr HT.out name (by omega) hN).mono ?_
          rintro e w8 ⟨v8, ks, Mp, rfl, hks, hmp, hGr, hTd, hb8⟩
          have hfd := fun x hx => ones_found hn (by omega) hmp hGr (hall x hx)
          have htl := told_le hks hmp hGr
          have hsl := (setsE_all L (by omega) n (by omega)).2
          obtain ⟨T, hT⟩ : ∃ T, toldL ks Mp = T := ⟨_, rfl⟩
          rw [hT] at hTd hfd htl
          obtain ⟨tn, htn⟩ : ∃ tn, T.length = tn := ⟨_, rfl⟩
          have htn20 : tn ≤ 20 := by omega
          obtain ⟨at8, ct8, rfl⟩ : ∃ a c, v8 = .slice a tn c := by rw [← htn]; exact ownTd_slice hTd
          have HG := Lib.hid (And.intro (hOn.below hb8) (And.intro hTd (And.intro hfd (And.intro (hFr.low.trans (hb8.mono hFr.low.size)) htn))))
          clear hFr hOn hall hks hmp hGr hTd hb8 hfd htl hsl hT HR
          go_wp2
          go_loopw [4, 25, 26, 27, 200, 201, 202, 203, 204, 205, 206, 207, 208, 209, 210, 211, 212, 213, 214, 215, 216, 217, 218, 219, 220, 221, 222, 223, 224, 225, 226, 227, 228, 229, 230, 231, 232, 233, 234, 235, 236, 237, 238, 239, 240, 241, 242, 243, 244, 245, 246, 247, 248, 249, 250, 251] (fun _ xj _ _ _ _ _ _ _ _ _ _ _ _ _ _ _ _ _ _ _ _ _ _ _ _ _ _ _ _ _ _ _ _ _ _ _ _ _ _ _ _ _ _ _ _ _ _ _ _ _ _ _ _ _ _ wr => ∃ j : Nat, xj = .int .i64 (j : Int) ∧ j ≤ xn ∧ Below w8.heap.size w8 wr) (fun _ xj _ _ _ _ _ _ _ _ _ _ _ _ _ _ _ _ _ _ _ _ _ _ _ _ _ _ _ _ _ _ _ _ _ _ _ _ _ _ _ _ _ _ _ _ _ _ _ _ _ _ _ _ _ _ _ => xn - (intOf xj).toNat)
          case atStart => exact ⟨0, rfl, Nat.zero_le _, Below.refl _ _⟩
          case round =>
            obtain ⟨j, rfl, hj, hbj⟩ := hrel
            rcases Nat.lt_or_ge j xn with hjn | hjn
            case inr =>
              have hlt : ¬ (j : Int) < (xn : Int) := by omega
              have HB9 := Lib.hid (HG.out.2.2.2.1.trans (hbj.mono HG.out.2.2.2.1.size))
              clear hbj
              go_wp2_with (go_at_call 9; refine (knownM_any _ (HT.out.below HB9.out HT.out.two)).mono ?_; rintro e w3 ⟨rfl, hb3⟩; have HB3 := Lib.hid hb3; clear hb3)
              go_ret
              exact ⟨rfl, HB9.out.trans (HB3.out.mono HB9.out.size)⟩
            case inl =>
              have hlt : (j : Int) < (xn : Int) := by omega
              have hwi : IntKind.i64.wrap ((j : Int) + 1) = (j : Int) + 1 := by rw [IntKind.wrap_i64]; omega
              obtain ⟨hOn, hTd, hfd, hlow, htn⟩ := HG.out
              obtain ⟨x, hx⟩ : ∃ x, X[j]? = some x := ⟨_, List.getElem?_eq_getElem (by omega)⟩
              obtain ⟨gx, cp, u, hv, hc, hu⟩ := (hOn.below hbj).at_ hx
              rw [hxn] at hv
              cases hv
              have hixo := fun W : World => index_tds W gx 0 xn cx j hjn
              have hc2 : wr.cell? ⟨gx, j, none⟩ = some u := by have h := hc; rw [Nat.mul_one, Nat.zero_add] at h; exact h
              rcases hfd x (List.mem_of_getElem? hx) with rfl | ⟨e0, rfl, m0, p0, hm0, hp1, hp2⟩
              case inl =>
                obtain ⟨au, cu, rfl⟩ : ∃ a c, u = .slice a 0 c := ownTd_slice hu
                have HB9 := Lib.hid hbj
                clear hOn hTd hfd hlow hu hx hbj hc
                go_wp2
                go_loopw [26, 27, 212, 213, 214, 215, 216, 217, 218, 219, 220, 221, 222, 223, 224, 225, 226, 227, 228, 229, 230, 231, 232, 233, 234, 235, 236, 237, 238, 239, 240, 241, 242, 243, 244, 245, 246, 247, 248, 249] (fun xf xk _ _ _ _ _ _ _ _ _ _ _ _ _ _ _ _ _ _ _ _ _ _ _ _ _ _ _ _ _ _ _ _ _ _ _ _ _ _ wr => xf = .bool true ∧ xk = .int .i64 0 ∧ Below w8.heap.size w8 wr) (fun _ _ _ _ _ _ _ _ _ _ _ _ _ _ _ _ _ _ _ _ _ _ _ _ _ _ _ _ _ _ _ _ _ _ _ _ _ _ _ _ _ => 0)
                case atStart => exact ⟨rfl, rfl, HB9.out⟩
                case round =>
                  obtain ⟨rfl, rfl, hbk⟩ := hrel
                  have HBk := Lib.hid hbk
                  clear hbk
                  rcases Nat.lt_or_ge 0 tn with ht | ht
                  case inl =>
                    have ht0 : (0 : Int) < (tn : Int) := by omega
                    go_wp2
                    exact ⟨⟨j + 1, rfl, hjn, HBk.out⟩, by show xn - ((j : Int) + 1).toNat < xn - (j : Int).toNat; omega⟩
                  case inr =>
                    have ht0 : ¬ (0 : Int) < (tn : Int) := by omega
                    go_wp2
                    exact ⟨⟨j + 1, rfl, hjn, HBk.out⟩, by show xn - ((j : Int) + 1).toNat < xn - (j : Int).toNat; omega⟩
              case inr =>
                obtain ⟨Bu, cu, rfl, ku0, ku1⟩ : ∃ B c, u = .slice (some ⟨B, 0, none⟩) 1 c ∧ wr.cell? ⟨B, 0 + 0 * 2, none⟩ = some (.string (str e0.1)) ∧ wr.cell? ⟨B, 0 + 0 * 2 + 1, none⟩ = some (.int .i64 (e0.2 : Int)) := ownTd_at (i := 0) hu rfl
                have HU := Lib.hid (And.intro hbj (And.intro hu (And.intro ku0 (And.intro ku1 hc))))
                have hgl : gx < wr.heap.size := by obtain ⟨g2, c2, u2, e2, h2, -⟩ := (hOn.below hbj).at_ hx; cases e2; exact cell_lt h2
                clear hOn hTd hfd hlow hu hx hbj hc ku0 ku1
                obtain ⟨w9, hw9⟩ : ∃ w9, wr = w9 := ⟨_, rfl⟩
                rw [hw9] at HU hgl hc2 ⊢
                go_wp2
                go_loopw [26, 27, 212, 213, 214, 215, 216, 217, 218, 219, 220, 221, 222, 223, 224, 225, 226, 227, 228, 229, 230, 231, 232, 233, 234, 235, 236, 237, 238, 239, 240, 241, 242, 243, 244, 245, 246, 247, 248, 249] (fun xf xk _ _ _ _ _ _ _ _ _ _ _ _ _ _ _ _ _ _ _ _ _ _ _ _ _ _ _ _ _ _ _ _ _ _ _ _ _ _ wr => ∃ (k : Nat) (fb : Bool), xk = .int .i64 (k : Int) ∧ k ≤ tn ∧ xf = .bool fb ∧ Below w9.heap.size w9 wr ∧ (fb = false → ∀ m p, m < k → T[m]? = some p → ¬ (p.1 = e0.1 ∧ e0.2 ≤ p.2))) (fun _ xk _ _ _ _ _ _ _ _ _ _ _ _ _ _ _ _ _ _ _ _ _ _ _ _ _ _ _ _ _ _ _ _ _ _ _ _ _ _ _ => tn - (intOf xk).toNat)
                case atStart => exact ⟨0, false, rfl, Nat.zero_le _, rfl, Below.refl _ _, fun _ m p h => absurd h (Nat.not_lt_zero _)⟩
                case round =>
                  obtain ⟨k, fb, rfl, hk, rfl, hbk, hno⟩ := hrel
                  obtain ⟨hbj, hu, ku0, ku1, hc⟩ := HU.out
                  have hb8k := hbj.trans (hbk.mono hbj.size)
                  cases fb
                  case true =>
                    have HBk := Lib.hid hb8k
                    clear hbk hb8k hbj hno hu ku0 ku1 hc hc2
                    rcases Nat.lt_or_ge k tn with hkn | hkn
                    case inl =>
                      have ht0 : (k : Int) < (tn : Int) := by omega
                      go_wp2
                      exact ⟨⟨j + 1, rfl, hjn, HBk.out⟩, by show xn - ((j : Int) + 1).toNat < xn - (j : Int).toNat; omega⟩
                    case inr =>
                      have ht0 : ¬ (k : Int) < (tn : Int) := by omega
                      go_wp2
                      exact ⟨⟨j + 1, rfl, hjn, HBk.out⟩, by show xn - ((j : Int) + 1).toNat < xn - (j : Int).toNat; omega⟩
                  case false =>
                    obtain ⟨hOn, hTd, hfd, hlow, htn⟩ := HG.out
                    rcases Nat.lt_or_ge k tn with hkn | hkn
                    case inr => exact absurd ⟨hp1, hp2⟩ (hno rfl m0 p0 (by have := (List.getElem?_eq_some_iff.1 hm0).1; omega) hm0)
                    case inl =>
                      obtain ⟨p, hp⟩ : ∃ p, T[k]? = some p := ⟨_, List.getElem?_eq_getElem (by omega)⟩
                      obtain ⟨Bt, c9, hv, kp0, kp1⟩ := ownTd_at (hTd.below hb8k) hp
                      rw [htn] at hv
                      cases hv
                      have hlt : (k : Int) < (tn : Int) := by omega
                      have hwi2 : IntKind.i64.wrap ((k : Int) + 1) = (k : Int) + 1 := by rw [IntKind.wrap_i64]; omega
                      have kc : wr.cell? ⟨gx, 0 + j * 1, none⟩ = some (.slice (some ⟨Bu, 0, none⟩) 1 cu) := (hbk.cell (p := ⟨gx, 0 + j * 1, none⟩) hgl).trans hc
                      have ku0 : wr.cell? ⟨Bu, 0 + 0 * 2, none⟩ = some (.string (str e0.1)) := (hbk.cell (p := ⟨Bu, 0 + 0 * 2, none⟩) (ownTd_lt hu Bu rfl).2).trans ku0
                      have ku1 : wr.cell? ⟨Bu, 0 + 0 * 2 + 1, none⟩ = some (.int .i64 (e0.2 : Int)) := (hbk.cell (p := ⟨Bu, 0 + 0 * 2 + 1, none⟩) (ownTd_lt hu Bu rfl).2).trans ku1
                      have HNo := Lib.hid hno
                      have HBk := Lib.hid hbk
                      clear hbk hb8k hbj hno hu hc hc2 hOn hTd hfd hlow
                      go_wp2
                      refine wp_region_m (fun _ W => W = wr.drew) (R41V Bt gx Bu tn ct8 xn cx cu j k p e0) (by kernel_rfl) (by kernel_rfl) (by kernel_rfl) (by kernel_rfl) rfl ?step ?fin
                      case step =>
                        intro i o ho listed a w' hI hn' hpre
                        have hJ := hI.inv
                        have hi : i < 29 := (Array.getElem?_eq_some_iff.1 ho).1
                        match i, hi with
                        | 0, _ =>
                          cases ho
                          exact wpOp_move rfl rfl (.inl rfl) (hI.kept (t := 23) (by kernel_rfl)) ⟨_, rfl, hJ, fun _ => rfl, fun _ _ _ h => h⟩
                        | 1, _ =>
                          cases ho
                          exact wpOp_move rfl rfl (.inl rfl) (hI.kept (t := 27) (by kernel_rfl)) ⟨_, rfl, hJ, fun _ => rfl, fun _ _ _ h => h⟩
                        | 2, _ =>
                          cases ho
                          exact wpOp_index rfl rfl rfl (hI.slot 0 222 rfl (hpre ⟨0, .data⟩ (by simp) rfl) rfl) (hI.slot 1 223 rfl (hpre ⟨1, .data⟩ (by simp) rfl) rfl) (index_td w' Bt 0 tn ct8 k hkn) ⟨_, rfl, hJ, fun _ => rfl, fun _ _ _ h => h⟩
                        | 3, _ =>
                          cases ho
                          exact wpOp_field rfl rfl rfl (hI.slot 2 224 rfl (hpre ⟨2, .data⟩ (by simp) rfl) rfl) (by simp [go_sem]) ⟨_, rfl, hJ, fun _ => rfl, fun _ _ _ h => h⟩
                        | 4, _ =>
                          cases ho
                          exact wpOp_load rfl rfl rfl (hI.slot 3 225 rfl (hpre ⟨3, .data⟩ (by simp) rfl) rfl) (load_c (Tryz.isAgg9 w') (show w'.cell? _ = _ from by rw [hJ]; exact kp0)) ⟨_, rfl, hJ, fun _ => rfl, fun _ _ _ h => h⟩
                        | 5, _ =>
                          cases ho
                          exact wpOp_move rfl rfl (.inl rfl) (hI.kept (t := 8) (by kernel_rfl)) ⟨_, rfl, hJ, fun _ => rfl, fun _ _ _ h => h⟩
                        | 6, _ =>
                          cases ho
                          exact wpOp_move rfl rfl (.inl rfl) (hI.kept (t := 25) (by kernel_rfl)) ⟨_, rfl, hJ, fun _ => rfl, fun _ _ _ h => h⟩
                        | 7, _ =>
                          cases ho
                          exact wpOp_index rfl rfl rfl (hI.slot 5 227 rfl (hpre ⟨5, .data⟩ (by simp) rfl) rfl) (hI.slot 6 228 rfl (hpre ⟨6, .data⟩ (by simp) rfl) rfl) (index_tds w' gx 0 xn cx j hjn) ⟨_, rfl, hJ, fun _ => rfl, fun _ _ _ h => h⟩
                        | 8, _ =>
                          cases ho
                          exact wpOp_load rfl rfl rfl (hI.slot 7 229 rfl (hpre ⟨7, .data⟩ (by simp) rfl) rfl) (load_c (Tryz.isAgg42 w') (show w'.cell? _ = _ from by rw [hJ]; exact kc)) ⟨_, rfl, hJ, fun _ => rfl, fun _ _ _ h => h⟩
                        | 9, _ =>
                          cases ho
                          exact wpOp_index rfl rfl rfl (hI.slot 8 230 rfl (hpre ⟨8, .data⟩ (by simp) rfl) rfl) rfl (index_td w' Bu 0 1 cu 0 (by decide)) ⟨_, rfl, hJ, fun _ => rfl, fun _ _ _ h => h⟩
                        | 10, _ =>
                          cases ho
                          exact wpOp_field rfl rfl rfl (hI.slot 9 231 rfl (hpre ⟨9, .data⟩ (by simp) rfl) rfl) (by simp [go_sem]) ⟨_, rfl, hJ, fun _ => rfl, fun _ _ _ h => h⟩
                        | 11, _ =>
                          cases ho
                          exact wpOp_load rfl rfl rfl (hI.slot 10 232 rfl (hpre ⟨10, .data⟩ (by simp) rfl) rfl) (load_c (Tryz.isAgg9 w') (show w'.cell? _ = _ from by rw [hJ]; exact ku0)) ⟨_, rfl, hJ, fun _ => rfl, fun _ _ _ h => h⟩
                        | 12, _ =>
                          cases ho
                          exact wpOp_bin rfl rfl rfl (hI.slot 4 226 rfl (hpre ⟨4, .data⟩ (by simp) rfl) rfl) (hI.slot 11 233 rfl (hpre ⟨11, .data⟩ (by simp) rfl) rfl) (by simp [go_sem]) (by simp [go_sem]) ⟨_, rfl, hJ, fun _ => rfl, fun _ _ _ h => h⟩
                        | 13, _ =>
                          cases ho
                          exact wpOp_move rfl rfl (.inl rfl) (hI.slot 12 234 rfl (hpre ⟨12, .data⟩ (by simp) rfl) rfl) ⟨_, rfl, hJ, fun _ => rfl, fun _ _ _ h => h⟩
                        | 14, _ =>
                          cases ho
                          have eg := (hI.slot 13 235 rfl (hpre ⟨13, .guard⟩ (by simp) rfl) rfl)
                          by_cases hg : (((str p.1).toList == (str e0.1).toList)) = true
                          case neg =>
                            exact wpOp_off rfl (wantedOff (j := 13) (b := true) (b' := ((str p.1).toList == (str e0.1).toList)) rfl rfl rfl (by rw [hI.len]; show _ < 257; decide) eg hg) ⟨_, rfl, hJ, fun _ h => absurd h hg, fun _ _ _ h => h⟩
                          exact wpOp_move rfl (wantedOf (j := 13) (b := true) rfl rfl rfl (by rw [hI.len]; show _ < 257; decide) (eg.trans (congrArg Value.bool hg))) (.inl rfl) (hI.kept (t := 23) (by kernel_rfl)) ⟨_, rfl, hJ, fun _ _ => rfl, fun _ _ _ h => h⟩
                        | 15, _ =>
                          cases ho
                          have eg := (hI.slot 13 235 rfl (hpre ⟨13, .guard⟩ (by simp) rfl) rfl)
                          by_cases hg : (((str p.1).toList == (str e0.1).toList)) = true
                          case neg =>
                            exact wpOp_off rfl (wantedOff (j := 13) (b := true) (b' := ((str p.1).toList == (str e0.1).toList)) rfl rfl rfl (by rw [hI.len]; show _ < 257; decide) eg hg) ⟨_, rfl, hJ, fun _ h => absurd h hg, fun _ _ _ h => h⟩
                          exact wpOp_move rfl (wantedOf (j := 13) (b := true) rfl rfl rfl (by rw [hI.len]; show _ < 257; decide) (eg.trans (congrArg Value.bool hg))) (.inl rfl) (hI.kept (t := 27) (by kernel_rfl)) ⟨_, rfl, hJ, fun _ _ => rfl, fun _ _ _ h => h⟩
                        | 16, _ =>
                          cases ho
                          have eg := (hI.slot 13 235 rfl (hpre ⟨13, .guard⟩ (by simp) rfl) rfl)
                          by_cases hg : (((str p.1).toList == (str e0.1).toList)) = true
                          case neg =>
                            exact wpOp_off rfl (wantedOff (j := 13) (b := true) (b' := ((str p.1).toList == (str e0.1).toList)) rfl rfl rfl (by rw [hI.len]; show _ < 257; decide) eg hg) ⟨_, rfl, hJ, fun _ h => absurd h hg, fun _ _ _ h => h⟩
                          exact wpOp_index rfl (wantedOf (j := 13) (b := true) rfl rfl rfl (by rw [hI.len]; show _ < 257; decide) (eg.trans (congrArg Value.bool hg))) rfl ((hI.slot 14 236 rfl (hpre ⟨14, .data⟩ (by simp) rfl) rfl) hg) ((hI.slot 15 237 rfl (hpre ⟨15, .data⟩ (by simp) rfl) rfl) hg) (index_td w' Bt 0 tn ct8 k hkn) ⟨_, rfl, hJ, fun _ _ => rfl, fun _ _ _ h => h⟩
                        | 17, _ =>
                          cases ho
                          have eg := (hI.slot 13 235 rfl (hpre ⟨13, .guard⟩ (by simp) rfl) rfl)
                          by_cases hg : (((str p.1).toList == (str e0.1).toList)) = true
                          case neg =>
                            exact wpOp_off rfl (wantedOff (j := 13) (b := true) (b' := ((str p.1).toList == (str e0.1).toList)) rfl rfl rfl (by rw [hI.len]; show _ < 257; decide) eg hg) ⟨_, rfl, hJ, fun _ h => absurd h hg, fun _ _ _ h => h⟩
                          exact wpOp_field rfl (wantedOf (j := 13) (b := true) rfl rfl rfl (by rw [hI.len]; show _ < 257; decide) (eg.trans (congrArg Value.bool hg))) rfl ((hI.slot 16 238 rfl (hpre ⟨16, .data⟩ (by simp) rfl) rfl) hg) (by simp [go_sem]) ⟨_, rfl, hJ, fun _ _ => rfl, fun _ _ _ h => h⟩
                        | 18, _ =>
                          cases ho
                          have eg := (hI.slot 13 235 rfl (hpre ⟨13, .guard⟩ (by simp) rfl) rfl)
                          by_cases hg : (((str p.1).toList == (str e0.1).toList)) = true
                          case neg =>
                            exact wpOp_off rfl (wantedOff (j := 13) (b := true) (b' := ((str p.1).toList == (str e0.1).toList)) rfl rfl rfl (by rw [hI.len]; show _ < 257; decide) eg hg) ⟨_, rfl, hJ, fun _ h => absurd h hg, fun _ _ _ h => h⟩
                          exact wpOp_load rfl (wantedOf (j := 13) (b := true) rfl rfl rfl (by rw [hI.len]; show _ < 257; decide) (eg.trans (congrArg Value.bool hg))) rfl ((hI.slot 17 239 rfl (hpre ⟨17, .data⟩ (by simp) rfl) rfl) hg) (load_c (Tryz.isAgg3 w') (show w'.cell? _ = _ from by rw [hJ]; exact kp1)) ⟨_, rfl, hJ, fun _ _ => rfl, fun _ _ _ h => h⟩
                        | 19, _ =>
                          cases ho
                          have eg := (hI.slot 13 235 rfl (hpre ⟨13, .guard⟩ (by simp) rfl) rfl)
                          by_cases hg : (((str p.1).toList == (str e0.1).toList)) = true
                          case neg =>
                            exact wpOp_off rfl (wantedOff (j := 13) (b := true) (b' := ((str p.1).toList == (str e0.1).toList)) rfl rfl rfl (by rw [hI.len]; show _ < 257; decide) eg hg) ⟨_, rfl, hJ, fun _ h => absurd h hg, fun _ _ _ h => h⟩
                          exact wpOp_move rfl (wantedOf (j := 13) (b := true) rfl rfl rfl (by rw [hI.len]; show _ < 257; decide) (eg.trans (congrArg Value.bool hg))) (.inl rfl) (hI.kept (t := 8) (by kernel_rfl)) ⟨_, rfl, hJ, fun _ _ => rfl, fun _ _ _ h => h⟩
                        | 20, _ =>
                          cases ho
                          have eg := (hI.slot 13 235 rfl (hpre ⟨13, .guard⟩ (by simp) rfl) rfl)
                          by_cases hg : (((str p.1).toList == (str e0.1).toList)) = true
                          case neg =>
                            exact wpOp_off rfl (wantedOff (j := 13) (b := true) (b' := ((str p.1).toList == (str e0.1).toList)) rfl rfl rfl (by rw [hI.len]; show _ < 257; decide) eg hg) ⟨_, rfl, hJ, fun _ h => absurd h hg, fun _ _ _ h => h⟩
                          exact wpOp_move rfl (wantedOf (j := 13) (b := true) rfl rfl rfl (by rw [hI.len]; show _ < 257; decide) (eg.trans (congrArg Value.bool hg))) (.inl rfl) (hI.kept (t := 25) (by kernel_rfl)) ⟨_, rfl, hJ, fun _ _ => rfl, fun _ _ _ h => h⟩
                        | 21, _ =>
                          cases ho
                          have eg := (hI.slot 13 235 rfl (hpre ⟨13, .guard⟩ (by simp) rfl) rfl)
                          by_cases hg : (((str p.1).toList == (str e0.1).toList)) = true
                          case neg =>
                            exact wpOp_off rfl (wantedOff (j := 13) (b := true) (b' := ((str p.1).toList == (str e0.1).toList)) rfl rfl rfl (by rw [hI.len]; show _ < 257; decide) eg hg) ⟨_, rfl, hJ, fun _ h => absurd h hg, fun _ _ _ h => h⟩
                          exact wpOp_index rfl (wantedOf (j := 13) (b := true) rfl rfl rfl (by rw [hI.len]; show _ < 257; decide) (eg.trans (congrArg Value.bool hg))) rfl ((hI.slot 19 241 rfl (hpre ⟨19, .data⟩ (by simp) rfl) rfl) hg) ((hI.slot 20 242 rfl (hpre ⟨20, .data⟩ (by simp) rfl) rfl) hg) (index_tds w' gx 0 xn cx j hjn) ⟨_, rfl, hJ, fun _ _ => rfl, fun _ _ _ h => h⟩
                        | 22, _ =>
                          cases ho
                          have eg := (hI.slot 13 235 rfl (hpre ⟨13, .guard⟩ (by simp) rfl) rfl)
                          by_cases hg : (((str p.1).toList == (str e0.1).toList)) = true
                          case neg =>
                            exact wpOp_off rfl (wantedOff (j := 13) (b := true) (b' := ((str p.1).toList == (str e0.1).toList)) rfl rfl rfl (by rw [hI.len]; show _ < 257; decide) eg hg) ⟨_, rfl, hJ, fun _ h => absurd h hg, fun _ _ _ h => h⟩
                          exact wpOp_load rfl (wantedOf (j := 13) (b := true) rfl rfl rfl (by rw [hI.len]; show _ < 257; decide) (eg.trans (congrArg Value.bool hg))) rfl ((hI.slot 21 243 rfl (hpre ⟨21, .data⟩ (by simp) rfl) rfl) hg) (load_c (Tryz.isAgg42 w') (show w'.cell? _ = _ from by rw [hJ]; exact kc)) ⟨_, rfl, hJ, fun _ _ => rfl, fun _ _ _ h => h⟩
                        | 23, _ =>
                          cases ho
                          have eg := (hI.slot 13 235 rfl (hpre ⟨13, .guard⟩ (by simp) rfl) rfl)
                          by_cases hg : (((str p.1).toList == (str e0.1).toList)) = true
                          case neg =>
                            exact wpOp_off rfl (wantedOff (j := 13) (b := true) (b' := ((str p.1).toList == (str e0.1).toList)) rfl rfl rfl (by rw [hI.len]; show _ < 257; decide) eg hg) ⟨_, rfl, hJ, fun _ h => absurd h hg, fun _ _ _ h => h⟩
                          exact wpOp_index rfl (wantedOf (j := 13) (b := true) rfl rfl rfl (by rw [hI.len]; show _ < 257; decide) (eg.trans (congrArg Value.bool hg))) rfl ((hI.slot 22 244 rfl (hpre ⟨22, .data⟩ (by simp) rfl) rfl) hg) rfl (index_td w' Bu 0 1 cu 0 (by decide)) ⟨_, rfl, hJ, fun _ _ => rfl, fun _ _ _ h => h⟩
                        | 24, _ =>
                          cases ho
                          have eg := (hI.slot 13 235 rfl (hpre ⟨13, .guard⟩ (by simp) rfl) rfl)
                          by_cases hg : (((str p.1).toList == (str e0.1).toList)) = true
                          case neg =>
                            exact wpOp_off rfl (wantedOff (j := 13) (b := true) (b' := ((str p.1).toList == (str e0.1).toList)) rfl rfl rfl (by rw [hI.len]; show _ < 257; decide) eg hg) ⟨_, rfl, hJ, fun _ h => absurd h hg, fun _ _ _ h => h⟩
                          exact wpOp_field rfl (wantedOf (j := 13) (b := true) rfl rfl rfl (by rw [hI.len]; show _ < 257; decide) (eg.trans (congrArg Value.bool hg))) rfl ((hI.slot 23 245 rfl (hpre ⟨23, .data⟩ (by simp) rfl) rfl) hg) (by simp [go_sem]) ⟨_, rfl, hJ, fun _ _ => rfl, fun _ _ _ h => h⟩
                        | 25, _ =>
                          cases ho
                          have eg := (hI.slot 13 235 rfl (hpre ⟨13, .guard⟩ (by simp) rfl) rfl)
                          by_cases hg : (((str p.1).toList == (str e0.1).toList)) = true
                          case neg =>
                            exact wpOp_off rfl (wantedOff (j := 13) (b := true) (b' := ((str p.1).toList == (str e0.1).toList)) rfl rfl rfl (by rw [hI.len]; show _ < 257; decide) eg hg) ⟨_, rfl, hJ, fun _ h => absurd h hg, fun _ _ _ h => h⟩
                          exact wpOp_load rfl (wantedOf (j := 13) (b := true) rfl rfl rfl (by rw [hI.len]; show _ < 257; decide) (eg.trans (congrArg Value.bool hg))) rfl ((hI.slot 24 246 rfl (hpre ⟨24, .data⟩ (by simp) rfl) rfl) hg) (load_c (Tryz.isAgg3 w') (show w'.cell? _ = _ from by rw [hJ]; exact ku1)) ⟨_, rfl, hJ, fun _ _ => rfl, fun _ _ _ h => h⟩
                        | 26, _ =>
                          cases ho
                          have eg := (hI.slot 13 235 rfl (hpre ⟨13, .guard⟩ (by simp) rfl) rfl)
                          by_cases hg : (((str p.1).toList == (str e0.1).toList)) = true
                          case neg =>
                            exact wpOp_off rfl (wantedOff (j := 13) (b := true) (b' := ((str p.1).toList == (str e0.1).toList)) rfl rfl rfl (by rw [hI.len]; show _ < 257; decide) eg hg) ⟨_, rfl, hJ, fun _ h => absurd h hg, fun _ _ _ h => h⟩
                          exact wpOp_bin rfl (wantedOf (j := 13) (b := true) rfl rfl rfl (by rw [hI.len]; show _ < 257; decide) (eg.trans (congrArg Value.bool hg))) rfl ((hI.slot 18 240 rfl (hpre ⟨18, .data⟩ (by simp) rfl) rfl) hg) ((hI.slot 25 247 rfl (hpre ⟨25, .data⟩ (by simp) rfl) rfl) hg) (by simp [go_sem]) (by simp [go_sem]) ⟨_, rfl, hJ, fun _ _ => rfl, fun _ _ _ h => h⟩
                        | 27, _ =>
                          cases ho
                          exact wpOp_pick3 (v := .bool ((decide ((e0.2 : Int) ≤ (p.2 : Int))))) (u := .bool false) rfl rfl rfl (hI.slot 13 235 rfl (hpre ⟨13, .data⟩ (by simp) rfl) rfl) (fun h => ((hI.slot 26 248 rfl (hpre ⟨26, .data⟩ (by simp) rfl) rfl) h)) (fun h => rfl) ⟨_, rfl, hJ, fun _ => pick_and (((str p.1).toList == (str e0.1).toList)) ((decide ((e0.2 : Int) ≤ (p.2 : Int)))), fun _ _ _ h => h⟩
                        | 28, _ =>
                          cases ho
                          exact wpOp_move rfl rfl (.inr rfl) (hI.slot 27 249 rfl (hpre ⟨27, .data⟩ (by simp) rfl) rfl) ⟨_, rfl, hJ, fun _ => rfl, fun _ _ _ h => h⟩
                      case fin =>
                        intro listed a w' hI hall
                        have hJ := hI.inv
                        have eS26 : a.tmps.getD 26 undef = .bool (((str p.1).toList == (str e0.1).toList) && (decide ((e0.2 : Int) ≤ (p.2 : Int)))) := hI.slot 28 26 rfl (hall 28 (by decide)) rfl
                        obtain ⟨vs, us, hvl, hul, hvs, hus, e⟩ := hI.frame2 26 1 222 28 (by decide) (Nat.le_of_ble_eq_true (by kernel_rfl)) (by kernel_rfl)
                        have vS26 := hvs 0 (by decide)
                        clear hI hall hvs hus
                        match vs, us, hvl, hul with
                        | [x0], [y0, y1, y2, y3, y4, y5, y6, y7, y8, y9, y10, y11, y12, y13, y14, y15, y16, y17, y18, y19, y20, y21, y22, y23, y24, y25, y26, y27], _, _ =>
                        simp only [List.getElem?_cons_zero, Option.some.injEq] at vS26
                        rw [show 26 + 0 = 26 from rfl, eS26] at vS26
                        subst vS26
                        simp only [List.take_succ_cons, List.take_zero, List.drop_succ_cons, List.drop_zero, List.cons_append, List.nil_append, Nat.reduceAdd, Nat.reduceSub] at e
                        subst e
                        clear eS26
                        subst hJ
                        clear kp0 kp1 kc ku0 ku1
                        go_wp2
                        exact ⟨⟨k + 1, ((str p.1).toList == (str e0.1).toList) && decide ((e0.2 : Int) ≤ (p.2 : Int)), rfl, hkn, rfl, HBk.out.drew, fun hf m q hm hq hh => by
                          rcases Nat.lt_or_ge m k with hmk | hmk
                          · exact HNo.out trivial m q hmk hq hh
                          · have e : m = k := by omega
                            rw [e, hp] at hq
                            cases hq
                            have h2 : (e0.2 : Int) ≤ (p.2 : Int) := by have := hh.2; omega
                            rw [str_eq, decide_eq_true hh.1, decide_eq_true h2] at hf
                            cases hf⟩, by show tn - ((k : Int) + 1).toNat < tn - (k : Int).toNat; omega⟩
        case inl =>
        have hlt : (i : Int) < (n : Int) := by omega
        have hwi : IntKind.i64.wrap ((i : Int) + 1) = (i : Int) + 1 := by rw [IntKind.wrap_i64]; omega
        obtain ⟨x, hx⟩ : ∃ x, L[i]? = some x := ⟨_, List.getElem?_eq_getElem (by omega)⟩
        have hxs : shortE x = true := List.all_eq_true.1 HS.out.2 x (List.mem_of_getElem? hx)
        obtain ⟨hxf, hxc⟩ := short_le hxs
        have hset : setE (setsE L i) x = setsE L (i + 1) := (setsE_succ hx).symm
        obtain ⟨hri, hli⟩ := setsE_all L (by omega) i (by omega)
        have ea : (setP (setsE L i) x.f.data.toList x.c.data.toList x.q).2.2 = subE x.f.data.toList x.c.data.toList x.q := setP_err (by omega)
        have eb : (setP [] x.f.data.toList x.c.data.toList x.q).2.2 = subE x.f.data.toList x.c.data.toList x.q := setP_err (by decide)
        obtain ⟨B, o, rfl, hBsz, -, -, -⟩ := HA.out i x hx
        have hcell : ∀ W, Below w.heap.size w W → W.cell? ⟨B, o + i * 3, none⟩ = some (.string x.f) ∧ W.cell? ⟨B, o + i * 3 + 1, none⟩ = some (.string x.c) ∧ W.cell? ⟨B, o + i * 3 + 2, none⟩ = some (.int .i64 x.q) := fun W hW => by
          obtain ⟨B2, o2, e2, -, k0, k1, k2⟩ := (HA.out.below hW) i x hx
          cases e2
          exact ⟨k0, k1, k2⟩
        have HC := Lib.hid hcell
        have HR := Lib.hid (And.intro hFr (And.intro hOn (And.intro hXl hall)))
        clear hcell hFr hOn hXl hall
        have hixa := fun W : World => index_en W B o n cap i hin
        go_wp2_with fail
        refine (new_any wr).mono ?_
        rintro e w5 ⟨BkB, tB0, rfl, hB0, hn0, hb0⟩
        obtain ⟨hFr, hOn, hXl, hall⟩ := HR.out
        have FA := hFr.below hb0
        have FB : Fresh w BkB [] tB0 w5 := Fresh.mk hB0 (fun k hk => Nat.le_trans hFr.low.size (hn0 k hk)) FA.low
        have AS : Aside2 BkA tA BkB tB0 := aside_new hFr hn0
        have O5 : OnesAt w5 w.heap.size (fun k => BkF BkA tA k ∨ BkF BkB tB0 k) _ X := hOn.step (fun k hk _ => hb0.block k hk) fun k hk => hk.elim .inl fun h => .inr (hn0 k h)
        obtain ⟨c50, c51, c52⟩ := HC.out w5 FA.low
        have H5 := Lib.hid (And.intro FA (And.intro FB (And.intro AS O5)))
        clear hFr hOn FA FB AS O5 hB0 hn0 hb0
        go_wp2_with fail
        obtain ⟨FA, FB, AS, O5⟩ := H5.out
        refine (set_aside FB FA AS.symm HT.out x hxf hxc).mono ?_
        rintro e w6 ⟨rfl, tB1, FB1, FA1, AS1, hk1, hf1, hz1⟩
        have O6 := O5.step (N' := fun k => BkF BkA tA k ∨ BkF BkB tB1 k) (fun k hk hn => hk1 k hk fun h => hn (.inr h)) fun k hk => hk.elim (fun h => .inl (.inl h)) fun h => (hf1 k h).elim (fun h => .inl (.inr h)) .inr
        obtain ⟨c60, c61, c62⟩ := HC.out w6 FA1.low
        have H6 := Lib.hid (And.intro FA1 (And.intro FB1 (And.intro AS1 O6)))
        clear FA FB AS O5 FA1 FB1 AS1 O6 hk1 hf1 hz1 H5 c50 c51 c52
        go_wp2_with fail
        obtain ⟨FA, FB, AS, O5⟩ := H6.out
        refine (set_aside FA FB AS.symm HT.out x hxf hxc).mono ?_
        rintro e w7 ⟨rfl, tA1, FA1, FB1, AS1, hk1, hf1, hz1⟩
        have O7 := O5.step (N' := fun k => BkF BkA tA1 k ∨ BkF BkB tB1 k) (fun k hk hn => hk1 k hk fun h => hn (.inl h)) fun k hk => hk.elim (fun h => (hf1 k h).elim (fun h => .inl (.inl h)) .inr) fun h => .inl (.inr h)
        rw [hset] at FA1
        have H7 := Lib.hid (And.intro FA1 (And.intro FB1 (And.intro AS1 O7)))
        clear FA FB AS O5 FA1 FB1 AS1 O7 hk1 hf1 hz1 H6 c60 c61 c62
        go_wp2_with fail
        obtain ⟨FA, FB, AS, O7⟩ := H7.out
        refine (meets_aside FB HT.out name (by omega) hN).mono ?_
        rintro e w8 ⟨v8, ks, Mp, rfl, hks, hmp, hGr, hTd, hb8⟩
        obtain ⟨x0, x1, x2⟩ := HC.out w8 (FB.below hb8).low
        have H8 := Lib.hid (And.intro (FA.below hb8) (And.intro (FB.below hb8) (And.intro AS (And.intro (O7.below hb8) (And.intro (show ∀ k, BkF BkA tA1 k → k < w7.heap.size from fun k hk => FA.book.lt hk) (And.intro (show ∀ k, BkF BkB tB1 k → k < w7.heap.size from fun k hk => FB.book.lt hk) FB.low.size))))))
        clear FA FB AS O7 H7
        by_cases hok : okE x
        case neg =>
          rw [setE_no hok] at hGr
          rw [told_nil hmp hGr] at hTd
          obtain ⟨at8, ct8, rfl⟩ := ownTd_slice hTd
          have hne : subE x.f.data.toList x.c.data.toList x.q ≠ 0 := hok
          obtain ⟨se, hse⟩ : ∃ se, subE x.f.data.toList x.c.data.toList x.q = se := ⟨_, rfl⟩
          rw [hse] at ea eb hne
          have hne2 : ¬ ((se : Nat) : Int) = 0 := by omega
          have hnx : setE (setsE L i) x = setsE L i := setE_no hok
          have HD := Lib.hid (And.intro hall (And.intro hXl (hset.symm.trans hnx)))
          clear hGr hTd hks hmp hb8 hall hXl hset hnx hok
          go_wp2
          obtain ⟨FA, FB, AS, O8, hltA, hltB, hsz⟩ := H8.out
          obtain ⟨hall, hXl, -⟩ := HD.out
          exact ⟨⟨i + 1, tA1, X, rfl, hin, FA, O8.move (N' := BkF BkA tA1) (fun k hk => .inl (.inl hk)), by omega, fun x hx => (hall x hx).mono (by omega)⟩, by show n - ((i : Int) + 1).toNat < n - (i : Int).toNat; omega⟩
        case pos =>
          rw [setE_nil_ok hok] at hGr
          rw [told_single hks hmp hGr] at hTd
          have hRM := rmeets_ok x hok name (by omega) hN w8
          have es : subE x.f.data.toList x.c.data.toList x.q = 0 := hok
          rw [es] at ea eb
          have e2 : meetsL (enS x).f name.data.toList = meetsL x.f.data.toList name.data.toList := rfl
          rw [e2] at hTd
          obtain ⟨mt, hmt⟩ : ∃ mt, meetsL x.f.data.toList name.data.toList = mt := ⟨_, rfl⟩
          rw [hmt] at hTd hRM
          have HRM := Lib.hid hRM
          have HD := Lib.hid (And.intro hall (And.intro hXl (And.intro hset hok)))
          have hq := Lib.hid (okE_q hok)
          clear hGr hks hmp hall hXl hset hok hRM e2 
          cases mt
          case false =>
            have hTd : OwnTd w8 w7.heap.size v8 [] := hTd
            obtain ⟨at8, ct8, rfl⟩ : ∃ a c, v8 = .slice a 0 c := ownTd_slice hTd
            have HTd := Lib.hid (And.intro hTd (And.intro hb8 hmt))
            clear hTd hb8 hmt
            go_wp2_with (go_at_call 28; refine HRM.out.mono ?_; rintro e w9 ⟨rfl, hb9⟩; have HB9 := Lib.hid hb9; clear hb9)
            refine wp_region_m (fun _ W => W = w9.drew) (R23F at8 ct8) (by kernel_rfl) (by kernel_rfl) (by kernel_rfl) (by kernel_rfl) rfl ?step ?fin
            case step =>
              intro i o ho listed a w' hI hn' hpre
              have hJ := hI.inv
              have hi : i < 30 := (Array.getElem?_eq_some_iff.1 ho).1
              match i, hi with
              | 0, _ =>
                cases ho
                exact wpOp_move rfl rfl (.inl rfl) (hI.kept (t := 15) (by kernel_rfl)) ⟨_, rfl, hJ, fun _ => rfl, fun _ _ _ h => h⟩
              | 1, _ =>
                cases ho
                exact wpOp_lenTd rfl rfl rfl (hI.slot 0 107 rfl (hpre ⟨0, .data⟩ (by simp) rfl) rfl) ⟨_, rfl, hJ, fun _ => rfl, fun _ _ _ h => h⟩
              | 2, _ =>
                cases ho
                exact wpOp_bin rfl rfl rfl (hI.slot 1 108 rfl (hpre ⟨1, .data⟩ (by simp) rfl) rfl) rfl (by simp [go_sem]) (by simp [go_sem]) ⟨_, rfl, hJ, fun _ => rfl, fun _ _ _ h => h⟩
              | 3, _ =>
                cases ho
                exact wpOp_move rfl rfl (.inl rfl) (hI.kept (t := 17) (by kernel_rfl)) ⟨_, rfl, hJ, fun _ => rfl, fun _ _ _ h => h⟩
              | 4, _ =>
                cases ho
                exact wpOp_bin rfl rfl rfl (hI.slot 2 109 rfl (hpre ⟨2, .data⟩ (by simp) rfl) rfl) (hI.slot 3 110 rfl (hpre ⟨3, .data⟩ (by simp) rfl) rfl) (by simp [go_sem]) (by simp [go_sem]) ⟨_, rfl, hJ, fun _ => rfl, fun _ _ _ h => h⟩
              | 5, _ =>
                cases ho
                exact wpOp_move rfl rfl (.inl rfl) (hI.slot 4 111 rfl (hpre ⟨4, .data⟩ (by simp) rfl) rfl) ⟨_, rfl, hJ, fun _ => rfl, fun _ _ _ h => h⟩
              | 6, _ =>
                cases ho
                exact wpOp_move rfl (wantedOf (j := 5) (b := false) rfl rfl rfl (by rw [hI.len]; show _ < 257; decide) (hI.slot 5 112 rfl (hpre ⟨5, .guard⟩ (by simp) rfl) rfl)) (.inl rfl) (hI.kept (t := 15) (by kernel_rfl)) ⟨_, rfl, hJ, fun _ => rfl, fun _ _ _ h => h⟩
              | 7, _ =>
                cases ho
                exact wpOp_lenTd rfl (wantedOf (j := 5) (b := false) rfl rfl rfl (by rw [hI.len]; show _ < 257; decide) (hI.slot 5 112 rfl (hpre ⟨5, .guard⟩ (by simp) rfl) rfl)) rfl (hI.slot 6 113 rfl (hpre ⟨6, .data⟩ (by simp) rfl) rfl) ⟨_, rfl, hJ, fun _ => rfl, fun _ _ _ h => h⟩
              | 8, _ =>
                cases ho
                exact wpOp_bin rfl (wantedOf (j := 5) (b := false) rfl rfl rfl (by rw [hI.len]; show _ < 257; decide) (hI.slot 5 112 rfl (hpre ⟨5, .guard⟩ (by simp) rfl) rfl)) rfl (hI.slot 7 114 rfl (hpre ⟨7, .data⟩ (by simp) rfl) rfl) rfl (by simp [go_sem]) (by simp [go_sem]) ⟨_, rfl, hJ, fun _ => rfl, fun _ _ _ h => h⟩
              | 9, _ =>
                cases ho
                exact wpOp_pick2 (v := undef) (u := (.bool false)) rfl rfl rfl (hI.slot 5 112 rfl (hpre ⟨5, .data⟩ (by simp) rfl) rfl) (fun h => by cases h) (fun _ => (hI.slot 8 115 rfl (hpre ⟨8, .data⟩ (by simp) rfl) rfl)) ⟨_, rfl, hJ, fun _ => rfl, fun _ _ _ h => h⟩
              | 10, _ =>
                cases ho
                exact wpOp_move rfl rfl (.inl rfl) (hI.slot 9 116 rfl (hpre ⟨9, .data⟩ (by simp) rfl) rfl) ⟨_, rfl, hJ, fun _ => rfl, fun _ _ _ h => h⟩
              | 11, _ =>
                cases ho
                exact wpOp_move rfl (wantedOf (j := 10) (b := false) rfl rfl rfl (by rw [hI.len]; show _ < 257; decide) (hI.slot 10 117 rfl (hpre ⟨10, .guard⟩ (by simp) rfl) rfl)) (.inl rfl) (hI.kept (t := 17) (by kernel_rfl)) ⟨_, rfl, hJ, fun _ => rfl, fun _ _ _ h => h⟩
              | 12, _ =>
                cases ho
                exact wpOp_move rfl (wantedOf (j := 10) (b := false) rfl rfl rfl (by rw [hI.len]; show _ < 257; decide) (hI.slot 10 117 rfl (hpre ⟨10, .chain⟩ (by simp) rfl) rfl)) (.inl rfl) (hI.slot 11 118 rfl (hpre ⟨11, .data⟩ (by simp) rfl) rfl) ⟨_, rfl, hJ, fun _ => rfl, fun _ _ _ h => h⟩
              | 13, _ =>
                cases ho
                exact wpOp_off rfl (wantedOff (j := 12) (b := true) (b' := false) rfl rfl rfl (by rw [hI.len]; show _ < 257; decide) (hI.slot 12 119 rfl (hpre ⟨12, .guard⟩ (by simp) rfl) rfl) (by decide)) ⟨_, rfl, hJ, fun _ => rfl, fun _ _ _ h => h⟩
              | 14, _ =>
                cases ho
                exact wpOp_off rfl (wantedOff (j := 12) (b := true) (b' := false) rfl rfl rfl (by rw [hI.len]; show _ < 257; decide) (hI.slot 12 119 rfl (hpre ⟨12, .guard⟩ (by simp) rfl) rfl) (by decide)) ⟨_, rfl, hJ, fun _ => rfl, fun _ _ _ h => h⟩
              | 15, _ =>
                cases ho
                exact wpOp_off rfl (wantedOff (j := 12) (b := true) (b' := false) rfl rfl rfl (by rw [hI.len]; show _ < 257; decide) (hI.slot 12 119 rfl (hpre ⟨12, .guard⟩ (by simp) rfl) rfl) (by decide)) ⟨_, rfl, hJ, fun _ => rfl, fun _ _ _ h => h⟩
              | 16, _ =>
                cases ho
                exact wpOp_off rfl (wantedOff (j := 12) (b := true) (b' := false) rfl rfl rfl (by rw [hI.len]; show _ < 257; decide) (hI.slot 12 119 rfl (hpre ⟨12, .guard⟩ (by simp) rfl) rfl) (by decide)) ⟨_, rfl, hJ, fun _ => rfl, fun _ _ _ h => h⟩
              | 17, _ =>
                cases ho
                exact wpOp_off rfl (wantedOff (j := 12) (b := true) (b' := false) rfl rfl rfl (by rw [hI.len]; show _ < 257; decide) (hI.slot 12 119 rfl (hpre ⟨12, .guard⟩ (by simp) rfl) rfl) (by decide)) ⟨_, rfl, hJ, fun _ => rfl, fun _ _ _ h => h⟩
              | 18, _ =>
                cases ho
                exact wpOp_off rfl (wantedOff (j := 12) (b := true) (b' := false) rfl rfl rfl (by rw [hI.len]; show _ < 257; decide) (hI.slot 12 119 rfl (hpre ⟨12, .guard⟩ (by simp) rfl) rfl) (by decide)) ⟨_, rfl, hJ, fun _ => rfl, fun _ _ _ h => h⟩
              | 19, _ =>
                cases ho
                exact wpOp_off rfl (wantedOff (j := 12) (b := true) (b' := false) rfl rfl rfl (by rw [hI.len]; show _ < 257; decide) (hI.slot 12 119 rfl (hpre ⟨12, .guard⟩ (by simp) rfl) rfl) (by decide)) ⟨_, rfl, hJ, fun _ => rfl, fun _ _ _ h => h⟩
              | 20, _ =>
                cases ho
                exact wpOp_off rfl (wantedOff (j := 12) (b := true) (b' := false) rfl rfl rfl (by rw [hI.len]; show _ < 257; decide) (hI.slot 12 119 rfl (hpre ⟨12, .guard⟩ (by simp) rfl) rfl) (by decide)) ⟨_, rfl, hJ, fun _ => rfl, fun _ _ _ h => h⟩
              | 21, _ =>
                cases ho
                exact wpOp_off rfl (wantedOff (j := 12) (b := true) (b' := false) rfl rfl rfl (by rw [hI.len]; show _ < 257; decide) (hI.slot 12 119 rfl (hpre ⟨12, .guard⟩ (by simp) rfl) rfl) (by decide)) ⟨_, rfl, hJ, fun _ => rfl, fun _ _ _ h => h⟩
              | 22, _ =>
                cases ho
                exact wpOp_off rfl (wantedOff (j := 12) (b := true) (b' := false) rfl rfl rfl (by rw [hI.len]; show _ < 257; decide) (hI.slot 12 119 rfl (hpre ⟨12, .guard⟩ (by simp) rfl) rfl) (by decide)) ⟨_, rfl, hJ, fun _ => rfl, fun _ _ _ h => h⟩
              | 23, _ =>
                cases ho
                exact wpOp_off rfl (wantedOff (j := 12) (b := true) (b' := false) rfl rfl rfl (by rw [hI.len]; show _ < 257; decide) (hI.slot 12 119 rfl (hpre ⟨12, .guard⟩ (by simp) rfl) rfl) (by decide)) ⟨_, rfl, hJ, fun _ => rfl, fun _ _ _ h => h⟩
              | 24, _ =>
                cases ho
                exact wpOp_off rfl (wantedOff (j := 12) (b := true) (b' := false) rfl rfl rfl (by rw [hI.len]; show _ < 257; decide) (hI.slot 12 119 rfl (hpre ⟨12, .guard⟩ (by simp) rfl) rfl) (by decide)) ⟨_, rfl, hJ, fun _ => rfl, fun _ _ _ h => h⟩
              | 25, _ =>
                cases ho
                exact wpOp_off rfl (wantedOff (j := 12) (b := true) (b' := false) rfl rfl rfl (by rw [hI.len]; show _ < 257; decide) (hI.slot 12 119 rfl (hpre ⟨12, .guard⟩ (by simp) rfl) rfl) (by decide)) ⟨_, rfl, hJ, fun _ => rfl, fun _ _ _ h => h⟩
              | 26, _ =>
                cases ho
                exact wpOp_off rfl (wantedOff (j := 12) (b := true) (b' := false) rfl rfl rfl (by rw [hI.len]; show _ < 257; decide) (hI.slot 12 119 rfl (hpre ⟨12, .guard⟩ (by simp) rfl) rfl) (by decide)) ⟨_, rfl, hJ, fun _ => rfl, fun _ _ _ h => h⟩
              | 27, _ =>
                cases ho
                exact wpOp_off rfl (wantedOff (j := 12) (b := true) (b' := false) rfl rfl rfl (by rw [hI.len]; show _ < 257; decide) (hI.slot 12 119 rfl (hpre ⟨12, .guard⟩ (by simp) rfl) rfl) (by decide)) ⟨_, rfl, hJ, fun _ => rfl, fun _ _ _ h => h⟩
              | 28, _ =>
                cases ho
                exact wpOp_pick2 (v := undef) (u := (.bool false)) rfl (wantedOf (j := 10) (b := false) rfl rfl rfl (by rw [hI.len]; show _ < 257; decide) (hI.slot 10 117 rfl (hpre ⟨10, .guard⟩ (by simp) rfl) rfl)) rfl (hI.slot 12 119 rfl (hpre ⟨12, .data⟩ (by simp) rfl) rfl) (fun h => by cases h) (fun _ => rfl) ⟨_, rfl, hJ, fun _ => rfl, fun _ _ _ h => h⟩
              | 29, _ =>
                cases ho
                exact wpOp_pick2 (v := undef) (u := (.bool false)) rfl rfl rfl (hI.slot 10 117 rfl (hpre ⟨10, .data⟩ (by simp) rfl) rfl) (fun h => by cases h) (fun _ => (hI.slot 28 135 rfl (hpre ⟨28, .data⟩ (by simp) rfl) rfl)) ⟨_, rfl, hJ, fun _ => rfl, fun _ _ _ h => h⟩
            case fin =>
              intro listed a w' hI hall
              have hJ := hI.inv
              have eS136 : a.tmps.getD 136 undef = .bool false := hI.slot 29 136 rfl (hall 29 (by decide)) rfl
              obtain ⟨vs, hvl, hvs, e⟩ := hI.frame 107 30 (Nat.le_of_ble_eq_true (by kernel_rfl)) (by kernel_rfl)
              have vS136 := hvs 29 (by decide)
              clear hI hall hvs
              match vs, hvl with
              | [x0, x1, x2, x3, x4, x5, x6, x7, x8, x9, x10, x11, x12, x13, x14, x15, x16, x17, x18, x19, x20, x21, x22, x23, x24, x25, x26, x27, x28, x29], _ =>
              simp only [List.getElem?_cons_zero, List.getElem?_cons_succ, Option.some.injEq] at vS136
              rw [show 107 + 29 = 136 from rfl, eS136] at vS136
              subst vS136
              simp only [List.take_succ_cons, List.take_zero, List.drop_succ_cons, List.drop_zero, List.cons_append, List.nil_append, Nat.reduceAdd] at e
              subst e
              clear eS136
              subst hJ
              go_wp2
              go_loopw [18, 19, 20, 21, 22, 139, 140, 141, 142, 143, 144, 145, 146, 147, 148, 149, 150, 151, 152, 153, 154, 155, 156, 157, 158, 159, 160, 161, 162, 163, 164, 165, 166, 167, 168, 169, 170, 171, 172, 173, 174, 175, 176, 177, 178, 179, 180, 181, 182, 183, 184, 185, 186, 187, 188] (fun xl xk _ _ _ _ _ _ _ _ _ _ _ _ _ _ _ _ _ _ _ _ _ _ _ _ _ _ _ _ _ _ _ _ _ _ _ _ _ _ _ _ _ _ _ _ _ _ _ _ _ _ _ _ _ wr => ∃ k : Nat, xk = .int .i64 (k : Int) ∧ i < k ∧ k ≤ n ∧ xl = .bool (lastB L x i k) ∧ Below w8.heap.size w8 wr) (fun _ xk _ _ _ _ _ _ _ _ _ _ _ _ _ _ _ _ _ _ _ _ _ _ _ _ _ _ _ _ _ _ _ _ _ _ _ _ _ _ _ _ _ _ _ _ _ _ _ _ _ _ _ _ _ _ => n - (intOf xk).toNat)
              case atStart => exact ⟨i + 1, rfl, Nat.lt_succ_self i, hin, by rw [lastB_zero], HB9.out.drew⟩
              case round =>
                obtain ⟨k, rfl, hik, hk, rfl, hbk⟩ := hrel
                obtain ⟨FA, FB, AS, O8, hltA, hltB, hsz⟩ := H8.out
                have hlow := FA.low.trans (hbk.mono FA.low.size)
                obtain ⟨lb, hlb⟩ : ∃ lb, lastB L x i k = lb := ⟨_, rfl⟩
                rw [hlb]
                rcases Nat.lt_or_ge k n with hkn | hkn
                case inl =>
                  have hlt : (k : Int) < (n : Int) := by omega
                  have hwi : IntKind.i64.wrap ((k : Int) + 1) = (k : Int) + 1 := by rw [IntKind.wrap_i64]; omega
                  obtain ⟨y, hy⟩ : ∃ y, L[k]? = some y := ⟨_, List.getElem?_eq_getElem (by omega)⟩
                  have hys : shortE y = true := List.all_eq_true.1 HS.out.2 y (List.mem_of_getElem? hy)
                  obtain ⟨hyf, hyc⟩ := short_le hys
                  obtain ⟨B2, o2, e2, -, ky0, ky1, ky2⟩ := (HA.out.below hlow) k y hy
                  cases e2
                  obtain ⟨kx0, kx1, -⟩ := HC.out wr hlow
                  have hRS := Lib.hid (rset_nil y hyf hyc wr)
                  have HBk := Lib.hid hbk
                  have HX := Lib.hid (And.intro kx0 (And.intro kx1 (And.intro ky0 (And.intro ky1 hlow))))
                  have hixk := fun W : World => index_en W B o n cap k hkn
                  clear FA FB AS O8 hltA hltB hsz hlow hbk kx0 kx1 hys hyf hyc
                  go_wp2_with (go_at_call 29; refine hRS.out.mono ?_; rintro e w10 ⟨v10, m, rfl, hm, hb10⟩; obtain ⟨is, his⟩ : ∃ is, decide (m = 0) = is := ⟨_, rfl⟩; rw [his]; have HM := Lib.hid (And.intro hm (And.intro his hb10)); clear hm his hb10)
                  obtain ⟨hm, his, hb10⟩ := HM.out
                  clear ky0 ky1 ky2
                  obtain ⟨kx0, kx1, ky0, ky1, hlow⟩ := HX.out
                  have kx0 : w10.cell? ⟨B, o + i * 3, none⟩ = some (.string x.f) := (hb10.cell (p := ⟨B, o + i * 3, none⟩) (Nat.lt_of_lt_of_le hBsz hlow.size)).trans kx0
                  have kx1 : w10.cell? ⟨B, o + i * 3 + 1, none⟩ = some (.string x.c) := (hb10.cell (p := ⟨B, o + i * 3 + 1, none⟩) (Nat.lt_of_lt_of_le hBsz hlow.size)).trans kx1
                  have ky0 : w10.cell? ⟨B, o + k * 3, none⟩ = some (.string y.f) := (hb10.cell (p := ⟨B, o + k * 3, none⟩) (Nat.lt_of_lt_of_le hBsz hlow.size)).trans ky0
                  have ky1 : w10.cell? ⟨B, o + k * 3 + 1, none⟩ = some (.string y.c) := (hb10.cell (p := ⟨B, o + k * 3 + 1, none⟩) (Nat.lt_of_lt_of_le hBsz hlow.size)).trans ky1
                  have HZ := Lib.hid (HBk.out.trans (hb10.mono HBk.out.size)).drew
                  clear hb10 HM HX hlow
                  cases lb
                  case false =>
                    refine wp_region_n (fun _ W => W = w10.drew) (R30A) (by kernel_rfl) (by kernel_rfl) (by kernel_rfl) (by kernel_rfl) rfl ?step ?fin
                    case step =>
                      intro i o ho listed a w' hIn hn' hpre
                      have hI := hIn.toL
                      have hJ := hI.inv
                      have hi : i < 36 := (Array.getElem?_eq_some_iff.1 ho).1
                      match i, hi with
                      | 0, _ =>
                        cases ho
                        exact wpOp_move rfl rfl (.inl rfl) (hIn.later 35 (t := 18) (by kernel_rfl) (hI.notyet hn' 35 (by kernel_rfl))) ⟨_, rfl, hJ, fun _ => rfl, fun _ _ _ h => h⟩
                      | 1, _ =>
                        cases ho
                        exact wpOp_move rfl rfl (.inl rfl) (hI.slot 0 154 rfl (hpre ⟨0, .data⟩ (by simp) rfl) rfl) ⟨_, rfl, hJ, fun _ => rfl, fun _ _ _ h => h⟩
                      | 2, _ =>
                        cases ho
                        exact wpOp_off rfl (wantedOff (j := 1) (b := true) (b' := false) rfl rfl rfl (by rw [hI.len]; show _ < 257; decide) (hI.slot 1 155 rfl (hpre ⟨1, .guard⟩ (by simp) rfl) rfl) (by decide)) ⟨_, rfl, hJ, fun _ => rfl, fun _ _ _ h => h⟩
                      | 3, _ =>
                        cases ho
                        exact wpOp_off rfl (wantedOff (j := 1) (b := true) (b' := false) rfl rfl rfl (by rw [hI.len]; show _ < 257; decide) (hI.slot 1 155 rfl (hpre ⟨1, .chain⟩ (by simp) rfl) rfl) (by decide)) ⟨_, rfl, hJ, fun _ => rfl, fun _ _ _ h => h⟩
                      | 4, _ =>
                        cases ho
                        exact wpOp_off rfl (wantedOffU (j := 3) (b := true) rfl rfl rfl (by rw [hI.len]; show _ < 257; decide) (hI.slot 3 157 rfl (hpre ⟨3, .guard⟩ (by simp) rfl) rfl)) ⟨_, rfl, hJ, fun _ => rfl, fun _ _ _ h => h⟩
                      | 5, _ =>
                        cases ho
                        exact wpOp_off rfl (wantedOffU (j := 3) (b := true) rfl rfl rfl (by rw [hI.len]; show _ < 257; decide) (hI.slot 3 157 rfl (hpre ⟨3, .guard⟩ (by simp) rfl) rfl)) ⟨_, rfl, hJ, fun _ => rfl, fun _ _ _ h => h⟩
                      | 6, _ =>
                        cases ho
                        exact wpOp_off rfl (wantedOff (j := 1) (b := true) (b' := false) rfl rfl rfl (by rw [hI.len]; show _ < 257; decide) (hI.slot 1 155 rfl (hpre ⟨1, .guard⟩ (by simp) rfl) rfl) (by decide)) ⟨_, rfl, hJ, fun _ => rfl, fun _ _ _ h => h⟩
                      | 7, _ =>
                        cases ho
                        exact wpOp_off rfl (wantedOff (j := 1) (b := true) (b' := false) rfl rfl rfl (by rw [hI.len]; show _ < 257; decide) (hI.slot 1 155 rfl (hpre ⟨1, .guard⟩ (by simp) rfl) rfl) (by decide)) ⟨_, rfl, hJ, fun _ => rfl, fun _ _ _ h => h⟩
                      | 8, _ =>
                        cases ho
                        exact wpOp_off rfl (wantedOffU (j := 7) (b := true) rfl rfl rfl (by rw [hI.len]; show _ < 257; decide) (hI.slot 7 161 rfl (hpre ⟨7, .guard⟩ (by simp) rfl) rfl)) ⟨_, rfl, hJ, fun _ => rfl, fun _ _ _ h => h⟩
                      | 9, _ =>
                        cases ho
                        exact wpOp_off rfl (wantedOffU (j := 7) (b := true) rfl rfl rfl (by rw [hI.len]; show _ < 257; decide) (hI.slot 7 161 rfl (hpre ⟨7, .guard⟩ (by simp) rfl) rfl)) ⟨_, rfl, hJ, fun _ => rfl, fun _ _ _ h => h⟩
                      | 10, _ =>
                        cases ho
                        exact wpOp_off rfl (wantedOffU (j := 7) (b := true) rfl rfl rfl (by rw [hI.len]; show _ < 257; decide) (hI.slot 7 161 rfl (hpre ⟨7, .guard⟩ (by simp) rfl) rfl)) ⟨_, rfl, hJ, fun _ => rfl, fun _ _ _ h => h⟩
                      | 11, _ =>
                        cases ho
                        exact wpOp_off rfl (wantedOffU (j := 7) (b := true) rfl rfl rfl (by rw [hI.len]; show _ < 257; decide) (hI.slot 7 161 rfl (hpre ⟨7, .guard⟩ (by simp) rfl) rfl)) ⟨_, rfl, hJ, fun _ => rfl, fun _ _ _ h => h⟩
                      | 12, _ =>
                        cases ho
                        exact wpOp_off rfl (wantedOffU (j := 7) (b := true) rfl rfl rfl (by rw [hI.len]; show _ < 257; decide) (hI.slot 7 161 rfl (hpre ⟨7, .guard⟩ (by simp) rfl) rfl)) ⟨_, rfl, hJ, fun _ => rfl, fun _ _ _ h => h⟩
                      | 13, _ =>
                        cases ho
                        exact wpOp_off rfl (wantedOffU (j := 7) (b := true) rfl rfl rfl (by rw [hI.len]; show _ < 257; decide) (hI.slot 7 161 rfl (hpre ⟨7, .guard⟩ (by simp) rfl) rfl)) ⟨_, rfl, hJ, fun _ => rfl, fun _ _ _ h => h⟩
                      | 14, _ =>
                        cases ho
                        exact wpOp_off rfl (wantedOffU (j := 7) (b := true) rfl rfl rfl (by rw [hI.len]; show _ < 257; decide) (hI.slot 7 161 rfl (hpre ⟨7, .guard⟩ (by simp) rfl) rfl)) ⟨_, rfl, hJ, fun _ => rfl, fun _ _ _ h => h⟩
                      | 15, _ =>
                        cases ho
                        exact wpOp_off rfl (wantedOffU (j := 7) (b := true) rfl rfl rfl (by rw [hI.len]; show _ < 257; decide) (hI.slot 7 161 rfl (hpre ⟨7, .guard⟩ (by simp) rfl) rfl)) ⟨_, rfl, hJ, fun _ => rfl, fun _ _ _ h => h⟩
                      | 16, _ =>
                        cases ho
                        exact wpOp_off rfl (wantedOffU (j := 7) (b := true) rfl rfl rfl (by rw [hI.len]; show _ < 257; decide) (hI.slot 7 161 rfl (hpre ⟨7, .guard⟩ (by simp) rfl) rfl)) ⟨_, rfl, hJ, fun _ => rfl, fun _ _ _ h => h⟩
                      | 17, _ =>
                        cases ho
                        exact wpOp_off rfl (wantedOffU (j := 7) (b := true) rfl rfl rfl (by rw [hI.len]; show _ < 257; decide) (hI.slot 7 161 rfl (hpre ⟨7, .guard⟩ (by simp) rfl) rfl)) ⟨_, rfl, hJ, fun _ => rfl, fun _ _ _ h => h⟩
                      | 18, _ =>
                        cases ho
                        exact wpOp_off rfl (wantedOffU (j := 7) (b := true) rfl rfl rfl (by rw [hI.len]; show _ < 257; decide) (hI.slot 7 161 rfl (hpre ⟨7, .guard⟩ (by simp) rfl) rfl)) ⟨_, rfl, hJ, fun _ => rfl, fun _ _ _ h => h⟩
                      | 19, _ =>
                        cases ho
                        exact wpOp_off rfl (wantedOff (j := 1) (b := true) (b' := false) rfl rfl rfl (by rw [hI.len]; show _ < 257; decide) (hI.slot 1 155 rfl (hpre ⟨1, .guard⟩ (by simp) rfl) rfl) (by decide)) ⟨_, rfl, hJ, fun _ => rfl, fun _ _ _ h => h⟩
                      | 20, _ =>
                        cases ho
                        exact wpOp_off rfl (wantedOff (j := 1) (b := true) (b' := false) rfl rfl rfl (by rw [hI.len]; show _ < 257; decide) (hI.slot 1 155 rfl (hpre ⟨1, .guard⟩ (by simp) rfl) rfl) (by decide)) ⟨_, rfl, hJ, fun _ => rfl, fun _ _ _ h => h⟩
                      | 21, _ =>
                        cases ho
                        exact wpOp_off rfl (wantedOffU (j := 20) (b := true) rfl rfl rfl (by rw [hI.len]; show _ < 257; decide) (hI.slot 20 174 rfl (hpre ⟨20, .guard⟩ (by simp) rfl) rfl)) ⟨_, rfl, hJ, fun _ => rfl, fun _ _ _ h => h⟩
                      | 22, _ =>
                        cases ho
                        exact wpOp_off rfl (wantedOffU (j := 20) (b := true) rfl rfl rfl (by rw [hI.len]; show _ < 257; decide) (hI.slot 20 174 rfl (hpre ⟨20, .guard⟩ (by simp) rfl) rfl)) ⟨_, rfl, hJ, fun _ => rfl, fun _ _ _ h => h⟩
                      | 23, _ =>
                        cases ho
                        exact wpOp_off rfl (wantedOffU (j := 20) (b := true) rfl rfl rfl (by rw [hI.len]; show _ < 257; decide) (hI.slot 20 174 rfl (hpre ⟨20, .guard⟩ (by simp) rfl) rfl)) ⟨_, rfl, hJ, fun _ => rfl, fun _ _ _ h => h⟩
                      | 24, _ =>
                        cases ho
                        exact wpOp_off rfl (wantedOffU (j := 20) (b := true) rfl rfl rfl (by rw [hI.len]; show _ < 257; decide) (hI.slot 20 174 rfl (hpre ⟨20, .guard⟩ (by simp) rfl) rfl)) ⟨_, rfl, hJ, fun _ => rfl, fun _ _ _ h => h⟩
                      | 25, _ =>
                        cases ho
                        exact wpOp_off rfl (wantedOffU (j := 20) (b := true) rfl rfl rfl (by rw [hI.len]; show _ < 257; decide) (hI.slot 20 174 rfl (hpre ⟨20, .guard⟩ (by simp) rfl) rfl)) ⟨_, rfl, hJ, fun _ => rfl, fun _ _ _ h => h⟩
                      | 26, _ =>
                        cases ho
                        exact wpOp_off rfl (wantedOffU (j := 20) (b := true) rfl rfl rfl (by rw [hI.len]; show _ < 257; decide) (hI.slot 20 174 rfl (hpre ⟨20, .guard⟩ (by simp) rfl) rfl)) ⟨_, rfl, hJ, fun _ => rfl, fun _ _ _ h => h⟩
                      | 27, _ =>
                        cases ho
                        exact wpOp_off rfl (wantedOffU (j := 20) (b := true) rfl rfl rfl (by rw [hI.len]; show _ < 257; decide) (hI.slot 20 174 rfl (hpre ⟨20, .guard⟩ (by simp) rfl) rfl)) ⟨_, rfl, hJ, fun _ => rfl, fun _ _ _ h => h⟩
                      | 28, _ =>
                        cases ho
                        exact wpOp_off rfl (wantedOffU (j := 20) (b := true) rfl rfl rfl (by rw [hI.len]; show _ < 257; decide) (hI.slot 20 174 rfl (hpre ⟨20, .guard⟩ (by simp) rfl) rfl)) ⟨_, rfl, hJ, fun _ => rfl, fun _ _ _ h => h⟩
                      | 29, _ =>
                        cases ho
                        exact wpOp_off rfl (wantedOffU (j := 20) (b := true) rfl rfl rfl (by rw [hI.len]; show _ < 257; decide) (hI.slot 20 174 rfl (hpre ⟨20, .guard⟩ (by simp) rfl) rfl)) ⟨_, rfl, hJ, fun _ => rfl, fun _ _ _ h => h⟩
                      | 30, _ =>
                        cases ho
                        exact wpOp_off rfl (wantedOffU (j := 20) (b := true) rfl rfl rfl (by rw [hI.len]; show _ < 257; decide) (hI.slot 20 174 rfl (hpre ⟨20, .guard⟩ (by simp) rfl) rfl)) ⟨_, rfl, hJ, fun _ => rfl, fun _ _ _ h => h⟩
                      | 31, _ =>
                        cases ho
                        exact wpOp_off rfl (wantedOffU (j := 20) (b := true) rfl rfl rfl (by rw [hI.len]; show _ < 257; decide) (hI.slot 20 174 rfl (hpre ⟨20, .guard⟩ (by simp) rfl) rfl)) ⟨_, rfl, hJ, fun _ => rfl, fun _ _ _ h => h⟩
                      | 32, _ =>
                        cases ho
                        exact wpOp_off rfl (wantedOff (j := 1) (b := true) (b' := false) rfl rfl rfl (by rw [hI.len]; show _ < 257; decide) (hI.slot 1 155 rfl (hpre ⟨1, .guard⟩ (by simp) rfl) rfl) (by decide)) ⟨_, rfl, hJ, fun _ => rfl, fun _ _ _ h => h⟩
                      | 33, _ =>
                        cases ho
                        exact wpOp_off rfl (wantedOff (j := 1) (b := true) (b' := false) rfl rfl rfl (by rw [hI.len]; show _ < 257; decide) (hI.slot 1 155 rfl (hpre ⟨1, .guard⟩ (by simp) rfl) rfl) (by decide)) ⟨_, rfl, hJ, fun _ => rfl, fun _ _ _ h => h⟩
                      | 34, _ =>
                        cases ho
                        exact wpOp_pick2 (v := undef) (u := (.bool false)) rfl rfl rfl (hI.slot 1 155 rfl (hpre ⟨1, .data⟩ (by simp) rfl) rfl) (fun h => by cases h) (fun _ => rfl) ⟨_, rfl, hJ, fun _ => rfl, fun _ _ _ h => h⟩
                      | 35, _ =>
                        cases ho
                        exact wpOp_move rfl rfl (.inr rfl) (hI.slot 34 188 rfl (hpre ⟨34, .data⟩ (by simp) rfl) rfl) ⟨_, rfl, hJ, fun _ => rfl, fun _ _ _ h => h⟩
                    case fin =>
                      intro listed a w' hIn hall
                      have hI := hIn.toL
                      clear hIn
                      have hJ := hI.inv
                      have eS18 : a.tmps.getD 18 undef = .bool false := hI.slot 35 18 rfl (hall 35 (by decide)) rfl
                      obtain ⟨vs, us, hvl, hul, hvs, hus, e⟩ := hI.frame2 18 1 154 35 (by decide) (Nat.le_of_ble_eq_true (by kernel_rfl)) (by kernel_rfl)
                      have vS18 := hvs 0 (by decide)
                      clear hI hall hvs hus
                      match vs, us, hvl, hul with
                      | [x0], y0 :: y1 :: y2 :: y3 :: y4 :: y5 :: y6 :: y7 :: y8 :: y9 :: y10 :: y11 :: y12 :: y13 :: y14 :: y15 :: y16 :: y17 :: y18 :: y19 :: y20 :: y21 :: y22 :: y23 :: y24 :: y25 :: y26 :: y27 :: y28 :: y29 :: y30 :: y31 :: y32 :: y33 :: y34 :: [], _, _ =>
                      simp only [List.getElem?_cons_zero, Option.some.injEq] at vS18
                      rw [show 18 + 0 = 18 from rfl, eS18] at vS18
                      subst vS18
                      simp only [List.take_succ_cons, List.take_zero, List.drop_succ_cons, List.drop_zero, List.cons_append, List.nil_append, Nat.reduceAdd, Nat.reduceSub] at e
                      subst e
                      clear eS18
                      subst hJ
                      clear kx0 kx1 ky0 ky1
                      go_wp2
                      exact ⟨⟨k + 1, rfl, by omega, by omega, congrArg Value.bool (lastB_no hlb).symm, HZ.out⟩, by show n - ((k : Int) + 1).toNat < n - (k : Int).toNat; omega⟩
                  case true =>
                    cases is
                    case false =>
                      have hno : ¬ okE y := fun h => of_decide_eq_false his (hm.trans h)
                      refine wp_region_n (fun _ W => W = w10.drew) (R30B) (by kernel_rfl) (by kernel_rfl) (by kernel_rfl) (by kernel_rfl) rfl ?step ?fin
                      case step =>
                        intro i o ho listed a w' hIn hn' hpre
                        have hI := hIn.toL
                        have hJ := hI.inv
                        have hi : i < 36 := (Array.getElem?_eq_some_iff.1 ho).1
                        match i, hi with
                        | 0, _ =>
                          cases ho
                          exact wpOp_move rfl rfl (.inl rfl) (hIn.later 35 (t := 18) (by kernel_rfl) (hI.notyet hn' 35 (by kernel_rfl))) ⟨_, rfl, hJ, fun _ => rfl, fun _ _ _ h => h⟩
                        | 1, _ =>
                          cases ho
                          exact wpOp_move rfl rfl (.inl rfl) (hI.slot 0 154 rfl (hpre ⟨0, .data⟩ (by simp) rfl) rfl) ⟨_, rfl, hJ, fun _ => rfl, fun _ _ _ h => h⟩
                        | 2, _ =>
                          cases ho
                          exact wpOp_move rfl (wantedOf (j := 1) (b := true) rfl rfl rfl (by rw [hI.len]; show _ < 257; decide) (hI.slot 1 155 rfl (hpre ⟨1, .guard⟩ (by simp) rfl) rfl)) (.inl rfl) (hI.kept (t := 21) (by kernel_rfl)) ⟨_, rfl, hJ, fun _ => rfl, fun _ _ _ h => h⟩
                        | 3, _ =>
                          cases ho
                          exact wpOp_move rfl (wantedOf (j := 1) (b := true) rfl rfl rfl (by rw [hI.len]; show _ < 257; decide) (hI.slot 1 155 rfl (hpre ⟨1, .chain⟩ (by simp) rfl) rfl)) (.inl rfl) (hI.slot 2 156 rfl (hpre ⟨2, .data⟩ (by simp) rfl) rfl) ⟨_, rfl, hJ, fun _ => rfl, fun _ _ _ h => h⟩
                        | 4, _ =>
                          cases ho
                          exact wpOp_off rfl (wantedOff (j := 3) (b := true) (b' := false) rfl rfl rfl (by rw [hI.len]; show _ < 257; decide) (hI.slot 3 157 rfl (hpre ⟨3, .guard⟩ (by simp) rfl) rfl) (by decide)) ⟨_, rfl, hJ, fun _ => rfl, fun _ _ _ h => h⟩
                        | 5, _ =>
                          cases ho
                          exact wpOp_off rfl (wantedOff (j := 3) (b := true) (b' := false) rfl rfl rfl (by rw [hI.len]; show _ < 257; decide) (hI.slot 3 157 rfl (hpre ⟨3, .guard⟩ (by simp) rfl) rfl) (by decide)) ⟨_, rfl, hJ, fun _ => rfl, fun _ _ _ h => h⟩
                        | 6, _ =>
                          cases ho
                          exact wpOp_pick2 (v := undef) (u := (.bool false)) rfl (wantedOf (j := 1) (b := true) rfl rfl rfl (by rw [hI.len]; show _ < 257; decide) (hI.slot 1 155 rfl (hpre ⟨1, .guard⟩ (by simp) rfl) rfl)) rfl (hI.slot 3 157 rfl (hpre ⟨3, .data⟩ (by simp) rfl) rfl) (fun h => by cases h) (fun _ => rfl) ⟨_, rfl, hJ, fun _ => rfl, fun _ _ _ h => h⟩
                        | 7, _ =>
                          cases ho
                          exact wpOp_move rfl (wantedOf (j := 1) (b := true) rfl rfl rfl (by rw [hI.len]; show _ < 257; decide) (hI.slot 1 155 rfl (hpre ⟨1, .guard⟩ (by simp) rfl) rfl)) (.inl rfl) (hI.slot 6 160 rfl (hpre ⟨6, .data⟩ (by simp) rfl) rfl) ⟨_, rfl, hJ, fun _ => rfl, fun _ _ _ h => h⟩
                        | 8, _ =>
                          cases ho
                          exact wpOp_off rfl (wantedOff (j := 7) (b := true) (b' := false) rfl rfl rfl (by rw [hI.len]; show _ < 257; decide) (hI.slot 7 161 rfl (hpre ⟨7, .guard⟩ (by simp) rfl) rfl) (by decide)) ⟨_, rfl, hJ, fun _ => rfl, fun _ _ _ h => h⟩
                        | 9, _ =>
                          cases ho
                          exact wpOp_off rfl (wantedOff (j := 7) (b := true) (b' := false) rfl rfl rfl (by rw [hI.len]; show _ < 257; decide) (hI.slot 7 161 rfl (hpre ⟨7, .guard⟩ (by simp) rfl) rfl) (by decide)) ⟨_, rfl, hJ, fun _ => rfl, fun _ _ _ h => h⟩
                        | 10, _ =>
                          cases ho
                          exact wpOp_off rfl (wantedOff (j := 7) (b := true) (b' := false) rfl rfl rfl (by rw [hI.len]; show _ < 257; decide) (hI.slot 7 161 rfl (hpre ⟨7, .guard⟩ (by simp) rfl) rfl) (by decide)) ⟨_, rfl, hJ, fun _ => rfl, fun _ _ _ h => h⟩
                        | 11, _ =>
                          cases ho
                          exact wpOp_off rfl (wantedOff (j := 7) (b := true) (b' := false) rfl rfl rfl (by rw [hI.len]; show _ < 257; decide) (hI.slot 7 161 rfl (hpre ⟨7, .guard⟩ (by simp) rfl) rfl) (by decide)) ⟨_, rfl, hJ, fun _ => rfl, fun _ _ _ h => h⟩
                        | 12, _ =>
                          cases ho
                          exact wpOp_off rfl (wantedOff (j := 7) (b := true) (b' := false) rfl rfl rfl (by rw [hI.len]; show _ < 257; decide) (hI.slot 7 161 rfl (hpre ⟨7, .guard⟩ (by simp) rfl) rfl) (by decide)) ⟨_, rfl, hJ, fun _ => rfl, fun _ _ _ h => h⟩
                        | 13, _ =>
                          cases ho
                          exact wpOp_off rfl (wantedOff (j := 7) (b := true) (b' := false) rfl rfl rfl (by rw [hI.len]; show _ < 257; decide) (hI.slot 7 161 rfl (hpre ⟨7, .guard⟩ (by simp) rfl) rfl) (by decide)) ⟨_, rfl, hJ, fun _ => rfl, fun _ _ _ h => h⟩
                        | 14, _ =>
                          cases ho
                          exact wpOp_off rfl (wantedOff (j := 7) (b := true) (b' := false) rfl rfl rfl (by rw [hI.len]; show _ < 257; decide) (hI.slot 7 161 rfl (hpre ⟨7, .guard⟩ (by simp) rfl) rfl) (by decide)) ⟨_, rfl, hJ, fun _ => rfl, fun _ _ _ h => h⟩
                        | 15, _ =>
                          cases ho
                          exact wpOp_off rfl (wantedOff (j := 7) (b := true) (b' := false) rfl rfl rfl (by rw [hI.len]; show _ < 257; decide) (hI.slot 7 161 rfl (hpre ⟨7, .guard⟩ (by simp) rfl) rfl) (by decide)) ⟨_, rfl, hJ, fun _ => rfl, fun _ _ _ h => h⟩
                        | 16, _ =>
                          cases ho
                          exact wpOp_off rfl (wantedOff (j := 7) (b := true) (b' := false) rfl rfl rfl (by rw [hI.len]; show _ < 257; decide) (hI.slot 7 161 rfl (hpre ⟨7, .guard⟩ (by simp) rfl) rfl) (by decide)) ⟨_, rfl, hJ, fun _ => rfl, fun _ _ _ h => h⟩
                        | 17, _ =>
                          cases ho
                          exact wpOp_off rfl (wantedOff (j := 7) (b := true) (b' := false) rfl rfl rfl (by rw [hI.len]; show _ < 257; decide) (hI.slot 7 161 rfl (hpre ⟨7, .guard⟩ (by simp) rfl) rfl) (by decide)) ⟨_, rfl, hJ, fun _ => rfl, fun _ _ _ h => h⟩
                        | 18, _ =>
                          cases ho
                          exact wpOp_off rfl (wantedOff (j := 7) (b := true) (b' := false) rfl rfl rfl (by rw [hI.len]; show _ < 257; decide) (hI.slot 7 161 rfl (hpre ⟨7, .guard⟩ (by simp) rfl) rfl) (by decide)) ⟨_, rfl, hJ, fun _ => rfl, fun _ _ _ h => h⟩
                        | 19, _ =>
                          cases ho
                          exact wpOp_pick2 (v := undef) (u := (.bool false)) rfl (wantedOf (j := 1) (b := true) rfl rfl rfl (by rw [hI.len]; show _ < 257; decide) (hI.slot 1 155 rfl (hpre ⟨1, .guard⟩ (by simp) rfl) rfl)) rfl (hI.slot 7 161 rfl (hpre ⟨7, .data⟩ (by simp) rfl) rfl) (fun h => by cases h) (fun _ => rfl) ⟨_, rfl, hJ, fun _ => rfl, fun _ _ _ h => h⟩
                        | 20, _ =>
                          cases ho
                          exact wpOp_move rfl (wantedOf (j := 1) (b := true) rfl rfl rfl (by rw [hI.len]; show _ < 257; decide) (hI.slot 1 155 rfl (hpre ⟨1, .guard⟩ (by simp) rfl) rfl)) (.inl rfl) (hI.slot 19 173 rfl (hpre ⟨19, .data⟩ (by simp) rfl) rfl) ⟨_, rfl, hJ, fun _ => rfl, fun _ _ _ h => h⟩
                        | 21, _ =>
                          cases ho
                          exact wpOp_off rfl (wantedOff (j := 20) (b := true) (b' := false) rfl rfl rfl (by rw [hI.len]; show _ < 257; decide) (hI.slot 20 174 rfl (hpre ⟨20, .guard⟩ (by simp) rfl) rfl) (by decide)) ⟨_, rfl, hJ, fun _ => rfl, fun _ _ _ h => h⟩
                        | 22, _ =>
                          cases ho
                          exact wpOp_off rfl (wantedOff (j := 20) (b := true) (b' := false) rfl rfl rfl (by rw [hI.len]; show _ < 257; decide) (hI.slot 20 174 rfl (hpre ⟨20, .guard⟩ (by simp) rfl) rfl) (by decide)) ⟨_, rfl, hJ, fun _ => rfl, fun _ _ _ h => h⟩
                        | 23, _ =>
                          cases ho
                          exact wpOp_off rfl (wantedOff (j := 20) (b := true) (b' := false) rfl rfl rfl (by rw [hI.len]; show _ < 257; decide) (hI.slot 20 174 rfl (hpre ⟨20, .guard⟩ (by simp) rfl) rfl) (by decide)) ⟨_, rfl, hJ, fun _ => rfl, fun _ _ _ h => h⟩
                        | 24, _ =>
                          cases ho
                          exact wpOp_off rfl (wantedOff (j := 20) (b := true) (b' := false) rfl rfl rfl (by rw [hI.len]; show _ < 257; decide) (hI.slot 20 174 rfl (hpre ⟨20, .guard⟩ (by simp) rfl) rfl) (by decide)) ⟨_, rfl, hJ, fun _ => rfl, fun _ _ _ h => h⟩
                        | 25, _ =>
                          cases ho
                          exact wpOp_off rfl (wantedOff (j := 20) (b := true) (b' := false) rfl rfl rfl (by rw [hI.len]; show _ < 257; decide) (hI.slot 20 174 rfl (hpre ⟨20, .guard⟩ (by simp) rfl) rfl) (by decide)) ⟨_, rfl, hJ, fun _ => rfl, fun _ _ _ h => h⟩
                        | 26, _ =>
                          cases ho
                          exact wpOp_off rfl (wantedOff (j := 20) (b := true) (b' := false) rfl rfl rfl (by rw [hI.len]; show _ < 257; decide) (hI.slot 20 174 rfl (hpre ⟨20, .guard⟩ (by simp) rfl) rfl) (by decide)) ⟨_, rfl, hJ, fun _ => rfl, fun _ _ _ h => h⟩
                        | 27, _ =>
                          cases ho
                          exact wpOp_off rfl (wantedOff (j := 20) (b := true) (b' := false) rfl rfl rfl (by rw [hI.len]; show _ < 257; decide) (hI.slot 20 174 rfl (hpre ⟨20, .guard⟩ (by simp) rfl) rfl) (by decide)) ⟨_, rfl, hJ, fun _ => rfl, fun _ _ _ h => h⟩
                        | 28, _ =>
                          cases ho
                          exact wpOp_off rfl (wantedOff (j := 20) (b := true) (b' := false) rfl rfl rfl (by rw [hI.len]; show _ < 257; decide) (hI.slot 20 174 rfl (hpre ⟨20, .guard⟩ (by simp) rfl) rfl) (by decide)) ⟨_, rfl, hJ, fun _ => rfl, fun _ _ _ h => h⟩
                        | 29, _ =>
                          cases ho
                          exact wpOp_off rfl (wantedOff (j := 20) (b := true) (b' := false) rfl rfl rfl (by rw [hI.len]; show _ < 257; decide) (hI.slot 20 174 rfl (hpre ⟨20, .guard⟩ (by simp) rfl) rfl) (by decide)) ⟨_, rfl, hJ, fun _ => rfl, fun _ _ _ h => h⟩
                        | 30, _ =>
                          cases ho
                          exact wpOp_off rfl (wantedOff (j := 20) (b := true) (b' := false) rfl rfl rfl (by rw [hI.len]; show _ < 257; decide) (hI.slot 20 174 rfl (hpre ⟨20, .guard⟩ (by simp) rfl) rfl) (by decide)) ⟨_, rfl, hJ, fun _ => rfl, fun _ _ _ h => h⟩
                        | 31, _ =>
                          cases ho
                          exact wpOp_off rfl (wantedOff (j := 20) (b := true) (b' := false) rfl rfl rfl (by rw [hI.len]; show _ < 257; decide) (hI.slot 20 174 rfl (hpre ⟨20, .guard⟩ (by simp) rfl) rfl) (by decide)) ⟨_, rfl, hJ, fun _ => rfl, fun _ _ _ h => h⟩
                        | 32, _ =>
                          cases ho
                          exact wpOp_pick2 (v := undef) (u := (.bool false)) rfl (wantedOf (j := 1) (b := true) rfl rfl rfl (by rw [hI.len]; show _ < 257; decide) (hI.slot 1 155 rfl (hpre ⟨1, .guard⟩ (by simp) rfl) rfl)) rfl (hI.slot 20 174 rfl (hpre ⟨20, .data⟩ (by simp) rfl) rfl) (fun h => by cases h) (fun _ => rfl) ⟨_, rfl, hJ, fun _ => rfl, fun _ _ _ h => h⟩
                        | 33, _ =>
                          cases ho
                          exact wpOp_notP rfl (wantedOf (j := 1) (b := true) rfl rfl rfl (by rw [hI.len]; show _ < 257; decide) (hI.slot 1 155 rfl (hpre ⟨1, .guard⟩ (by simp) rfl) rfl)) rfl (hI.slot 32 186 rfl (hpre ⟨32, .data⟩ (by simp) rfl) rfl) rfl ⟨_, rfl, hJ, fun _ => rfl, fun _ _ _ h => h⟩
                        | 34, _ =>
                          cases ho
                          exact wpOp_pick2 (v := (.bool true)) (u := undef) rfl rfl rfl (hI.slot 1 155 rfl (hpre ⟨1, .data⟩ (by simp) rfl) rfl) (fun _ => (hI.slot 33 187 rfl (hpre ⟨33, .data⟩ (by simp) rfl) rfl)) (fun h => by cases h) ⟨_, rfl, hJ, fun _ => rfl, fun _ _ _ h => h⟩
                        | 35, _ =>
                          cases ho
                          exact wpOp_move rfl rfl (.inr rfl) (hI.slot 34 188 rfl (hpre ⟨34, .data⟩ (by simp) rfl) rfl) ⟨_, rfl, hJ, fun _ => rfl, fun _ _ _ h => h⟩
                      case fin =>
                        intro listed a w' hIn hall
                        have hI := hIn.toL
                        clear hIn
                        have hJ := hI.inv
                        have eS18 : a.tmps.getD 18 undef = .bool true := hI.slot 35 18 rfl (hall 35 (by decide)) rfl
                        obtain ⟨vs, us, hvl, hul, hvs, hus, e⟩ := hI.frame2 18 1 154 35 (by decide) (Nat.le_of_ble_eq_true (by kernel_rfl)) (by kernel_rfl)
                        have vS18 := hvs 0 (by decide)
                        clear hI hall hvs hus
                        match vs, us, hvl, hul with
                        | [x0], y0 :: y1 :: y2 :: y3 :: y4 :: y5 :: y6 :: y7 :: y8 :: y9 :: y10 :: y11 :: y12 :: y13 :: y14 :: y15 :: y16 :: y17 :: y18 :: y19 :: y20 :: y21 :: y22 :: y23 :: y24 :: y25 :: y26 :: y27 :: y28 :: y29 :: y30 :: y31 :: y32 :: y33 :: y34 :: [], _, _ =>
                        simp only [List.getElem?_cons_zero, Option.some.injEq] at vS18
                        rw [show 18 + 0 = 18 from rfl, eS18] at vS18
                        subst vS18
                        simp only [List.take_succ_cons, List.take_zero, List.drop_succ_cons, List.drop_zero, List.cons_append, List.nil_append, Nat.reduceAdd, Nat.reduceSub] at e
                        subst e
                        clear eS18
                        subst hJ
                        clear kx0 kx1 ky0 ky1
                        go_wp2
                        exact ⟨⟨k + 1, rfl, by omega, by omega, congrArg Value.bool (lastB_off hlb hy fun h => absurd h hno).symm, HZ.out⟩, by show n - ((k : Int) + 1).toNat < n - (k : Int).toNat; omega⟩
                    case true =>
                      have hm0 : m = 0 := of_decide_eq_true his
                      subst hm0
                      have hyo : okE y := hm.symm
                      by_cases hF : y.f.toList = x.f.toList
                      case neg =>
                        refine wp_region_n (fun _ W => W = w10.drew) (R30C B o n cap i k x y) (by kernel_rfl) (by kernel_rfl) (by kernel_rfl) (by kernel_rfl) rfl ?step ?fin
                        case step =>
                          intro i o ho listed a w' hIn hn' hpre
                          have hI := hIn.toL
                          have hJ := hI.inv
                          have hi : i < 36 := (Array.getElem?_eq_some_iff.1 ho).1
                          match i, hi with
                          | 0, _ =>
                            cases ho
                            exact wpOp_move rfl rfl (.inl rfl) (hIn.later 35 (t := 18) (by kernel_rfl) (hI.notyet hn' 35 (by kernel_rfl))) ⟨_, rfl, hJ, fun _ => rfl, fun _ _ _ h => h⟩
                          | 1, _ =>
                            cases ho
                            exact wpOp_move rfl rfl (.inl rfl) (hI.slot 0 154 rfl (hpre ⟨0, .data⟩ (by simp) rfl) rfl) ⟨_, rfl, hJ, fun _ => rfl, fun _ _ _ h => h⟩
                          | 2, _ =>
                            cases ho
                            exact wpOp_move rfl (wantedOf (j := 1) (b := true) rfl rfl rfl (by rw [hI.len]; show _ < 257; decide) (hI.slot 1 155 rfl (hpre ⟨1, .guard⟩ (by simp) rfl) rfl)) (.inl rfl) (hI.kept (t := 21) (by kernel_rfl)) ⟨_, rfl, hJ, fun _ => rfl, fun _ _ _ h => h⟩
                          | 3, _ =>
                            cases ho
                            exact wpOp_move rfl (wantedOf (j := 1) (b := true) rfl rfl rfl (by rw [hI.len]; show _ < 257; decide) (hI.slot 1 155 rfl (hpre ⟨1, .chain⟩ (by simp) rfl) rfl)) (.inl rfl) (hI.slot 2 156 rfl (hpre ⟨2, .data⟩ (by simp) rfl) rfl) ⟨_, rfl, hJ, fun _ => rfl, fun _ _ _ h => h⟩
                          | 4, _ =>
                            cases ho
                            exact wpOp_move rfl (wantedOf (j := 3) (b := true) rfl rfl rfl (by rw [hI.len]; show _ < 257; decide) (hI.slot 3 157 rfl (hpre ⟨3, .guard⟩ (by simp) rfl) rfl)) (.inl rfl) (hI.kept (t := 22) (by kernel_rfl)) ⟨_, rfl, hJ, fun _ => rfl, fun _ _ _ h => h⟩
                          | 5, _ =>
                            cases ho
                            exact wpOp_bin rfl (wantedOf (j := 3) (b := true) rfl rfl rfl (by rw [hI.len]; show _ < 257; decide) (hI.slot 3 157 rfl (hpre ⟨3, .guard⟩ (by simp) rfl) rfl)) rfl (hI.slot 4 158 rfl (hpre ⟨4, .data⟩ (by simp) rfl) rfl) rfl (by simp [go_sem]) (by simp [go_sem]) ⟨_, rfl, hJ, fun _ => rfl, fun _ _ _ h => h⟩
                          | 6, _ =>
                            cases ho
                            exact wpOp_pick2 (v := (.bool true)) (u := undef) rfl (wantedOf (j := 1) (b := true) rfl rfl rfl (by rw [hI.len]; show _ < 257; decide) (hI.slot 1 155 rfl (hpre ⟨1, .guard⟩ (by simp) rfl) rfl)) rfl (hI.slot 3 157 rfl (hpre ⟨3, .data⟩ (by simp) rfl) rfl) (fun _ => (hI.slot 5 159 rfl (hpre ⟨5, .data⟩ (by simp) rfl) rfl)) (fun h => by cases h) ⟨_, rfl, hJ, fun _ => rfl, fun _ _ _ h => h⟩
                          | 7, _ =>
                            cases ho
                            exact wpOp_move rfl (wantedOf (j := 1) (b := true) rfl rfl rfl (by rw [hI.len]; show _ < 257; decide) (hI.slot 1 155 rfl (hpre ⟨1, .guard⟩ (by simp) rfl) rfl)) (.inl rfl) (hI.slot 6 160 rfl (hpre ⟨6, .data⟩ (by simp) rfl) rfl) ⟨_, rfl, hJ, fun _ => rfl, fun _ _ _ h => h⟩
                          | 8, _ =>
                            cases ho
                            exact wpOp_move rfl (wantedOf (j := 7) (b := true) rfl rfl rfl (by rw [hI.len]; show _ < 257; decide) (hI.slot 7 161 rfl (hpre ⟨7, .guard⟩ (by simp) rfl) rfl)) (.inl rfl) (hI.kept (t := 0) (by kernel_rfl)) ⟨_, rfl, hJ, fun _ => rfl, fun _ _ _ h => h⟩
                          | 9, _ =>
                            cases ho
                            exact wpOp_move rfl (wantedOf (j := 7) (b := true) rfl rfl rfl (by rw [hI.len]; show _ < 257; decide) (hI.slot 7 161 rfl (hpre ⟨7, .guard⟩ (by simp) rfl) rfl)) (.inl rfl) (hI.kept (t := 19) (by kernel_rfl)) ⟨_, rfl, hJ, fun _ => rfl, fun _ _ _ h => h⟩
                          | 10, _ =>
                            cases ho
                            exact wpOp_index rfl (wantedOf (j := 7) (b := true) rfl rfl rfl (by rw [hI.len]; show _ < 257; decide) (hI.slot 7 161 rfl (hpre ⟨7, .guard⟩ (by simp) rfl) rfl)) rfl (hI.slot 8 162 rfl (hpre ⟨8, .data⟩ (by simp) rfl) rfl) (hI.slot 9 163 rfl (hpre ⟨9, .data⟩ (by simp) rfl) rfl) (hixk w') ⟨_, rfl, hJ, fun _ => rfl, fun _ _ _ h => h⟩
                          | 11, _ =>
                            cases ho
                            exact wpOp_field rfl (wantedOf (j := 7) (b := true) rfl rfl rfl (by rw [hI.len]; show _ < 257; decide) (hI.slot 7 161 rfl (hpre ⟨7, .guard⟩ (by simp) rfl) rfl)) rfl (hI.slot 10 164 rfl (hpre ⟨10, .data⟩ (by simp) rfl) rfl) (by simp [go_sem]) ⟨_, rfl, hJ, fun _ => rfl, fun _ _ _ h => h⟩
                          | 12, _ =>
                            cases ho
                            exact wpOp_load rfl (wantedOf (j := 7) (b := true) rfl rfl rfl (by rw [hI.len]; show _ < 257; decide) (hI.slot 7 161 rfl (hpre ⟨7, .guard⟩ (by simp) rfl) rfl)) rfl (hI.slot 11 165 rfl (hpre ⟨11, .data⟩ (by simp) rfl) rfl) (load_c (Tryz.isAgg9 w') (show w'.cell? _ = _ from by rw [hJ]; exact ky0)) ⟨_, rfl, hJ, fun _ => rfl, fun _ _ _ h => h⟩
                          | 13, _ =>
                            cases ho
                            exact wpOp_move rfl (wantedOf (j := 7) (b := true) rfl rfl rfl (by rw [hI.len]; show _ < 257; decide) (hI.slot 7 161 rfl (hpre ⟨7, .guard⟩ (by simp) rfl) rfl)) (.inl rfl) (hI.kept (t := 0) (by kernel_rfl)) ⟨_, rfl, hJ, fun _ => rfl, fun _ _ _ h => h⟩
                          | 14, _ =>
                            cases ho
                            exact wpOp_move rfl (wantedOf (j := 7) (b := true) rfl rfl rfl (by rw [hI.len]; show _ < 257; decide) (hI.slot 7 161 rfl (hpre ⟨7, .guard⟩ (by simp) rfl) rfl)) (.inl rfl) (hI.kept (t := 9) (by kernel_rfl)) ⟨_, rfl, hJ, fun _ => rfl, fun _ _ _ h => h⟩
                          | 15, _ =>
                            cases ho
                            exact wpOp_index rfl (wantedOf (j := 7) (b := true) rfl rfl rfl (by rw [hI.len]; show _ < 257; decide) (hI.slot 7 161 rfl (hpre ⟨7, .guard⟩ (by simp) rfl) rfl)) rfl (hI.slot 13 167 rfl (hpre ⟨13, .data⟩ (by simp) rfl) rfl) (hI.slot 14 168 rfl (hpre ⟨14, .data⟩ (by simp) rfl) rfl) (hixa w') ⟨_, rfl, hJ, fun _ => rfl, fun _ _ _ h => h⟩
                          | 16, _ =>
                            cases ho
                            exact wpOp_field rfl (wantedOf (j := 7) (b := true) rfl rfl rfl (by rw [hI.len]; show _ < 257; decide) (hI.slot 7 161 rfl (hpre ⟨7, .guard⟩ (by simp) rfl) rfl)) rfl (hI.slot 15 169 rfl (hpre ⟨15, .data⟩ (by simp) rfl) rfl) (by simp [go_sem]) ⟨_, rfl, hJ, fun _ => rfl, fun _ _ _ h => h⟩
                          | 17, _ =>
                            cases ho
                            exact wpOp_load rfl (wantedOf (j := 7) (b := true) rfl rfl rfl (by rw [hI.len]; show _ < 257; decide) (hI.slot 7 161 rfl (hpre ⟨7, .guard⟩ (by simp) rfl) rfl)) rfl (hI.slot 16 170 rfl (hpre ⟨16, .data⟩ (by simp) rfl) rfl) (load_c (Tryz.isAgg9 w') (show w'.cell? _ = _ from by rw [hJ]; exact kx0)) ⟨_, rfl, hJ, fun _ => rfl, fun _ _ _ h => h⟩
                          | 18, _ =>
                            cases ho
                            exact wpOp_bin rfl (wantedOf (j := 7) (b := true) rfl rfl rfl (by rw [hI.len]; show _ < 257; decide) (hI.slot 7 161 rfl (hpre ⟨7, .guard⟩ (by simp) rfl) rfl)) rfl (hI.slot 12 166 rfl (hpre ⟨12, .data⟩ (by simp) rfl) rfl) (hI.slot 17 171 rfl (hpre ⟨17, .data⟩ (by simp) rfl) rfl) (by simp [go_sem]) (by simp [go_sem, hF]) ⟨_, rfl, hJ, fun _ => rfl, fun _ _ _ h => h⟩
                          | 19, _ =>
                            cases ho
                            exact wpOp_pick2 (v := (.bool false)) (u := undef) rfl (wantedOf (j := 1) (b := true) rfl rfl rfl (by rw [hI.len]; show _ < 257; decide) (hI.slot 1 155 rfl (hpre ⟨1, .guard⟩ (by simp) rfl) rfl)) rfl (hI.slot 7 161 rfl (hpre ⟨7, .data⟩ (by simp) rfl) rfl) (fun _ => (hI.slot 18 172 rfl (hpre ⟨18, .data⟩ (by simp) rfl) rfl)) (fun h => by cases h) ⟨_, rfl, hJ, fun _ => rfl, fun _ _ _ h => h⟩
                          | 20, _ =>
                            cases ho
                            exact wpOp_move rfl (wantedOf (j := 1) (b := true) rfl rfl rfl (by rw [hI.len]; show _ < 257; decide) (hI.slot 1 155 rfl (hpre ⟨1, .guard⟩ (by simp) rfl) rfl)) (.inl rfl) (hI.slot 19 173 rfl (hpre ⟨19, .data⟩ (by simp) rfl) rfl) ⟨_, rfl, hJ, fun _ => rfl, fun _ _ _ h => h⟩
                          | 21, _ =>
                            cases ho
                            exact wpOp_off rfl (wantedOff (j := 20) (b := true) (b' := false) rfl rfl rfl (by rw [hI.len]; show _ < 257; decide) (hI.slot 20 174 rfl (hpre ⟨20, .guard⟩ (by simp) rfl) rfl) (by decide)) ⟨_, rfl, hJ, fun _ => rfl, fun _ _ _ h => h⟩
                          | 22, _ =>
                            cases ho
                            exact wpOp_off rfl (wantedOff (j := 20) (b := true) (b' := false) rfl rfl rfl (by rw [hI.len]; show _ < 257; decide) (hI.slot 20 174 rfl (hpre ⟨20, .guard⟩ (by simp) rfl) rfl) (by decide)) ⟨_, rfl, hJ, fun _ => rfl, fun _ _ _ h => h⟩
                          | 23, _ =>
                            cases ho
                            exact wpOp_off rfl (wantedOff (j := 20) (b := true) (b' := false) rfl rfl rfl (by rw [hI.len]; show _ < 257; decide) (hI.slot 20 174 rfl (hpre ⟨20, .guard⟩ (by simp) rfl) rfl) (by decide)) ⟨_, rfl, hJ, fun _ => rfl, fun _ _ _ h => h⟩
                          | 24, _ =>
                            cases ho
                            exact wpOp_off rfl (wantedOff (j := 20) (b := true) (b' := false) rfl rfl rfl (by rw [hI.len]; show _ < 257; decide) (hI.slot 20 174 rfl (hpre ⟨20, .guard⟩ (by simp) rfl) rfl) (by decide)) ⟨_, rfl, hJ, fun _ => rfl, fun _ _ _ h => h⟩
                          | 25, _ =>
                            cases ho
                            exact wpOp_off rfl (wantedOff (j := 20) (b := true) (b' := false) rfl rfl rfl (by rw [hI.len]; show _ < 257; decide) (hI.slot 20 174 rfl (hpre ⟨20, .guard⟩ (by simp) rfl) rfl) (by decide)) ⟨_, rfl, hJ, fun _ => rfl, fun _ _ _ h => h⟩
                          | 26, _ =>
                            cases ho
                            exact wpOp_off rfl (wantedOff (j := 20) (b := true) (b' := false) rfl rfl rfl (by rw [hI.len]; show _ < 257; decide) (hI.slot 20 174 rfl (hpre ⟨20, .guard⟩ (by simp) rfl) rfl) (by decide)) ⟨_, rfl, hJ, fun _ => rfl, fun _ _ _ h => h⟩
                          | 27, _ =>
                            cases ho
                            exact wpOp_off rfl (wantedOff (j := 20) (b := true) (b' := false) rfl rfl rfl (by rw [hI.len]; show _ < 257; decide) (hI.slot 20 174 rfl (hpre ⟨20, .guard⟩ (by simp) rfl) rfl) (by decide)) ⟨_, rfl, hJ, fun _ => rfl, fun _ _ _ h => h⟩
                          | 28, _ =>
                            cases ho
                            exact wpOp_off rfl (wantedOff (j := 20) (b := true) (b' := false) rfl rfl rfl (by rw [hI.len]; show _ < 257; decide) (hI.slot 20 174 rfl (hpre ⟨20, .guard⟩ (by simp) rfl) rfl) (by decide)) ⟨_, rfl, hJ, fun _ => rfl, fun _ _ _ h => h⟩
                          | 29, _ =>
                            cases ho
                            exact wpOp_off rfl (wantedOff (j := 20) (b := true) (b' := false) rfl rfl rfl (by rw [hI.len]; show _ < 257; decide) (hI.slot 20 174 rfl (hpre ⟨20, .guard⟩ (by simp) rfl) rfl) (by decide)) ⟨_, rfl, hJ, fun _ => rfl, fun _ _ _ h => h⟩
                          | 30, _ =>
                            cases ho
                            exact wpOp_off rfl (wantedOff (j := 20) (b := true) (b' := false) rfl rfl rfl (by rw [hI.len]; show _ < 257; decide) (hI.slot 20 174 rfl (hpre ⟨20, .guard⟩ (by simp) rfl) rfl) (by decide)) ⟨_, rfl, hJ, fun _ => rfl, fun _ _ _ h => h⟩
                          | 31, _ =>
                            cases ho
                            exact wpOp_off rfl (wantedOff (j := 20) (b := true) (b' := false) rfl rfl rfl (by rw [hI.len]; show _ < 257; decide) (hI.slot 20 174 rfl (hpre ⟨20, .guard⟩ (by simp) rfl) rfl) (by decide)) ⟨_, rfl, hJ, fun _ => rfl, fun _ _ _ h => h⟩
                          | 32, _ =>
                            cases ho
                            exact wpOp_pick2 (v := undef) (u := (.bool false)) rfl (wantedOf (j := 1) (b := true) rfl rfl rfl (by rw [hI.len]; show _ < 257; decide) (hI.slot 1 155 rfl (hpre ⟨1, .guard⟩ (by simp) rfl) rfl)) rfl (hI.slot 20 174 rfl (hpre ⟨20, .data⟩ (by simp) rfl) rfl) (fun h => by cases h) (fun _ => rfl) ⟨_, rfl, hJ, fun _ => rfl, fun _ _ _ h => h⟩
                          | 33, _ =>
                            cases ho
                            exact wpOp_notP rfl (wantedOf (j := 1) (b := true) rfl rfl rfl (by rw [hI.len]; show _ < 257; decide) (hI.slot 1 155 rfl (hpre ⟨1, .guard⟩ (by simp) rfl) rfl)) rfl (hI.slot 32 186 rfl (hpre ⟨32, .data⟩ (by simp) rfl) rfl) rfl ⟨_, rfl, hJ, fun _ => rfl, fun _ _ _ h => h⟩
                          | 34, _ =>
                            cases ho
                            exact wpOp_pick2 (v := (.bool true)) (u := undef) rfl rfl rfl (hI.slot 1 155 rfl (hpre ⟨1, .data⟩ (by simp) rfl) rfl) (fun _ => (hI.slot 33 187 rfl (hpre ⟨33, .data⟩ (by simp) rfl) rfl)) (fun h => by cases h) ⟨_, rfl, hJ, fun _ => rfl, fun _ _ _ h => h⟩
                          | 35, _ =>
                            cases ho
                            exact wpOp_move rfl rfl (.inr rfl) (hI.slot 34 188 rfl (hpre ⟨34, .data⟩ (by simp) rfl) rfl) ⟨_, rfl, hJ, fun _ => rfl, fun _ _ _ h => h⟩
                        case fin =>
                          intro listed a w' hIn hall
                          have hI := hIn.toL
                          clear hIn
                          have hJ := hI.inv
                          have eS18 : a.tmps.getD 18 undef = .bool true := hI.slot 35 18 rfl (hall 35 (by decide)) rfl
                          obtain ⟨vs, us, hvl, hul, hvs, hus, e⟩ := hI.frame2 18 1 154 35 (by decide) (Nat.le_of_ble_eq_true (by kernel_rfl)) (by kernel_rfl)
                          have vS18 := hvs 0 (by decide)
                          clear hI hall hvs hus
                          match vs, us, hvl, hul with
                          | [x0], y0 :: y1 :: y2 :: y3 :: y4 :: y5 :: y6 :: y7 :: y8 :: y9 :: y10 :: y11 :: y12 :: y13 :: y14 :: y15 :: y16 :: y17 :: y18 :: y19 :: y20 :: y21 :: y22 :: y23 :: y24 :: y25 :: y26 :: y27 :: y28 :: y29 :: y30 :: y31 :: y32 :: y33 :: y34 :: [], _, _ =>
                          simp only [List.getElem?_cons_zero, Option.some.injEq] at vS18
                          rw [show 18 + 0 = 18 from rfl, eS18] at vS18
                          subst vS18
                          simp only [List.take_succ_cons, List.take_zero, List.drop_succ_cons, List.drop_zero, List.cons_append, List.nil_append, Nat.reduceAdd, Nat.reduceSub] at e
                          subst e
                          clear eS18
                          subst hJ
                          clear kx0 kx1 ky0 ky1
                          go_wp2
                          exact ⟨⟨k + 1, rfl, by omega, by omega, congrArg Value.bool (lastB_off hlb hy fun _ h => hF (sameE.1 h).1.symm).symm, HZ.out⟩, by show n - ((k : Int) + 1).toNat < n - (k : Int).toNat; omega⟩
                      case pos =>
                        by_cases hC : y.c.toList = x.c.toList
                        case neg =>
                          refine wp_region_n (fun _ W => W = w10.drew) (R30D B o n cap i k x y) (by kernel_rfl) (by kernel_rfl) (by kernel_rfl) (by kernel_rfl) rfl ?step ?fin
                          case step =>
                            intro i o ho listed a w' hIn hn' hpre
                            have hI := hIn.toL
                            have hJ := hI.inv
                            have hi : i < 36 := (Array.getElem?_eq_some_iff.1 ho).1
                            match i, hi with
                            | 0, _ =>
                              cases ho
                              exact wpOp_move rfl rfl (.inl rfl) (hIn.later 35 (t := 18) (by kernel_rfl) (hI.notyet hn' 35 (by kernel_rfl))) ⟨_, rfl, hJ, fun _ => rfl, fun _ _ _ h => h⟩
                            | 1, _ =>
                              cases ho
                              exact wpOp_move rfl rfl (.inl rfl) (hI.slot 0 154 rfl (hpre ⟨0, .data⟩ (by simp) rfl) rfl) ⟨_, rfl, hJ, fun _ => rfl, fun _ _ _ h => h⟩
                            | 2, _ =>
                              cases ho
                              exact wpOp_move rfl (wantedOf (j := 1) (b := true) rfl rfl rfl (by rw [hI.len]; show _ < 257; decide) (hI.slot 1 155 rfl (hpre ⟨1, .guard⟩ (by simp) rfl) rfl)) (.inl rfl) (hI.kept (t := 21) (by kernel_rfl)) ⟨_, rfl, hJ, fun _ => rfl, fun _ _ _ h => h⟩
                            | 3, _ =>
                              cases ho
                              exact wpOp_move rfl (wantedOf (j := 1) (b := true) rfl rfl rfl (by rw [hI.len]; show _ < 257; decide) (hI.slot 1 155 rfl (hpre ⟨1, .chain⟩ (by simp) rfl) rfl)) (.inl rfl) (hI.slot 2 156 rfl (hpre ⟨2, .data⟩ (by simp) rfl) rfl) ⟨_, rfl, hJ, fun _ => rfl, fun _ _ _ h => h⟩
                            | 4, _ =>
                              cases ho
                              exact wpOp_move rfl (wantedOf (j := 3) (b := true) rfl rfl rfl (by rw [hI.len]; show _ < 257; decide) (hI.slot 3 157 rfl (hpre ⟨3, .guard⟩ (by simp) rfl) rfl)) (.inl rfl) (hI.kept (t := 22) (by kernel_rfl)) ⟨_, rfl, hJ, fun _ => rfl, fun _ _ _ h => h⟩
                            | 5, _ =>
                              cases ho
                              exact wpOp_bin rfl (wantedOf (j := 3) (b := true) rfl rfl rfl (by rw [hI.len]; show _ < 257; decide) (hI.slot 3 157 rfl (hpre ⟨3, .guard⟩ (by simp) rfl) rfl)) rfl (hI.slot 4 158 rfl (hpre ⟨4, .data⟩ (by simp) rfl) rfl) rfl (by simp [go_sem]) (by simp [go_sem]) ⟨_, rfl, hJ, fun _ => rfl, fun _ _ _ h => h⟩
                            | 6, _ =>
                              cases ho
                              exact wpOp_pick2 (v := (.bool true)) (u := undef) rfl (wantedOf (j := 1) (b := true) rfl rfl rfl (by rw [hI.len]; show _ < 257; decide) (hI.slot 1 155 rfl (hpre ⟨1, .guard⟩ (by simp) rfl) rfl)) rfl (hI.slot 3 157 rfl (hpre ⟨3, .data⟩ (by simp) rfl) rfl) (fun _ => (hI.slot 5 159 rfl (hpre ⟨5, .data⟩ (by simp) rfl) rfl)) (fun h => by cases h) ⟨_, rfl, hJ, fun _ => rfl, fun _ _ _ h => h⟩
                            | 7, _ =>
                              cases ho
                              exact wpOp_move rfl (wantedOf (j := 1) (b := true) rfl rfl rfl (by rw [hI.len]; show _ < 257; decide) (hI.slot 1 155 rfl (hpre ⟨1, .guard⟩ (by simp) rfl) rfl)) (.inl rfl) (hI.slot 6 160 rfl (hpre ⟨6, .data⟩ (by simp) rfl) rfl) ⟨_, rfl, hJ, fun _ => rfl, fun _ _ _ h => h⟩
                            | 8, _ =>
                              cases ho
                              exact wpOp_move rfl (wantedOf (j := 7) (b := true) rfl rfl rfl (by rw [hI.len]; show _ < 257; decide) (hI.slot 7 161 rfl (hpre ⟨7, .guard⟩ (by simp) rfl) rfl)) (.inl rfl) (hI.kept (t := 0) (by kernel_rfl)) ⟨_, rfl, hJ, fun _ => rfl, fun _ _ _ h => h⟩
                            | 9, _ =>
                              cases ho
                              exact wpOp_move rfl (wantedOf (j := 7) (b := true) rfl rfl rfl (by rw [hI.len]; show _ < 257; decide) (hI.slot 7 161 rfl (hpre ⟨7, .guard⟩ (by simp) rfl) rfl)) (.inl rfl) (hI.kept (t := 19) (by kernel_rfl)) ⟨_, rfl, hJ, fun _ => rfl, fun _ _ _ h => h⟩
                            | 10, _ =>
                              cases ho
                              exact wpOp_index rfl (wantedOf (j := 7) (b := true) rfl rfl rfl (by rw [hI.len]; show _ < 257; decide) (hI.slot 7 161 rfl (hpre ⟨7, .guard⟩ (by simp) rfl) rfl)) rfl (hI.slot 8 162 rfl (hpre ⟨8, .data⟩ (by simp) rfl) rfl) (hI.slot 9 163 rfl (hpre ⟨9, .data⟩ (by simp) rfl) rfl) (hixk w') ⟨_, rfl, hJ, fun _ => rfl, fun _ _ _ h => h⟩
                            | 11, _ =>
                              cases ho
                              exact wpOp_field rfl (wantedOf (j := 7) (b := true) rfl rfl rfl (by rw [hI.len]; show _ < 257; decide) (hI.slot 7 161 rfl (hpre ⟨7, .guard⟩ (by simp) rfl) rfl)) rfl (hI.slot 10 164 rfl (hpre ⟨10, .data⟩ (by simp) rfl) rfl) (by simp [go_sem]) ⟨_, rfl, hJ, fun _ => rfl, fun _ _ _ h => h⟩
                            | 12, _ =>
                              cases ho
                              exact wpOp_load rfl (wantedOf (j := 7) (b := true) rfl rfl rfl (by rw [hI.len]; show _ < 257; decide) (hI.slot 7 161 rfl (hpre ⟨7, .guard⟩ (by simp) rfl) rfl)) rfl (hI.slot 11 165 rfl (hpre ⟨11, .data⟩ (by simp) rfl) rfl) (load_c (Tryz.isAgg9 w') (show w'.cell? _ = _ from by rw [hJ]; exact ky0)) ⟨_, rfl, hJ, fun _ => rfl, fun _ _ _ h => h⟩
                            | 13, _ =>
                              cases ho
                              exact wpOp_move rfl (wantedOf (j := 7) (b := true) rfl rfl rfl (by rw [hI.len]; show _ < 257; decide) (hI.slot 7 161 rfl (hpre ⟨7, .guard⟩ (by simp) rfl) rfl)) (.inl rfl) (hI.kept (t := 0) (by kernel_rfl)) ⟨_, rfl, hJ, fun _ => rfl, fun _ _ _ h => h⟩
                            | 14, _ =>
                              cases ho
                              exact wpOp_move rfl (wantedOf (j := 7) (b := true) rfl rfl rfl (by rw [hI.len]; show _ < 257; decide) (hI.slot 7 161 rfl (hpre ⟨7, .guard⟩ (by simp) rfl) rfl)) (.inl rfl) (hI.kept (t := 9) (by kernel_rfl)) ⟨_, rfl, hJ, fun _ => rfl, fun _ _ _ h => h⟩
                            | 15, _ =>
                              cases ho
                              exact wpOp_index rfl (wantedOf (j := 7) (b := true) rfl rfl rfl (by rw [hI.len]; show _ < 257; decide) (hI.slot 7 161 rfl (hpre ⟨7, .guard⟩ (by simp) rfl) rfl)) rfl (hI.slot 13 167 rfl (hpre ⟨13, .data⟩ (by simp) rfl) rfl) (hI.slot 14 168 rfl (hpre ⟨14, .data⟩ (by simp) rfl) rfl) (hixa w') ⟨_, rfl, hJ, fun _ => rfl, fun _ _ _ h => h⟩
                            | 16, _ =>
                              cases ho
                              exact wpOp_field rfl (wantedOf (j := 7) (b := true) rfl rfl rfl (by rw [hI.len]; show _ < 257; decide) (hI.slot 7 161 rfl (hpre ⟨7, .guard⟩ (by simp) rfl) rfl)) rfl (hI.slot 15 169 rfl (hpre ⟨15, .data⟩ (by simp) rfl) rfl) (by simp [go_sem]) ⟨_, rfl, hJ, fun _ => rfl, fun _ _ _ h => h⟩
                            | 17, _ =>
                              cases ho
                              exact wpOp_load rfl (wantedOf (j := 7) (b := true) rfl rfl rfl (by rw [hI.len]; show _ < 257; decide) (hI.slot 7 161 rfl (hpre ⟨7, .guard⟩ (by simp) rfl) rfl)) rfl (hI.slot 16 170 rfl (hpre ⟨16, .data⟩ (by simp) rfl) rfl) (load_c (Tryz.isAgg9 w') (show w'.cell? _ = _ from by rw [hJ]; exact kx0)) ⟨_, rfl, hJ, fun _ => rfl, fun _ _ _ h => h⟩
                            | 18, _ =>
                              cases ho
                              exact wpOp_bin rfl (wantedOf (j := 7) (b := true) rfl rfl rfl (by rw [hI.len]; show _ < 257; decide) (hI.slot 7 161 rfl (hpre ⟨7, .guard⟩ (by simp) rfl) rfl)) rfl (hI.slot 12 166 rfl (hpre ⟨12, .data⟩ (by simp) rfl) rfl) (hI.slot 17 171 rfl (hpre ⟨17, .data⟩ (by simp) rfl) rfl) (by simp [go_sem]) (by simp [go_sem, hF]) ⟨_, rfl, hJ, fun _ => rfl, fun _ _ _ h => h⟩
                            | 19, _ =>
                              cases ho
                              exact wpOp_pick2 (v := (.bool true)) (u := undef) rfl (wantedOf (j := 1) (b := true) rfl rfl rfl (by rw [hI.len]; show _ < 257; decide) (hI.slot 1 155 rfl (hpre ⟨1, .guard⟩ (by simp) rfl) rfl)) rfl (hI.slot 7 161 rfl (hpre ⟨7, .data⟩ (by simp) rfl) rfl) (fun _ => (hI.slot 18 172 rfl (hpre ⟨18, .data⟩ (by simp) rfl) rfl)) (fun h => by cases h) ⟨_, rfl, hJ, fun _ => rfl, fun _ _ _ h => h⟩
                            | 20, _ =>
                              cases ho
                              exact wpOp_move rfl (wantedOf (j := 1) (b := true) rfl rfl rfl (by rw [hI.len]; show _ < 257; decide) (hI.slot 1 155 rfl (hpre ⟨1, .guard⟩ (by simp) rfl) rfl)) (.inl rfl) (hI.slot 19 173 rfl (hpre ⟨19, .data⟩ (by simp) rfl) rfl) ⟨_, rfl, hJ, fun _ => rfl, fun _ _ _ h => h⟩
                            | 21, _ =>
                              cases ho
                              exact wpOp_move rfl (wantedOf (j := 20) (b := true) rfl rfl rfl (by rw [hI.len]; show _ < 257; decide) (hI.slot 20 174 rfl (hpre ⟨20, .guard⟩ (by simp) rfl) rfl)) (.inl rfl) (hI.kept (t := 0) (by kernel_rfl)) ⟨_, rfl, hJ, fun _ => rfl, fun _ _ _ h => h⟩
                            | 22, _ =>
                              cases ho
                              exact wpOp_move rfl (wantedOf (j := 20) (b := true) rfl rfl rfl (by rw [hI.len]; show _ < 257; decide) (hI.slot 20 174 rfl (hpre ⟨20, .guard⟩ (by simp) rfl) rfl)) (.inl rfl) (hI.kept (t := 19) (by kernel_rfl)) ⟨_, rfl, hJ, fun _ => rfl, fun _ _ _ h => h⟩
                            | 23, _ =>
                              cases ho
                              exact wpOp_index rfl (wantedOf (j := 20) (b := true) rfl rfl rfl (by rw [hI.len]; show _ < 257; decide) (hI.slot 20 174 rfl (hpre ⟨20, .guard⟩ (by simp) rfl) rfl)) rfl (hI.slot 21 175 rfl (hpre ⟨21, .data⟩ (by simp) rfl) rfl) (hI.slot 22 176 rfl (hpre ⟨22, .data⟩ (by simp) rfl) rfl) (hixk w') ⟨_, rfl, hJ, fun _ => rfl, fun _ _ _ h => h⟩
                            | 24, _ =>
                              cases ho
                              exact wpOp_field rfl (wantedOf (j := 20) (b := true) rfl rfl rfl (by rw [hI.len]; show _ < 257; decide) (hI.slot 20 174 rfl (hpre ⟨20, .guard⟩ (by simp) rfl) rfl)) rfl (hI.slot 23 177 rfl (hpre ⟨23, .data⟩ (by simp) rfl) rfl) (by simp [go_sem]) ⟨_, rfl, hJ, fun _ => rfl, fun _ _ _ h => h⟩
                            | 25, _ =>
                              cases ho
                              exact wpOp_load rfl (wantedOf (j := 20) (b := true) rfl rfl rfl (by rw [hI.len]; show _ < 257; decide) (hI.slot 20 174 rfl (hpre ⟨20, .guard⟩ (by simp) rfl) rfl)) rfl (hI.slot 24 178 rfl (hpre ⟨24, .data⟩ (by simp) rfl) rfl) (load_c (Tryz.isAgg9 w') (show w'.cell? _ = _ from by rw [hJ]; exact ky1)) ⟨_, rfl, hJ, fun _ => rfl, fun _ _ _ h => h⟩
                            | 26, _ =>
                              cases ho
                              exact wpOp_move rfl (wantedOf (j := 20) (b := true) rfl rfl rfl (by rw [hI.len]; show _ < 257; decide) (hI.slot 20 174 rfl (hpre ⟨20, .guard⟩ (by simp) rfl) rfl)) (.inl rfl) (hI.kept (t := 0) (by kernel_rfl)) ⟨_, rfl, hJ, fun _ => rfl, fun _ _ _ h => h⟩
                            | 27, _ =>
                              cases ho
                              exact wpOp_move rfl (wantedOf (j := 20) (b := true) rfl rfl rfl (by rw [hI.len]; show _ < 257; decide) (hI.slot 20 174 rfl (hpre ⟨20, .guard⟩ (by simp) rfl) rfl)) (.inl rfl) (hI.kept (t := 9) (by kernel_rfl)) ⟨_, rfl, hJ, fun _ => rfl, fun _ _ _ h => h⟩
                            | 28, _ =>
                              cases ho
                              exact wpOp_index rfl (wantedOf (j := 20) (b := true) rfl rfl rfl (by rw [hI.len]; show _ < 257; decide) (hI.slot 20 174 rfl (hpre ⟨20, .guard⟩ (by simp) rfl) rfl)) rfl (hI.slot 26 180 rfl (hpre ⟨26, .data⟩ (by simp) rfl) rfl) (hI.slot 27 181 rfl (hpre ⟨27, .data⟩ (by simp) rfl) rfl) (hixa w') ⟨_, rfl, hJ, fun _ => rfl, fun _ _ _ h => h⟩
                            | 29, _ =>
                              cases ho
                              exact wpOp_field rfl (wantedOf (j := 20) (b := true) rfl rfl rfl (by rw [hI.len]; show _ < 257; decide) (hI.slot 20 174 rfl (hpre ⟨20, .guard⟩ (by simp) rfl) rfl)) rfl (hI.slot 28 182 rfl (hpre ⟨28, .data⟩ (by simp) rfl) rfl) (by simp [go_sem]) ⟨_, rfl, hJ, fun _ => rfl, fun _ _ _ h => h⟩
                            | 30, _ =>
                              cases ho
                              exact wpOp_load rfl (wantedOf (j := 20) (b := true) rfl rfl rfl (by rw [hI.len]; show _ < 257; decide) (hI.slot 20 174 rfl (hpre ⟨20, .guard⟩ (by simp) rfl) rfl)) rfl (hI.slot 29 183 rfl (hpre ⟨29, .data⟩ (by simp) rfl) rfl) (load_c (Tryz.isAgg9 w') (show w'.cell? _ = _ from by rw [hJ]; exact kx1)) ⟨_, rfl, hJ, fun _ => rfl, fun _ _ _ h => h⟩
                            | 31, _ =>
                              cases ho
                              exact wpOp_bin rfl (wantedOf (j := 20) (b := true) rfl rfl rfl (by rw [hI.len]; show _ < 257; decide) (hI.slot 20 174 rfl (hpre ⟨20, .guard⟩ (by simp) rfl) rfl)) rfl (hI.slot 25 179 rfl (hpre ⟨25, .data⟩ (by simp) rfl) rfl) (hI.slot 30 184 rfl (hpre ⟨30, .data⟩ (by simp) rfl) rfl) (by simp [go_sem]) (by simp [go_sem, hC]) ⟨_, rfl, hJ, fun _ => rfl, fun _ _ _ h => h⟩
                            | 32, _ =>
                              cases ho
                              exact wpOp_pick2 (v := (.bool false)) (u := undef) rfl (wantedOf (j := 1) (b := true) rfl rfl rfl (by rw [hI.len]; show _ < 257; decide) (hI.slot 1 155 rfl (hpre ⟨1, .guard⟩ (by simp) rfl) rfl)) rfl (hI.slot 20 174 rfl (hpre ⟨20, .data⟩ (by simp) rfl) rfl) (fun _ => (hI.slot 31 185 rfl (hpre ⟨31, .data⟩ (by simp) rfl) rfl)) (fun h => by cases h) ⟨_, rfl, hJ, fun _ => rfl, fun _ _ _ h => h⟩
                            | 33, _ =>
                              cases ho
                              exact wpOp_notP rfl (wantedOf (j := 1) (b := true) rfl rfl rfl (by rw [hI.len]; show _ < 257; decide) (hI.slot 1 155 rfl (hpre ⟨1, .guard⟩ (by simp) rfl) rfl)) rfl (hI.slot 32 186 rfl (hpre ⟨32, .data⟩ (by simp) rfl) rfl) rfl ⟨_, rfl, hJ, fun _ => rfl, fun _ _ _ h => h⟩
                            | 34, _ =>
                              cases ho
                              exact wpOp_pick2 (v := (.bool true)) (u := undef) rfl rfl rfl (hI.slot 1 155 rfl (hpre ⟨1, .data⟩ (by simp) rfl) rfl) (fun _ => (hI.slot 33 187 rfl (hpre ⟨33, .data⟩ (by simp) rfl) rfl)) (fun h => by cases h) ⟨_, rfl, hJ, fun _ => rfl, fun _ _ _ h => h⟩
                            | 35, _ =>
                              cases ho
                              exact wpOp_move rfl rfl (.inr rfl) (hI.slot 34 188 rfl (hpre ⟨34, .data⟩ (by simp) rfl) rfl) ⟨_, rfl, hJ, fun _ => rfl, fun _ _ _ h => h⟩
                          case fin =>
                            intro listed a w' hIn hall
                            have hI := hIn.toL
                            clear hIn
                            have hJ := hI.inv
                            have eS18 : a.tmps.getD 18 undef = .bool true := hI.slot 35 18 rfl (hall 35 (by decide)) rfl
                            obtain ⟨vs, us, hvl, hul, hvs, hus, e⟩ := hI.frame2 18 1 154 35 (by decide) (Nat.le_of_ble_eq_true (by kernel_rfl)) (by kernel_rfl)
                            have vS18 := hvs 0 (by decide)
                            clear hI hall hvs hus
                            match vs, us, hvl, hul with
                            | [x0], y0 :: y1 :: y2 :: y3 :: y4 :: y5 :: y6 :: y7 :: y8 :: y9 :: y10 :: y11 :: y12 :: y13 :: y14 :: y15 :: y16 :: y17 :: y18 :: y19 :: y20 :: y21 :: y22 :: y23 :: y24 :: y25 :: y26 :: y27 :: y28 :: y29 :: y30 :: y31 :: y32 :: y33 :: y34 :: [], _, _ =>
                            simp only [List.getElem?_cons_zero, Option.some.injEq] at vS18
                            rw [show 18 + 0 = 18 from rfl, eS18] at vS18
                            subst vS18
                            simp only [List.take_succ_cons, List.take_zero, List.drop_succ_cons, List.drop_zero, List.cons_append, List.nil_append, Nat.reduceAdd, Nat.reduceSub] at e
                            subst e
                            clear eS18
                            subst hJ
                            clear kx0 kx1 ky0 ky1
                            go_wp2
                            exact ⟨⟨k + 1, rfl, by omega, by omega, congrArg Value.bool (lastB_off hlb hy fun _ h => hC (sameE.1 h).2.symm).symm, HZ.out⟩, by show n - ((k : Int) + 1).toNat < n - (k : Int).toNat; omega⟩
                        case pos =>
                          refine wp_region_n (fun _ W => W = w10.drew) (R30E B o n cap i k x y) (by kernel_rfl) (by kernel_rfl) (by kernel_rfl) (by kernel_rfl) rfl ?step ?fin
                          case step =>
                            intro i o ho listed a w' hIn hn' hpre
                            have hI := hIn.toL
                            have hJ := hI.inv
                            have hi : i < 36 := (Array.getElem?_eq_some_iff.1 ho).1
                            match i, hi with
                            | 0, _ =>
                              cases ho
                              exact wpOp_move rfl rfl (.inl rfl) (hIn.later 35 (t := 18) (by kernel_rfl) (hI.notyet hn' 35 (by kernel_rfl))) ⟨_, rfl, hJ, fun _ => rfl, fun _ _ _ h => h⟩
                            | 1, _ =>
                              cases ho
                              exact wpOp_move rfl rfl (.inl rfl) (hI.slot 0 154 rfl (hpre ⟨0, .data⟩ (by simp) rfl) rfl) ⟨_, rfl, hJ, fun _ => rfl, fun _ _ _ h => h⟩
                            | 2, _ =>
                              cases ho
                              exact wpOp_move rfl (wantedOf (j := 1) (b := true) rfl rfl rfl (by rw [hI.len]; show _ < 257; decide) (hI.slot 1 155 rfl (hpre ⟨1, .guard⟩ (by simp) rfl) rfl)) (.inl rfl) (hI.kept (t := 21) (by kernel_rfl)) ⟨_, rfl, hJ, fun _ => rfl, fun _ _ _ h => h⟩
                            | 3, _ =>
                              cases ho
                              exact wpOp_move rfl (wantedOf (j := 1) (b := true) rfl rfl rfl (by rw [hI.len]; show _ < 257; decide) (hI.slot 1 155 rfl (hpre ⟨1, .chain⟩ (by simp) rfl) rfl)) (.inl rfl) (hI.slot 2 156 rfl (hpre ⟨2, .data⟩ (by simp) rfl) rfl) ⟨_, rfl, hJ, fun _ => rfl, fun _ _ _ h => h⟩
                            | 4, _ =>
                              cases ho
                              exact wpOp_move rfl (wantedOf (j := 3) (b := true) rfl rfl rfl (by rw [hI.len]; show _ < 257; decide) (hI.slot 3 157 rfl (hpre ⟨3, .guard⟩ (by simp) rfl) rfl)) (.inl rfl) (hI.kept (t := 22) (by kernel_rfl)) ⟨_, rfl, hJ, fun _ => rfl, fun _ _ _ h => h⟩
                            | 5, _ =>
                              cases ho
                              exact wpOp_bin rfl (wantedOf (j := 3) (b := true) rfl rfl rfl (by rw [hI.len]; show _ < 257; decide) (hI.slot 3 157 rfl (hpre ⟨3, .guard⟩ (by simp) rfl) rfl)) rfl (hI.slot 4 158 rfl (hpre ⟨4, .data⟩ (by simp) rfl) rfl) rfl (by simp [go_sem]) (by simp [go_sem]) ⟨_, rfl, hJ, fun _ => rfl, fun _ _ _ h => h⟩
                            | 6, _ =>
                              cases ho
                              exact wpOp_pick2 (v := (.bool true)) (u := undef) rfl (wantedOf (j := 1) (b := true) rfl rfl rfl (by rw [hI.len]; show _ < 257; decide) (hI.slot 1 155 rfl (hpre ⟨1, .guard⟩ (by simp) rfl) rfl)) rfl (hI.slot 3 157 rfl (hpre ⟨3, .data⟩ (by simp) rfl) rfl) (fun _ => (hI.slot 5 159 rfl (hpre ⟨5, .data⟩ (by simp) rfl) rfl)) (fun h => by cases h) ⟨_, rfl, hJ, fun _ => rfl, fun _ _ _ h => h⟩
                            | 7, _ =>
                              cases ho
                              exact wpOp_move rfl (wantedOf (j := 1) (b := true) rfl rfl rfl (by rw [hI.len]; show _ < 257; decide) (hI.slot 1 155 rfl (hpre ⟨1, .guard⟩ (by simp) rfl) rfl)) (.inl rfl) (hI.slot 6 160 rfl (hpre ⟨6, .data⟩ (by simp) rfl) rfl) ⟨_, rfl, hJ, fun _ => rfl, fun _ _ _ h => h⟩
                            | 8, _ =>
                              cases ho
                              exact wpOp_move rfl (wantedOf (j := 7) (b := true) rfl rfl rfl (by rw [hI.len]; show _ < 257; decide) (hI.slot 7 161 rfl (hpre ⟨7, .guard⟩ (by simp) rfl) rfl)) (.inl rfl) (hI.kept (t := 0) (by kernel_rfl)) ⟨_, rfl, hJ, fun _ => rfl, fun _ _ _ h => h⟩
                            | 9, _ =>
                              cases ho
                              exact wpOp_move rfl (wantedOf (j := 7) (b := true) rfl rfl rfl (by rw [hI.len]; show _ < 257; decide) (hI.slot 7 161 rfl (hpre ⟨7, .guard⟩ (by simp) rfl) rfl)) (.inl rfl) (hI.kept (t := 19) (by kernel_rfl)) ⟨_, rfl, hJ, fun _ => rfl, fun _ _ _ h => h⟩
                            | 10, _ =>
                              cases ho
                              exact wpOp_index rfl (wantedOf (j := 7) (b := true) rfl rfl rfl (by rw [hI.len]; show _ < 257; decide) (hI.slot 7 161 rfl (hpre ⟨7, .guard⟩ (by simp) rfl) rfl)) rfl (hI.slot 8 162 rfl (hpre ⟨8, .data⟩ (by simp) rfl) rfl) (hI.slot 9 163 rfl (hpre ⟨9, .data⟩ (by simp) rfl) rfl) (hixk w') ⟨_, rfl, hJ, fun _ => rfl, fun _ _ _ h => h⟩
                            | 11, _ =>
                              cases ho
                              exact wpOp_field rfl (wantedOf (j := 7) (b := true) rfl rfl rfl (by rw [hI.len]; show _ < 257; decide) (hI.slot 7 161 rfl (hpre ⟨7, .guard⟩ (by simp) rfl) rfl)) rfl (hI.slot 10 164 rfl (hpre ⟨10, .data⟩ (by simp) rfl) rfl) (by simp [go_sem]) ⟨_, rfl, hJ, fun _ => rfl, fun _ _ _ h => h⟩
                            | 12, _ =>
                              cases ho
                              exact wpOp_load rfl (wantedOf (j := 7) (b := true) rfl rfl rfl (by rw [hI.len]; show _ < 257; decide) (hI.slot 7 161 rfl (hpre ⟨7, .guard⟩ (by simp) rfl) rfl)) rfl (hI.slot 11 165 rfl (hpre ⟨11, .data⟩ (by simp) rfl) rfl) (load_c (Tryz.isAgg9 w') (show w'.cell? _ = _ from by rw [hJ]; exact ky0)) ⟨_, rfl, hJ, fun _ => rfl, fun _ _ _ h => h⟩
                            | 13, _ =>
                              cases ho
                              exact wpOp_move rfl (wantedOf (j := 7) (b := true) rfl rfl rfl (by rw [hI.len]; show _ < 257; decide) (hI.slot 7 161 rfl (hpre ⟨7, .guard⟩ (by simp) rfl) rfl)) (.inl rfl) (hI.kept (t := 0) (by kernel_rfl)) ⟨_, rfl, hJ, fun _ => rfl, fun _ _ _ h => h⟩
                            | 14, _ =>
                              cases ho
                              exact wpOp_move rfl (wantedOf (j := 7) (b := true) rfl rfl rfl (by rw [hI.len]; show _ < 257; decide) (hI.slot 7 161 rfl (hpre ⟨7, .guard⟩ (by simp) rfl) rfl)) (.inl rfl) (hI.kept (t := 9) (by kernel_rfl)) ⟨_, rfl, hJ, fun _ => rfl, fun _ _ _ h => h⟩
                            | 15, _ =>
                              cases ho
                              exact wpOp_index rfl (wantedOf (j := 7) (b := true) rfl rfl rfl (by rw [hI.len]; show _ < 257; decide) (hI.slot 7 161 rfl (hpre ⟨7, .guard⟩ (by simp) rfl) rfl)) rfl (hI.slot 13 167 rfl (hpre ⟨13, .data⟩ (by simp) rfl) rfl) (hI.slot 14 168 rfl (hpre ⟨14, .data⟩ (by simp) rfl) rfl) (hixa w') ⟨_, rfl, hJ, fun _ => rfl, fun _ _ _ h => h⟩
                            | 16, _ =>
                              cases ho
                              exact wpOp_field rfl (wantedOf (j := 7) (b := true) rfl rfl rfl (by rw [hI.len]; show _ < 257; decide) (hI.slot 7 161 rfl (hpre ⟨7, .guard⟩ (by simp) rfl) rfl)) rfl (hI.slot 15 169 rfl (hpre ⟨15, .data⟩ (by simp) rfl) rfl) (by simp [go_sem]) ⟨_, rfl, hJ, fun _ => rfl, fun _ _ _ h => h⟩
                            | 17, _ =>
                              cases ho
                              exact wpOp_load rfl (wantedOf (j := 7) (b := true) rfl rfl rfl (by rw [hI.len]; show _ < 257; decide) (hI.slot 7 161 rfl (hpre ⟨7, .guard⟩ (by simp) rfl) rfl)) rfl (hI.slot 16 170 rfl (hpre ⟨16, .data⟩ (by simp) rfl) rfl) (load_c (Tryz.isAgg9 w') (show w'.cell? _ = _ from by rw [hJ]; exact kx0)) ⟨_, rfl, hJ, fun _ => rfl, fun _ _ _ h => h⟩
                            | 18, _ =>
                              cases ho
                              exact wpOp_bin rfl (wantedOf (j := 7) (b := true) rfl rfl rfl (by rw [hI.len]; show _ < 257; decide) (hI.slot 7 161 rfl (hpre ⟨7, .guard⟩ (by simp) rfl) rfl)) rfl (hI.slot 12 166 rfl (hpre ⟨12, .data⟩ (by simp) rfl) rfl) (hI.slot 17 171 rfl (hpre ⟨17, .data⟩ (by simp) rfl) rfl) (by simp [go_sem]) (by simp [go_sem, hF]) ⟨_, rfl, hJ, fun _ => rfl, fun _ _ _ h => h⟩
                            | 19, _ =>
                              cases ho
                              exact wpOp_pick2 (v := (.bool true)) (u := undef) rfl (wantedOf (j := 1) (b := true) rfl rfl rfl (by rw [hI.len]; show _ < 257; decide) (hI.slot 1 155 rfl (hpre ⟨1, .guard⟩ (by simp) rfl) rfl)) rfl (hI.slot 7 161 rfl (hpre ⟨7, .data⟩ (by simp) rfl) rfl) (fun _ => (hI.slot 18 172 rfl (hpre ⟨18, .data⟩ (by simp) rfl) rfl)) (fun h => by cases h) ⟨_, rfl, hJ, fun _ => rfl, fun _ _ _ h => h⟩
                            | 20, _ =>
                              cases ho
                              exact wpOp_move rfl (wantedOf (j := 1) (b := true) rfl rfl rfl (by rw [hI.len]; show _ < 257; decide) (hI.slot 1 155 rfl (hpre ⟨1, .guard⟩ (by simp) rfl) rfl)) (.inl rfl) (hI.slot 19 173 rfl (hpre ⟨19, .data⟩ (by simp) rfl) rfl) ⟨_, rfl, hJ, fun _ => rfl, fun _ _ _ h => h⟩
                            | 21, _ =>
                              cases ho
                              exact wpOp_move rfl (wantedOf (j := 20) (b := true) rfl rfl rfl (by rw [hI.len]; show _ < 257; decide) (hI.slot 20 174 rfl (hpre ⟨20, .guard⟩ (by simp) rfl) rfl)) (.inl rfl) (hI.kept (t := 0) (by kernel_rfl)) ⟨_, rfl, hJ, fun _ => rfl, fun _ _ _ h => h⟩
                            | 22, _ =>
                              cases ho
                              exact wpOp_move rfl (wantedOf (j := 20) (b := true) rfl rfl rfl (by rw [hI.len]; show _ < 257; decide) (hI.slot 20 174 rfl (hpre ⟨20, .guard⟩ (by simp) rfl) rfl)) (.inl rfl) (hI.kept (t := 19) (by kernel_rfl)) ⟨_, rfl, hJ, fun _ => rfl, fun _ _ _ h => h⟩
                            | 23, _ =>
                              cases ho
                              exact wpOp_index rfl (wantedOf (j := 20) (b := true) rfl rfl rfl (by rw [hI.len]; show _ < 257; decide) (hI.slot 20 174 rfl (hpre ⟨20, .guard⟩ (by simp) rfl) rfl)) rfl (hI.slot 21 175 rfl (hpre ⟨21, .data⟩ (by simp) rfl) rfl) (hI.slot 22 176 rfl (hpre ⟨22, .data⟩ (by simp) rfl) rfl) (hixk w') ⟨_, rfl, hJ, fun _ => rfl, fun _ _ _ h => h⟩
                            | 24, _ =>
                              cases ho
                              exact wpOp_field rfl (wantedOf (j := 20) (b := true) rfl rfl rfl (by rw [hI.len]; show _ < 257; decide) (hI.slot 20 174 rfl (hpre ⟨20, .guard⟩ (by simp) rfl) rfl)) rfl (hI.slot 23 177 rfl (hpre ⟨23, .data⟩ (by simp) rfl) rfl) (by simp [go_sem]) ⟨_, rfl, hJ, fun _ => rfl, fun _ _ _ h => h⟩
                            | 25, _ =>
                              cases ho
                              exact wpOp_load rfl (wantedOf (j := 20) (b := true) rfl rfl rfl (by rw [hI.len]; show _ < 257; decide) (hI.slot 20 174 rfl (hpre ⟨20, .guard⟩ (by simp) rfl) rfl)) rfl (hI.slot 24 178 rfl (hpre ⟨24, .data⟩ (by simp) rfl) rfl) (load_c (Tryz.isAgg9 w') (show w'.cell? _ = _ from by rw [hJ]; exact ky1)) ⟨_, rfl, hJ, fun _ => rfl, fun _ _ _ h => h⟩
                            | 26, _ =>
                              cases ho
                              exact wpOp_move rfl (wantedOf (j := 20) (b := true) rfl rfl rfl (by rw [hI.len]; show _ < 257; decide) (hI.slot 20 174 rfl (hpre ⟨20, .guard⟩ (by simp) rfl) rfl)) (.inl rfl) (hI.kept (t := 0) (by kernel_rfl)) ⟨_, rfl, hJ, fun _ => rfl, fun _ _ _ h => h⟩
                            | 27, _ =>
                              cases ho
                              exact wpOp_move rfl (wantedOf (j := 20) (b := true) rfl rfl rfl (by rw [hI.len]; show _ < 257; decide) (hI.slot 20 174 rfl (hpre ⟨20, .guard⟩ (by simp) rfl) rfl)) (.inl rfl) (hI.kept (t := 9) (by kernel_rfl)) ⟨_, rfl, hJ, fun _ => rfl, fun _ _ _ h => h⟩
                            | 28, _ =>
                              cases ho
                              exact wpOp_index rfl (wantedOf (j := 20) (b := true) rfl rfl rfl (by rw [hI.len]; show _ < 257; decide) (hI.slot 20 174 rfl (hpre ⟨20, .guard⟩ (by simp) rfl) rfl)) rfl (hI.slot 26 180 rfl (hpre ⟨26, .data⟩ (by simp) rfl) rfl) (hI.slot 27 181 rfl (hpre ⟨27, .data⟩ (by simp) rfl) rfl) (hixa w') ⟨_, rfl, hJ, fun _ => rfl, fun _ _ _ h => h⟩
                            | 29, _ =>
                              cases ho
                              exact wpOp_field rfl (wantedOf (j := 20) (b := true) rfl rfl rfl (by rw [hI.len]; show _ < 257; decide) (hI.slot 20 174 rfl (hpre ⟨20, .guard⟩ (by simp) rfl) rfl)) rfl (hI.slot 28 182 rfl (hpre ⟨28, .data⟩ (by simp) rfl) rfl) (by simp [go_sem]) ⟨_, rfl, hJ, fun _ => rfl, fun _ _ _ h => h⟩
                            | 30, _ =>
                              cases ho
                              exact wpOp_load rfl (wantedOf (j := 20) (b := true) rfl rfl rfl (by rw [hI.len]; show _ < 257; decide) (hI.slot 20 174 rfl (hpre ⟨20, .guard⟩ (by simp) rfl) rfl)) rfl (hI.slot 29 183 rfl (hpre ⟨29, .data⟩ (by simp) rfl) rfl) (load_c (Tryz.isAgg9 w') (show w'.cell? _ = _ from by rw [hJ]; exact kx1)) ⟨_, rfl, hJ, fun _ => rfl, fun _ _ _ h => h⟩
                            | 31, _ =>
                              cases ho
                              exact wpOp_bin rfl (wantedOf (j := 20) (b := true) rfl rfl rfl (by rw [hI.len]; show _ < 257; decide) (hI.slot 20 174 rfl (hpre ⟨20, .guard⟩ (by simp) rfl) rfl)) rfl (hI.slot 25 179 rfl (hpre ⟨25, .data⟩ (by simp) rfl) rfl) (hI.slot 30 184 rfl (hpre ⟨30, .data⟩ (by simp) rfl) rfl) (by simp [go_sem]) (by simp [go_sem, hC]) ⟨_, rfl, hJ, fun _ => rfl, fun _ _ _ h => h⟩
                            | 32, _ =>
                              cases ho
                              exact wpOp_pick2 (v := (.bool true)) (u := undef) rfl (wantedOf (j := 1) (b := true) rfl rfl rfl (by rw [hI.len]; show _ < 257; decide) (hI.slot 1 155 rfl (hpre ⟨1, .guard⟩ (by simp) rfl) rfl)) rfl (hI.slot 20 174 rfl (hpre ⟨20, .data⟩ (by simp) rfl) rfl) (fun _ => (hI.slot 31 185 rfl (hpre ⟨31, .data⟩ (by simp) rfl) rfl)) (fun h => by cases h) ⟨_, rfl, hJ, fun _ => rfl, fun _ _ _ h => h⟩
                            | 33, _ =>
                              cases ho
                              exact wpOp_notP rfl (wantedOf (j := 1) (b := true) rfl rfl rfl (by rw [hI.len]; show _ < 257; decide) (hI.slot 1 155 rfl (hpre ⟨1, .guard⟩ (by simp) rfl) rfl)) rfl (hI.slot 32 186 rfl (hpre ⟨32, .data⟩ (by simp) rfl) rfl) rfl ⟨_, rfl, hJ, fun _ => rfl, fun _ _ _ h => h⟩
                            | 34, _ =>
                              cases ho
                              exact wpOp_pick2 (v := (.bool false)) (u := undef) rfl rfl rfl (hI.slot 1 155 rfl (hpre ⟨1, .data⟩ (by simp) rfl) rfl) (fun _ => (hI.slot 33 187 rfl (hpre ⟨33, .data⟩ (by simp) rfl) rfl)) (fun h => by cases h) ⟨_, rfl, hJ, fun _ => rfl, fun _ _ _ h => h⟩
                            | 35, _ =>
                              cases ho
                              exact wpOp_move rfl rfl (.inr rfl) (hI.slot 34 188 rfl (hpre ⟨34, .data⟩ (by simp) rfl) rfl) ⟨_, rfl, hJ, fun _ => rfl, fun _ _ _ h => h⟩
                          case fin =>
                            intro listed a w' hIn hall
                            have hI := hIn.toL
                            clear hIn
                            have hJ := hI.inv
                            have eS18 : a.tmps.getD 18 undef = .bool false := hI.slot 35 18 rfl (hall 35 (by decide)) rfl
                            obtain ⟨vs, us, hvl, hul, hvs, hus, e⟩ := hI.frame2 18 1 154 35 (by decide) (Nat.le_of_ble_eq_true (by kernel_rfl)) (by kernel_rfl)
                            have vS18 := hvs 0 (by decide)
                            clear hI hall hvs hus
                            match vs, us, hvl, hul with
                            | [x0], y0 :: y1 :: y2 :: y3 :: y4 :: y5 :: y6 :: y7 :: y8 :: y9 :: y10 :: y11 :: y12 :: y13 :: y14 :: y15 :: y16 :: y17 :: y18 :: y19 :: y20 :: y21 :: y22 :: y23 :: y24 :: y25 :: y26 :: y27 :: y28 :: y29 :: y30 :: y31 :: y32 :: y33 :: y34 :: [], _, _ =>
                            simp only [List.getElem?_cons_zero, Option.some.injEq] at vS18
                            rw [show 18 + 0 = 18 from rfl, eS18] at vS18
                            subst vS18
                            simp only [List.take_succ_cons, List.take_zero, List.drop_succ_cons, List.drop_zero, List.cons_append, List.nil_append, Nat.reduceAdd, Nat.reduceSub] at e
                            subst e
                            clear eS18
                            subst hJ
                            clear kx0 kx1 ky0 ky1
                            go_wp2
                            exact ⟨⟨k + 1, rfl, by omega, by omega, congrArg Value.bool (lastB_on hik hy hyo (sameE.2 ⟨hF.symm, hC.symm⟩)).symm, HZ.out⟩, by show n - ((k : Int) + 1).toNat < n - (k : Int).toNat; omega⟩
                case inr =>
                  have hlt : ¬ (k : Int) < (n : Int) := by omega
                  have hkn2 : k = n := by omega
                  obtain ⟨hall, hXl, hset, hok⟩ := HD.out
                  have hbw := fun k hk => hbk.block k hk
                  cases lb
                  case false =>
                    have HG := Lib.hid (And.intro (FA.below hbk) (And.intro (O8.below hbk) (And.intro hall hXl)))
                    clear FA FB AS O8 hltA hltB hsz hlow hbk hall hXl hset hok hbw hlb
                    go_wp2
                    obtain ⟨FA, O8, hall, hXl⟩ := HG.out
                    exact ⟨⟨i + 1, tA1, X, rfl, hin, FA, O8.move (N' := BkF BkA tA1) (fun k hk => .inl (.inl hk)), by omega, fun x hx => (hall x hx).mono (by omega)⟩, by show n - ((i : Int) + 1).toNat < n - (i : Int).toNat; omega⟩
                  case true =>
                    obtain ⟨hTd0, hb8, hmt⟩ := HTd.out
                    have hs8 := hb8.size
                    have hsk := hbk.size
                    have hone : OneOf L name.data.toList (i + 1) [] := .inl rfl
                    have hTd : OwnTd wr w.heap.size _ [] := (hTd0.below hbk).mono hsz
                    have hun : ∀ g, (.slice at8 0 ct8 : Value).ownBlock = some g → ¬ (BkF BkA tA1 g ∨ BkF BkB tB1 g) := fun g hg h => h.elim (fun h => by have := hltA g h; have h1 := (ownTd_lt hTd0 g hg).1; omega) fun h => by have := hltB g h; have h1 := (ownTd_lt hTd0 g hg).1; omega
                    have hbox := World.alloc_heap_new wr (.cells #[.slice at8 0 ct8] 42)
                    obtain ⟨v2, w2, hr, hO2, hg2, hv2⟩ := ((O8.below hbk).below ((Below.refl _ wr).alloc (Nat.le_refl _) (.cells #[.slice at8 0 ct8] 42))).snoc 62 wr.heap.size _ [] (hTd.below ((Below.refl _ wr).alloc (Nat.le_refl _) _)) hun hbox (fun k hk => by have := hk.elim (hltA k) (hltB k); have h2 := hbk.size; simp; omega) (by omega) (by have := hlow.size; simp; omega)
                    have hlow2 : Below w.heap.size w w2 := (hlow.alloc hlow.size _).grown hg2 (by have := hlow.size; simp; omega) (fun b e => (hv2 b e).2)
                    have FA2 : Fresh w BkA (setsE L (i + 1)) tA1 w2 := ⟨FA.book.keeps fun k hk => (hg2.block k (by have := hltA k hk; have := hbk.size; simp; omega) fun e => (hv2 k e.symm).1 (.inl hk)).trans ((((Below.refl _ wr).alloc (Nat.le_refl _) _).block k (by have := hltA k hk; have := hbk.size; omega)).trans (hbk.block k (by have := hltA k hk; omega))), FA.new, hlow2⟩
                    have HG := Lib.hid (And.intro FA2 (And.intro hO2 (And.intro hall (And.intro hXl hone))))
                    clear FA FB AS O8 hltA hltB hsz hlow hbk hall hXl hset hok hbw hlb hmt hTd hTd0 hun hbox hb8 hO2 hg2 hv2 hlow2 FA2 hone
                    go_wp2_with (at_builtin; refine wpList_append_val rfl rfl rfl rfl hr ?_)
                    obtain ⟨FA, O8, hall, hXl, hone⟩ := HG.out
                    exact ⟨⟨i + 1, tA1, X ++ [[]], rfl, hin, FA, O8.move (N' := BkF BkA tA1) (fun k hk => .inl (.inl hk)), by rw [List.length_append]; show X.length + 1 ≤ i + 1; omega, fun x hx => (List.mem_append.1 hx).elim (fun hx => (hall x hx).mono (by omega)) fun hx => by rw [List.mem_singleton.1 hx]; exact hone⟩, by show n - ((i : Int) + 1).toNat < n - (i : Int).toNat; omega⟩
          case true =>
            obtain ⟨e0, he0⟩ : ∃ e0 : Txt × Nat, ((enS x).c, (enS x).q) = e0 := ⟨_, rfl⟩
            have hTd : OwnTd w8 w7.heap.size v8 [((enS x).c, (enS x).q)] := hTd
            rw [he0] at hTd
            obtain ⟨B8, c8, rfl, t0, t1⟩ : ∃ B c, v8 = .slice (some ⟨B, 0, none⟩) 1 c ∧ w8.cell? ⟨B, 0 + 0 * 2, none⟩ = some (.string (str e0.1)) ∧ w8.cell? ⟨B, 0 + 0 * 2 + 1, none⟩ = some (.int .i64 (e0.2 : Int)) := ownTd_at (i := 0) hTd rfl
            have HTd := Lib.hid (And.intro hTd (And.intro hb8 hmt))
            have HTc := Lib.hid (And.intro t0 (And.intro t1 (ownTd_lt hTd B8 rfl).2))
            clear hTd hb8 hmt t0 t1
            go_wp2_with (go_at_call 28; refine HRM.out.mono ?_; rintro e w9 ⟨rfl, hb9⟩; have HB9 := Lib.hid hb9; clear hb9)
            obtain ⟨-, q1, q2⟩ := HC.out w9 (H8.out.1.low.trans (HB9.out.mono H8.out.1.low.size))
            have q1 : w9.cell? ⟨B, o + i * 3 + 1, none⟩ = some (.string (str e0.1)) := by rw [← he0]; exact q1
            have q2 : w9.cell? ⟨B, o + i * 3 + 2, none⟩ = some (.int .i64 (e0.2 : Int)) := by rw [← he0]; show _ = some (Value.int .i64 ((enS x).q : Int)); rw [← hq.out]; exact q2
            have t0 : w9.cell? ⟨B8, 0 + 0 * 2, none⟩ = some (.string (str e0.1)) := (HB9.out.cell (p := ⟨B8, 0 + 0 * 2, none⟩) HTc.out.2.2).trans HTc.out.1
            have t1 : w9.cell? ⟨B8, 0 + 0 * 2 + 1, none⟩ = some (.int .i64 (e0.2 : Int)) := (HB9.out.cell (p := ⟨B8, 0 + 0 * 2 + 1, none⟩) HTc.out.2.2).trans HTc.out.2.1
            refine wp_region_m (fun _ W => W = w9.drew) (R23T B o n cap i B8 c8 e0) (by kernel_rfl) (by kernel_rfl) (by kernel_rfl) (by kernel_rfl) rfl ?step ?fin
            case step =>
              intro i o ho listed a w' hI hn' hpre
              have hJ := hI.inv
              have hi : i < 30 := (Array.getElem?_eq_some_iff.1 ho).1
              match i, hi with
              | 0, _ =>
                cases ho
                exact wpOp_move rfl rfl (.inl rfl) (hI.kept (t := 15) (by kernel_rfl)) ⟨_, rfl, hJ, fun _ => rfl, fun _ _ _ h => h⟩
              | 1, _ =>
                cases ho
                exact wpOp_lenTd rfl rfl rfl (hI.slot 0 107 rfl (hpre ⟨0, .data⟩ (by simp) rfl) rfl) ⟨_, rfl, hJ, fun _ => rfl, fun _ _ _ h => h⟩
              | 2, _ =>
                cases ho
                exact wpOp_bin rfl rfl rfl (hI.slot 1 108 rfl (hpre ⟨1, .data⟩ (by simp) rfl) rfl) rfl (by simp [go_sem]) (by simp [go_sem]) ⟨_, rfl, hJ, fun _ => rfl, fun _ _ _ h => h⟩
              | 3, _ =>
                cases ho
                exact wpOp_move rfl rfl (.inl rfl) (hI.kept (t := 17) (by kernel_rfl)) ⟨_, rfl, hJ, fun _ => rfl, fun _ _ _ h => h⟩
              | 4, _ =>
                cases ho
                exact wpOp_bin rfl rfl rfl (hI.slot 2 109 rfl (hpre ⟨2, .data⟩ (by simp) rfl) rfl) (hI.slot 3 110 rfl (hpre ⟨3, .data⟩ (by simp) rfl) rfl) (by simp [go_sem]) (by simp [go_sem]) ⟨_, rfl, hJ, fun _ => rfl, fun _ _ _ h => h⟩
              | 5, _ =>
                cases ho
                exact wpOp_move rfl rfl (.inl rfl) (hI.slot 4 111 rfl (hpre ⟨4, .data⟩ (by simp) rfl) rfl) ⟨_, rfl, hJ, fun _ => rfl, fun _ _ _ h => h⟩
              | 6, _ =>
                cases ho
                exact wpOp_move rfl (wantedOf (j := 5) (b := false) rfl rfl rfl (by rw [hI.len]; show _ < 257; decide) (hI.slot 5 112 rfl (hpre ⟨5, .guard⟩ (by simp) rfl) rfl)) (.inl rfl) (hI.kept (t := 15) (by kernel_rfl)) ⟨_, rfl, hJ, fun _ => rfl, fun _ _ _ h => h⟩
              | 7, _ =>
                cases ho
                exact wpOp_lenTd rfl (wantedOf (j := 5) (b := false) rfl rfl rfl (by rw [hI.len]; show _ < 257; decide) (hI.slot 5 112 rfl (hpre ⟨5, .guard⟩ (by simp) rfl) rfl)) rfl (hI.slot 6 113 rfl (hpre ⟨6, .data⟩ (by simp) rfl) rfl) ⟨_, rfl, hJ, fun _ => rfl, fun _ _ _ h => h⟩
              | 8, _ =>
                cases ho
                exact wpOp_bin rfl (wantedOf (j := 5) (b := false) rfl rfl rfl (by rw [hI.len]; show _ < 257; decide) (hI.slot 5 112 rfl (hpre ⟨5, .guard⟩ (by simp) rfl) rfl)) rfl (hI.slot 7 114 rfl (hpre ⟨7, .data⟩ (by simp) rfl) rfl) rfl (by simp [go_sem]) (by simp [go_sem]) ⟨_, rfl, hJ, fun _ => rfl, fun _ _ _ h => h⟩
              | 9, _ =>
                cases ho
                exact wpOp_pick2 (v := undef) (u := (.bool false)) rfl rfl rfl (hI.slot 5 112 rfl (hpre ⟨5, .data⟩ (by simp) rfl) rfl) (fun h => by cases h) (fun _ => (hI.slot 8 115 rfl (hpre ⟨8, .data⟩ (by simp) rfl) rfl)) ⟨_, rfl, hJ, fun _ => rfl, fun _ _ _ h => h⟩
              | 10, _ =>
                cases ho
                exact wpOp_move rfl rfl (.inl rfl) (hI.slot 9 116 rfl (hpre ⟨9, .data⟩ (by simp) rfl) rfl) ⟨_, rfl, hJ, fun _ => rfl, fun _ _ _ h => h⟩
              | 11, _ =>
                cases ho
                exact wpOp_move rfl (wantedOf (j := 10) (b := false) rfl rfl rfl (by rw [hI.len]; show _ < 257; decide) (hI.slot 10 117 rfl (hpre ⟨10, .guard⟩ (by simp) rfl) rfl)) (.inl rfl) (hI.kept (t := 17) (by kernel_rfl)) ⟨_, rfl, hJ, fun _ => rfl, fun _ _ _ h => h⟩
              | 12, _ =>
                cases ho
                exact wpOp_move rfl (wantedOf (j := 10) (b := false) rfl rfl rfl (by rw [hI.len]; show _ < 257; decide) (hI.slot 10 117 rfl (hpre ⟨10, .chain⟩ (by simp) rfl) rfl)) (.inl rfl) (hI.slot 11 118 rfl (hpre ⟨11, .data⟩ (by simp) rfl) rfl) ⟨_, rfl, hJ, fun _ => rfl, fun _ _ _ h => h⟩
              | 13, _ =>
                cases ho
                exact wpOp_move rfl (wantedOf (j := 12) (b := true) rfl rfl rfl (by rw [hI.len]; show _ < 257; decide) (hI.slot 12 119 rfl (hpre ⟨12, .guard⟩ (by simp) rfl) rfl)) (.inl rfl) (hI.kept (t := 15) (by kernel_rfl)) ⟨_, rfl, hJ, fun _ => rfl, fun _ _ _ h => h⟩
              | 14, _ =>
                cases ho
                exact wpOp_index rfl (wantedOf (j := 12) (b := true) rfl rfl rfl (by rw [hI.len]; show _ < 257; decide) (hI.slot 12 119 rfl (hpre ⟨12, .guard⟩ (by simp) rfl) rfl)) rfl (hI.slot 13 120 rfl (hpre ⟨13, .data⟩ (by simp) rfl) rfl) rfl (index_td w' B8 0 1 c8 0 (by decide)) ⟨_, rfl, hJ, fun _ => rfl, fun _ _ _ h => h⟩
              | 15, _ =>
                cases ho
                exact wpOp_load rfl (wantedOf (j := 12) (b := true) rfl rfl rfl (by rw [hI.len]; show _ < 257; decide) (hI.slot 12 119 rfl (hpre ⟨12, .guard⟩ (by simp) rfl) rfl)) rfl (hI.slot 14 121 rfl (hpre ⟨14, .data⟩ (by simp) rfl) rfl) (load_td (show w'.cell? _ = _ from by rw [hJ]; exact t0) (show w'.cell? _ = _ from by rw [hJ]; exact t1)) ⟨_, rfl, hJ, fun _ => rfl, fun _ _ _ h => h⟩
              | 16, _ =>
                cases ho
                exact wpOp_move rfl (wantedOf (j := 12) (b := true) rfl rfl rfl (by rw [hI.len]; show _ < 257; decide) (hI.slot 12 119 rfl (hpre ⟨12, .guard⟩ (by simp) rfl) rfl)) (.inl rfl) (hI.kept (t := 0) (by kernel_rfl)) ⟨_, rfl, hJ, fun _ => rfl, fun _ _ _ h => h⟩
              | 17, _ =>
                cases ho
                exact wpOp_move rfl (wantedOf (j := 12) (b := true) rfl rfl rfl (by rw [hI.len]; show _ < 257; decide) (hI.slot 12 119 rfl (hpre ⟨12, .guard⟩ (by simp) rfl) rfl)) (.inl rfl) (hI.kept (t := 9) (by kernel_rfl)) ⟨_, rfl, hJ, fun _ => rfl, fun _ _ _ h => h⟩
              | 18, _ =>
                cases ho
                exact wpOp_index rfl (wantedOf (j := 12) (b := true) rfl rfl rfl (by rw [hI.len]; show _ < 257; decide) (hI.slot 12 119 rfl (hpre ⟨12, .guard⟩ (by simp) rfl) rfl)) rfl (hI.slot 16 123 rfl (hpre ⟨16, .data⟩ (by simp) rfl) rfl) (hI.slot 17 124 rfl (hpre ⟨17, .data⟩ (by simp) rfl) rfl) (hixa w') ⟨_, rfl, hJ, fun _ => rfl, fun _ _ _ h => h⟩
              | 19, _ =>
                cases ho
                exact wpOp_field rfl (wantedOf (j := 12) (b := true) rfl rfl rfl (by rw [hI.len]; show _ < 257; decide) (hI.slot 12 119 rfl (hpre ⟨12, .guard⟩ (by simp) rfl) rfl)) rfl (hI.slot 18 125 rfl (hpre ⟨18, .data⟩ (by simp) rfl) rfl) (by simp [go_sem]) ⟨_, rfl, hJ, fun _ => rfl, fun _ _ _ h => h⟩
              | 20, _ =>
                cases ho
                exact wpOp_load rfl (wantedOf (j := 12) (b := true) rfl rfl rfl (by rw [hI.len]; show _ < 257; decide) (hI.slot 12 119 rfl (hpre ⟨12, .guard⟩ (by simp) rfl) rfl)) rfl (hI.slot 19 126 rfl (hpre ⟨19, .data⟩ (by simp) rfl) rfl) (load_c (Tryz.isAgg9 w') (show w'.cell? _ = _ from by rw [hJ]; exact q1)) ⟨_, rfl, hJ, fun _ => rfl, fun _ _ _ h => h⟩
              | 21, _ =>
                cases ho
                exact wpOp_move rfl (wantedOf (j := 12) (b := true) rfl rfl rfl (by rw [hI.len]; show _ < 257; decide) (hI.slot 12 119 rfl (hpre ⟨12, .guard⟩ (by simp) rfl) rfl)) (.inl rfl) (hI.kept (t := 0) (by kernel_rfl)) ⟨_, rfl, hJ, fun _ => rfl, fun _ _ _ h => h⟩
              | 22, _ =>
                cases ho
                exact wpOp_move rfl (wantedOf (j := 12) (b := true) rfl rfl rfl (by rw [hI.len]; show _ < 257; decide) (hI.slot 12 119 rfl (hpre ⟨12, .guard⟩ (by simp) rfl) rfl)) (.inl rfl) (hI.kept (t := 9) (by kernel_rfl)) ⟨_, rfl, hJ, fun _ => rfl, fun _ _ _ h => h⟩
              | 23, _ =>
                cases ho
                exact wpOp_index rfl (wantedOf (j := 12) (b := true) rfl rfl rfl (by rw [hI.len]; show _ < 257; decide) (hI.slot 12 119 rfl (hpre ⟨12, .guard⟩ (by simp) rfl) rfl)) rfl (hI.slot 21 128 rfl (hpre ⟨21, .data⟩ (by simp) rfl) rfl) (hI.slot 22 129 rfl (hpre ⟨22, .data⟩ (by simp) rfl) rfl) (hixa w') ⟨_, rfl, hJ, fun _ => rfl, fun _ _ _ h => h⟩
              | 24, _ =>
                cases ho
                exact wpOp_field rfl (wantedOf (j := 12) (b := true) rfl rfl rfl (by rw [hI.len]; show _ < 257; decide) (hI.slot 12 119 rfl (hpre ⟨12, .guard⟩ (by simp) rfl) rfl)) rfl (hI.slot 23 130 rfl (hpre ⟨23, .data⟩ (by simp) rfl) rfl) (by simp [go_sem]) ⟨_, rfl, hJ, fun _ => rfl, fun _ _ _ h => h⟩
              | 25, _ =>
                cases ho
                exact wpOp_load rfl (wantedOf (j := 12) (b := true) rfl rfl rfl (by rw [hI.len]; show _ < 257; decide) (hI.slot 12 119 rfl (hpre ⟨12, .guard⟩ (by simp) rfl) rfl)) rfl (hI.slot 24 131 rfl (hpre ⟨24, .data⟩ (by simp) rfl) rfl) (load_c (Tryz.isAgg3 w') (show w'.cell? _ = _ from by rw [hJ]; exact q2)) ⟨_, rfl, hJ, fun _ => rfl, fun _ _ _ h => h⟩
              | 26, _ =>
                cases ho
                exact wpOp_build rfl (wantedOf (j := 12) (b := true) rfl rfl rfl (by rw [hI.len]; show _ < 257; decide) (hI.slot 12 119 rfl (hpre ⟨12, .guard⟩ (by simp) rfl) rfl)) rfl (vs := #[(0, .string (str e0.1)), (1, .int .i64 (e0.2 : Int))]) (by simp only [List.map_toArray, List.map_cons, List.map_nil, (show a.eval (.tmp 127) = .string (str e0.1) from (hI.slot 20 127 rfl (hpre ⟨20, .data⟩ (by simp) rfl) rfl)), (show a.eval (.tmp 132) = .int .i64 (e0.2 : Int) from (hI.slot 25 132 rfl (hpre ⟨25, .data⟩ (by simp) rfl) rfl))]) (build_told w' _ _) ⟨_, rfl, hJ, fun _ => rfl, fun _ _ _ h => h⟩
              | 27, _ =>
                cases ho
                exact wpOp_bin rfl (wantedOf (j := 12) (b := true) rfl rfl rfl (by rw [hI.len]; show _ < 257; decide) (hI.slot 12 119 rfl (hpre ⟨12, .guard⟩ (by simp) rfl) rfl)) rfl (hI.slot 15 122 rfl (hpre ⟨15, .data⟩ (by simp) rfl) rfl) (hI.slot 26 133 rfl (hpre ⟨26, .data⟩ (by simp) rfl) rfl) (guard_td _ _ _ _ _) ((neq_td _ _ _).trans (by simp)) ⟨_, rfl, hJ, fun _ => rfl, fun _ _ _ h => h⟩
              | 28, _ =>
                cases ho
                exact wpOp_pick2 (v := (.bool false)) (u := undef) rfl (wantedOf (j := 10) (b := false) rfl rfl rfl (by rw [hI.len]; show _ < 257; decide) (hI.slot 10 117 rfl (hpre ⟨10, .guard⟩ (by simp) rfl) rfl)) rfl (hI.slot 12 119 rfl (hpre ⟨12, .data⟩ (by simp) rfl) rfl) (fun _ => (hI.slot 27 134 rfl (hpre ⟨27, .data⟩ (by simp) rfl) rfl)) (fun h => by cases h) ⟨_, rfl, hJ, fun _ => rfl, fun _ _ _ h => h⟩
              | 29, _ =>
                cases ho
                exact wpOp_pick2 (v := undef) (u := (.bool false)) rfl rfl rfl (hI.slot 10 117 rfl (hpre ⟨10, .data⟩ (by simp) rfl) rfl) (fun h => by cases h) (fun _ => (hI.slot 28 135 rfl (hpre ⟨28, .data⟩ (by simp) rfl) rfl)) ⟨_, rfl, hJ, fun _ => rfl, fun _ _ _ h => h⟩
            case fin =>
              intro listed a w' hI hall
              have hJ := hI.inv
              have eS136 : a.tmps.getD 136 undef = .bool false := hI.slot 29 136 rfl (hall 29 (by decide)) rfl
              obtain ⟨vs, hvl, hvs, e⟩ := hI.frame 107 30 (Nat.le_of_ble_eq_true (by kernel_rfl)) (by kernel_rfl)
              have vS136 := hvs 29 (by decide)
              clear hI hall hvs
              match vs, hvl with
              | [x0, x1, x2, x3, x4, x5, x6, x7, x8, x9, x10, x11, x12, x13, x14, x15, x16, x17, x18, x19, x20, x21, x22, x23, x24, x25, x26, x27, x28, x29], _ =>
              simp only [List.getElem?_cons_zero, List.getElem?_cons_succ, Option.some.injEq] at vS136
              rw [show 107 + 29 = 136 from rfl, eS136] at vS136
              subst vS136
              simp only [List.take_succ_cons, List.take_zero, List.drop_succ_cons, List.drop_zero, List.cons_append, List.nil_append, Nat.reduceAdd] at e
              subst e
              clear eS136
              subst hJ
              clear q1 q2 t0 t1
              go_wp2
              go_loopw [18, 19, 20, 21, 22, 139, 140, 141, 142, 143, 144, 145, 146, 147, 148, 149, 150, 151, 152, 153, 154, 155, 156, 157, 158, 159, 160, 161, 162, 163, 164, 165, 166, 167, 168, 169, 170, 171, 172, 173, 174, 175, 176, 177, 178, 179, 180, 181, 182, 183, 184, 185, 186, 187, 188] (fun xl xk _ _ _ _ _ _ _ _ _ _ _ _ _ _ _ _ _ _ _ _ _ _ _ _ _ _ _ _ _ _ _ _ _ _ _ _ _ _ _ _ _ _ _ _ _ _ _ _ _ _ _ _ _ wr => ∃ k : Nat, xk = .int .i64 (k : Int) ∧ i < k ∧ k ≤ n ∧ xl = .bool (lastB L x i k) ∧ Below w8.heap.size w8 wr) (fun _ xk _ _ _ _ _ _ _ _ _ _ _ _ _ _ _ _ _ _ _ _ _ _ _ _ _ _ _ _ _ _ _ _ _ _ _ _ _ _ _ _ _ _ _ _ _ _ _ _ _ _ _ _ _ _ => n - (intOf xk).toNat)
              case atStart => exact ⟨i + 1, rfl, Nat.lt_succ_self i, hin, by rw [lastB_zero], HB9.out.drew⟩
              case round =>
                obtain ⟨k, rfl, hik, hk, rfl, hbk⟩ := hrel
                obtain ⟨FA, FB, AS, O8, hltA, hltB, hsz⟩ := H8.out
                have hlow := FA.low.trans (hbk.mono FA.low.size)
                obtain ⟨lb, hlb⟩ : ∃ lb, lastB L x i k = lb := ⟨_, rfl⟩
                rw [hlb]
                rcases Nat.lt_or_ge k n with hkn | hkn
                case inl =>
                  have hlt : (k : Int) < (n : Int) := by omega
                  have hwi : IntKind.i64.wrap ((k : Int) + 1) = (k : Int) + 1 := by rw [IntKind.wrap_i64]; omega
                  obtain ⟨y, hy⟩ : ∃ y, L[k]? = some y := ⟨_, List.getElem?_eq_getElem (by omega)⟩
                  have hys : shortE y = true := List.all_eq_true.1 HS.out.2 y (List.mem_of_getElem? hy)
                  obtain ⟨hyf, hyc⟩ := short_le hys
                  obtain ⟨B2, o2, e2, -, ky0, ky1, ky2⟩ := (HA.out.below hlow) k y hy
                  cases e2
                  obtain ⟨kx0, kx1, -⟩ := HC.out wr hlow
                  have hRS := Lib.hid (rset_nil y hyf hyc wr)
                  have HBk := Lib.hid hbk
                  have HX := Lib.hid (And.intro kx0 (And.intro kx1 (And.intro ky0 (And.intro ky1 hlow))))
                  have hixk := fun W : World => index_en W B o n cap k hkn
                  clear FA FB AS O8 hltA hltB hsz hlow hbk kx0 kx1 hys hyf hyc
                  go_wp2_with (go_at_call 29; refine hRS.out.mono ?_; rintro e w10 ⟨v10, m, rfl, hm, hb10⟩; obtain ⟨is, his⟩ : ∃ is, decide (m = 0) = is := ⟨_, rfl⟩; rw [his]; have HM := Lib.hid (And.intro hm (And.intro his hb10)); clear hm his hb10)
                  obtain ⟨hm, his, hb10⟩ := HM.out
                  clear ky0 ky1 ky2
                  obtain ⟨kx0, kx1, ky0, ky1, hlow⟩ := HX.out
                  have kx0 : w10.cell? ⟨B, o + i * 3, none⟩ = some (.string x.f) := (hb10.cell (p := ⟨B, o + i * 3, none⟩) (Nat.lt_of_lt_of_le hBsz hlow.size)).trans kx0
                  have kx1 : w10.cell? ⟨B, o + i * 3 + 1, none⟩ = some (.string x.c) := (hb10.cell (p := ⟨B, o + i * 3 + 1, none⟩) (Nat.lt_of_lt_of_le hBsz hlow.size)).trans kx1
                  have ky0 : w10.cell? ⟨B, o + k * 3, none⟩ = some (.string y.f) := (hb10.cell (p := ⟨B, o + k * 3, none⟩) (Nat.lt_of_lt_of_le hBsz hlow.size)).trans ky0
                  have ky1 : w10.cell? ⟨B, o + k * 3 + 1, none⟩ = some (.string y.c) := (hb10.cell (p := ⟨B, o + k * 3 + 1, none⟩) (Nat.lt_of_lt_of_le hBsz hlow.size)).trans ky1
                  have HZ := Lib.hid (HBk.out.trans (hb10.mono HBk.out.size)).drew
                  clear hb10 HM HX hlow
                  cases lb
                  case false =>
                    refine wp_region_n (fun _ W => W = w10.drew) (R30A) (by kernel_rfl) (by kernel_rfl) (by kernel_rfl) (by kernel_rfl) rfl ?step ?fin
                    case step =>
                      intro i o ho listed a w' hIn hn' hpre
                      have hI := hIn.toL
                      have hJ := hI.inv
                      have hi : i < 36 := (Array.getElem?_eq_some_iff.1 ho).1
                      match i, hi with
                      | 0, _ =>
                        cases ho
                        exact wpOp_move rfl rfl (.inl rfl) (hIn.later 35 (t := 18) (by kernel_rfl) (hI.notyet hn' 35 (by kernel_rfl))) ⟨_, rfl, hJ, fun _ => rfl, fun _ _ _ h => h⟩
                      | 1, _ =>
                        cases ho
                        exact wpOp_move rfl rfl (.inl rfl) (hI.slot 0 154 rfl (hpre ⟨0, .data⟩ (by simp) rfl) rfl) ⟨_, rfl, hJ, fun _ => rfl, fun _ _ _ h => h⟩
                      | 2, _ =>
                        cases ho
                        exact wpOp_off rfl (wantedOff (j := 1) (b := true) (b' := false) rfl rfl rfl (by rw [hI.len]; show _ < 257; decide) (hI.slot 1 155 rfl (hpre ⟨1, .guard⟩ (by simp) rfl) rfl) (by decide)) ⟨_, rfl, hJ, fun _ => rfl, fun _ _ _ h => h⟩
                      | 3, _ =>
                        cases ho
                        exact wpOp_off rfl (wantedOff (j := 1) (b := true) (b' := false) rfl rfl rfl (by rw [hI.len]; show _ < 257; decide) (hI.slot 1 155 rfl (hpre ⟨1, .chain⟩ (by simp) rfl) rfl) (by decide)) ⟨_, rfl, hJ, fun _ => rfl, fun _ _ _ h => h⟩
                      | 4, _ =>
                        cases ho
                        exact wpOp_off rfl (wantedOffU (j := 3) (b := true) rfl rfl rfl (by rw [hI.len]; show _ < 257; decide) (hI.slot 3 157 rfl (hpre ⟨3, .guard⟩ (by simp) rfl) rfl)) ⟨_, rfl, hJ, fun _ => rfl, fun _ _ _ h => h⟩
                      | 5, _ =>
                        cases ho
                        exact wpOp_off rfl (wantedOffU (j := 3) (b := true) rfl rfl rfl (by rw [hI.len]; show _ < 257; decide) (hI.slot 3 157 rfl (hpre ⟨3, .guard⟩ (by simp) rfl) rfl)) ⟨_, rfl, hJ, fun _ => rfl, fun _ _ _ h => h⟩
                      | 6, _ =>
                        cases ho
                        exact wpOp_off rfl (wantedOff (j := 1) (b := true) (b' := false) rfl rfl rfl (by rw [hI.len]; show _ < 257; decide) (hI.slot 1 155 rfl (hpre ⟨1, .guard⟩ (by simp) rfl) rfl) (by decide)) ⟨_, rfl, hJ, fun _ => rfl, fun _ _ _ h => h⟩
                      | 7, _ =>
                        cases ho
                        exact wpOp_off rfl (wantedOff (j := 1) (b := true) (b' := false) rfl rfl rfl (by rw [hI.len]; show _ < 257; decide) (hI.slot 1 155 rfl (hpre ⟨1, .guard⟩ (by simp) rfl) rfl) (by decide)) ⟨_, rfl, hJ, fun _ => rfl, fun _ _ _ h => h⟩
                      | 8, _ =>
                        cases ho
                        exact wpOp_off rfl (wantedOffU (j := 7) (b := true) rfl rfl rfl (by rw [hI.len]; show _ < 257; decide) (hI.slot 7 161 rfl (hpre ⟨7, .guard⟩ (by simp) rfl) rfl)) ⟨_, rfl, hJ, fun _ => rfl, fun _ _ _ h => h⟩
                      | 9, _ =>
                        cases ho
                        exact wpOp_off rfl (wantedOffU (j := 7) (b := true) rfl rfl rfl (by rw [hI.len]; show _ < 257; decide) (hI.slot 7 161 rfl (hpre ⟨7, .guard⟩ (by simp) rfl) rfl)) ⟨_, rfl, hJ, fun _ => rfl, fun _ _ _ h => h⟩
                      | 10, _ =>
                        cases ho
                        exact wpOp_off rfl (wantedOffU (j := 7) (b := true) rfl rfl rfl (by rw [hI.len]; show _ < 257; decide) (hI.slot 7 161 rfl (hpre ⟨7, .guard⟩ (by simp) rfl) rfl)) ⟨_, rfl, hJ, fun _ => rfl, fun _ _ _ h => h⟩
                      | 11, _ =>
                        cases ho
                        exact wpOp_off rfl (wantedOffU (j := 7) (b := true) rfl rfl rfl (by rw [hI.len]; show _ < 257; decide) (hI.slot 7 161 rfl (hpre ⟨7, .guard⟩ (by simp) rfl) rfl)) ⟨_, rfl, hJ, fun _ => rfl, fun _ _ _ h => h⟩
                      | 12, _ =>
                        cases ho
                        exact wpOp_off rfl (wantedOffU (j := 7) (b := true) rfl rfl rfl (by rw [hI.len]; show _ < 257; decide) (hI.slot 7 161 rfl (hpre ⟨7, .guard⟩ (by simp) rfl) rfl)) ⟨_, rfl, hJ, fun _ => rfl, fun _ _ _ h => h⟩
                      | 13, _ =>
                        cases ho
                        exact wpOp_off rfl (wantedOffU (j := 7) (b := true) rfl rfl rfl (by rw [hI.len]; show _ < 257; decide) (hI.slot 7 161 rfl (hpre ⟨7, .guard⟩ (by simp) rfl) rfl)) ⟨_, rfl, hJ, fun _ => rfl, fun _ _ _ h => h⟩
                      | 14, _ =>
                        cases ho
                        exact wpOp_off rfl (wantedOffU (j := 7) (b := true) rfl rfl rfl (by rw [hI.len]; show _ < 257; decide) (hI.slot 7 161 rfl (hpre ⟨7, .guard⟩ (by simp) rfl) rfl)) ⟨_, rfl, hJ, fun _ => rfl, fun _ _ _ h => h⟩
                      | 15, _ =>
                        cases ho
                        exact wpOp_off rfl (wantedOffU (j := 7) (b := true) rfl rfl rfl (by rw [hI.len]; show _ < 257; decide) (hI.slot 7 161 rfl (hpre ⟨7, .guard⟩ (by simp) rfl) rfl)) ⟨_, rfl, hJ, fun _ => rfl, fun _ _ _ h => h⟩
                      | 16, _ =>
                        cases ho
                        exact wpOp_off rfl (wantedOffU (j := 7) (b := true) rfl rfl rfl (by rw [hI.len]; show _ < 257; decide) (hI.slot 7 161 rfl (hpre ⟨7, .guard⟩ (by simp) rfl) rfl)) ⟨_, rfl, hJ, fun _ => rfl, fun _ _ _ h => h⟩
                      | 17, _ =>
                        cases ho
                        exact wpOp_off rfl (wantedOffU (j := 7) (b := true) rfl rfl rfl (by rw [hI.len]; show _ < 257; decide) (hI.slot 7 161 rfl (hpre ⟨7, .guard⟩ (by simp) rfl) rfl)) ⟨_, rfl, hJ, fun _ => rfl, fun _ _ _ h => h⟩
                      | 18, _ =>
                        cases ho
                        exact wpOp_off rfl (wantedOffU (j := 7) (b := true) rfl rfl rfl (by rw [hI.len]; show _ < 257; decide) (hI.slot 7 161 rfl (hpre ⟨7, .guard⟩ (by simp) rfl) rfl)) ⟨_, rfl, hJ, fun _ => rfl, fun _ _ _ h => h⟩
                      | 19, _ =>
                        cases ho
                        exact wpOp_off rfl (wantedOff (j := 1) (b := true) (b' := false) rfl rfl rfl (by rw [hI.len]; show _ < 257; decide) (hI.slot 1 155 rfl (hpre ⟨1, .guard⟩ (by simp) rfl) rfl) (by decide)) ⟨_, rfl, hJ, fun _ => rfl, fun _ _ _ h => h⟩
                      | 20, _ =>
                        cases ho
                        exact wpOp_off rfl (wantedOff (j := 1) (b := true) (b' := false) rfl rfl rfl (by rw [hI.len]; show _ < 257; decide) (hI.slot 1 155 rfl (hpre ⟨1, .guard⟩ (by simp) rfl) rfl) (by decide)) ⟨_, rfl, hJ, fun _ => rfl, fun _ _ _ h => h⟩
                      | 21, _ =>
                        cases ho
                        exact wpOp_off rfl (wantedOffU (j := 20) (b := true) rfl rfl rfl (by rw [hI.len]; show _ < 257; decide) (hI.slot 20 174 rfl (hpre ⟨20, .guard⟩ (by simp) rfl) rfl)) ⟨_, rfl, hJ, fun _ => rfl, fun _ _ _ h => h⟩
                      | 22, _ =>
                        cases ho
                        exact wpOp_off rfl (wantedOffU (j := 20) (b := true) rfl rfl rfl (by rw [hI.len]; show _ < 257; decide) (hI.slot 20 174 rfl (hpre ⟨20, .guard⟩ (by simp) rfl) rfl)) ⟨_, rfl, hJ, fun _ => rfl, fun _ _ _ h => h⟩
                      | 23, _ =>
                        cases ho
                        exact wpOp_off rfl (wantedOffU (j := 20) (b := true) rfl rfl rfl (by rw [hI.len]; show _ < 257; decide) (hI.slot 20 174 rfl (hpre ⟨20, .guard⟩ (by simp) rfl) rfl)) ⟨_, rfl, hJ, fun _ => rfl, fun _ _ _ h => h⟩
                      | 24, _ =>
                        cases ho
                        exact wpOp_off rfl (wantedOffU (j := 20) (b := true) rfl rfl rfl (by rw [hI.len]; show _ < 257; decide) (hI.slot 20 174 rfl (hpre ⟨20, .guard⟩ (by simp) rfl) rfl)) ⟨_, rfl, hJ, fun _ => rfl, fun _ _ _ h => h⟩
                      | 25, _ =>
                        cases ho
                        exact wpOp_off rfl (wantedOffU (j := 20) (b := true) rfl rfl rfl (by rw [hI.len]; show _ < 257; decide) (hI.slot 20 174 rfl (hpre ⟨20, .guard⟩ (by simp) rfl) rfl)) ⟨_, rfl, hJ, fun _ => rfl, fun _ _ _ h => h⟩
                      | 26, _ =>
                        cases ho
                        exact wpOp_off rfl (wantedOffU (j := 20) (b := true) rfl rfl rfl (by rw [hI.len]; show _ < 257; decide) (hI.slot 20 174 rfl (hpre ⟨20, .guard⟩ (by simp) rfl) rfl)) ⟨_, rfl, hJ, fun _ => rfl, fun _ _ _ h => h⟩
                      | 27, _ =>
                        cases ho
                        exact wpOp_off rfl (wantedOffU (j := 20) (b := true) rfl rfl rfl (by rw [hI.len]; show _ < 257; decide) (hI.slot 20 174 rfl (hpre ⟨20, .guard⟩ (by simp) rfl) rfl)) ⟨_, rfl, hJ, fun _ => rfl, fun _ _ _ h => h⟩
                      | 28, _ =>
                        cases ho
                        exact wpOp_off rfl (wantedOffU (j := 20) (b := true) rfl rfl rfl (by rw [hI.len]; show _ < 257; decide) (hI.slot 20 174 rfl (hpre ⟨20, .guard⟩ (by simp) rfl) rfl)) ⟨_, rfl, hJ, fun _ => rfl, fun _ _ _ h => h⟩
                      | 29, _ =>
                        cases ho
                        exact wpOp_off rfl (wantedOffU (j := 20) (b := true) rfl rfl rfl (by rw [hI.len]; show _ < 257; decide) (hI.slot 20 174 rfl (hpre ⟨20, .guard⟩ (by simp) rfl) rfl)) ⟨_, rfl, hJ, fun _ => rfl, fun _ _ _ h => h⟩
                      | 30, _ =>
                        cases ho
                        exact wpOp_off rfl (wantedOffU (j := 20) (b := true) rfl rfl rfl (by rw [hI.len]; show _ < 257; decide) (hI.slot 20 174 rfl (hpre ⟨20, .guard⟩ (by simp) rfl) rfl)) ⟨_, rfl, hJ, fun _ => rfl, fun _ _ _ h => h⟩
                      | 31, _ =>
                        cases ho
                        exact wpOp_off rfl (wantedOffU (j := 20) (b := true) rfl rfl rfl (by rw [hI.len]; show _ < 257; decide) (hI.slot 20 174 rfl (hpre ⟨20, .guard⟩ (by simp) rfl) rfl)) ⟨_, rfl, hJ, fun _ => rfl, fun _ _ _ h => h⟩
                      | 32, _ =>
                        cases ho
                        exact wpOp_off rfl (wantedOff (j := 1) (b := true) (b' := false) rfl rfl rfl (by rw [hI.len]; show _ < 257; decide) (hI.slot 1 155 rfl (hpre ⟨1, .guard⟩ (by simp) rfl) rfl) (by decide)) ⟨_, rfl, hJ, fun _ => rfl, fun _ _ _ h => h⟩
                      | 33, _ =>
                        cases ho
                        exact wpOp_off rfl (wantedOff (j := 1) (b := true) (b' := false) rfl rfl rfl (by rw [hI.len]; show _ < 257; decide) (hI.slot 1 155 rfl (hpre ⟨1, .guard⟩ (by simp) rfl) rfl) (by decide)) ⟨_, rfl, hJ, fun _ => rfl, fun _ _ _ h => h⟩
                      | 34, _ =>
                        cases ho
                        exact wpOp_pick2 (v := undef) (u := (.bool false)) rfl rfl rfl (hI.slot 1 155 rfl (hpre ⟨1, .data⟩ (by simp) rfl) rfl) (fun h => by cases h) (fun _ => rfl) ⟨_, rfl, hJ, fun _ => rfl, fun _ _ _ h => h⟩
                      | 35, _ =>
                        cases ho
                        exact wpOp_move rfl rfl (.inr rfl) (hI.slot 34 188 rfl (hpre ⟨34, .data⟩ (by simp) rfl) rfl) ⟨_, rfl, hJ, fun _ => rfl, fun _ _ _ h => h⟩
                    case fin =>
                      intro listed a w' hIn hall
                      have hI := hIn.toL
                      clear hIn
                      have hJ := hI.inv
                      have eS18 : a.tmps.getD 18 undef = .bool false := hI.slot 35 18 rfl (hall 35 (by decide)) rfl
                      obtain ⟨vs, us, hvl, hul, hvs, hus, e⟩ := hI.frame2 18 1 154 35 (by decide) (Nat.le_of_ble_eq_true (by kernel_rfl)) (by kernel_rfl)
                      have vS18 := hvs 0 (by decide)
                      clear hI hall hvs hus
                      match vs, us, hvl, hul with
                      | [x0], y0 :: y1 :: y2 :: y3 :: y4 :: y5 :: y6 :: y7 :: y8 :: y9 :: y10 :: y11 :: y12 :: y13 :: y14 :: y15 :: y16 :: y17 :: y18 :: y19 :: y20 :: y21 :: y22 :: y23 :: y24 :: y25 :: y26 :: y27 :: y28 :: y29 :: y30 :: y31 :: y32 :: y33 :: y34 :: [], _, _ =>
                      simp only [List.getElem?_cons_zero, Option.some.injEq] at vS18
                      rw [show 18 + 0 = 18 from rfl, eS18] at vS18
                      subst vS18
                      simp only [List.take_succ_cons, List.take_zero, List.drop_succ_cons, List.drop_zero, List.cons_append, List.nil_append, Nat.reduceAdd, Nat.reduceSub] at e
                      subst e
                      clear eS18
                      subst hJ
                      clear kx0 kx1 ky0 ky1
                      go_wp2
                      exact ⟨⟨k + 1, rfl, by omega, by omega, congrArg Value.bool (lastB_no hlb).symm, HZ.out⟩, by show n - ((k : Int) + 1).toNat < n - (k : Int).toNat; omega⟩
                  case true =>
                    cases is
                    case false =>
                      have hno : ¬ okE y := fun h => of_decide_eq_false his (hm.trans h)
                      refine wp_region_n (fun _ W => W = w10.drew) (R30B) (by kernel_rfl) (by kernel_rfl) (by kernel_rfl) (by kernel_rfl) rfl ?step ?fin
                      case step =>
                        intro i o ho listed a w' hIn hn' hpre
                        have hI := hIn.toL
                        have hJ := hI.inv
                        have hi : i < 36 := (Array.getElem?_eq_some_iff.1 ho).1
                        match i, hi with
                        | 0, _ =>
                          cases ho
                          exact wpOp_move rfl rfl (.inl rfl) (hIn.later 35 (t := 18) (by kernel_rfl) (hI.notyet hn' 35 (by kernel_rfl))) ⟨_, rfl, hJ, fun _ => rfl, fun _ _ _ h => h⟩
                        | 1, _ =>
                          cases ho
                          exact wpOp_move rfl rfl (.inl rfl) (hI.slot 0 154 rfl (hpre ⟨0, .data⟩ (by simp) rfl) rfl) ⟨_, rfl, hJ, fun _ => rfl, fun _ _ _ h => h⟩
                        | 2, _ =>
                          cases ho
                          exact wpOp_move rfl (wantedOf (j := 1) (b := true) rfl rfl rfl (by rw [hI.len]; show _ < 257; decide) (hI.slot 1 155 rfl (hpre ⟨1, .guard⟩ (by simp) rfl) rfl)) (.inl rfl) (hI.kept (t := 21) (by kernel_rfl)) ⟨_, rfl, hJ, fun _ => rfl, fun _ _ _ h => h⟩
                        | 3, _ =>
                          cases ho
                          exact wpOp_move rfl (wantedOf (j := 1) (b := true) rfl rfl rfl (by rw [hI.len]; show _ < 257; decide) (hI.slot 1 155 rfl (hpre ⟨1, .chain⟩ (by simp) rfl) rfl)) (.inl rfl) (hI.slot 2 156 rfl (hpre ⟨2, .data⟩ (by simp) rfl) rfl) ⟨_, rfl, hJ, fun _ => rfl, fun _ _ _ h => h⟩
                        | 4, _ =>
                          cases ho
                          exact wpOp_off rfl (wantedOff (j := 3) (b := true) (b' := false) rfl rfl rfl (by rw [hI.len]; show _ < 257; decide) (hI.slot 3 157 rfl (hpre ⟨3, .guard⟩ (by simp) rfl) rfl) (by decide)) ⟨_, rfl, hJ, fun _ => rfl, fun _ _ _ h => h⟩
                        | 5, _ =>
                          cases ho
                          exact wpOp_off rfl (wantedOff (j := 3) (b := true) (b' := false) rfl rfl rfl (by rw [hI.len]; show _ < 257; decide) (hI.slot 3 157 rfl (hpre ⟨3, .guard⟩ (by simp) rfl) rfl) (by decide)) ⟨_, rfl, hJ, fun _ => rfl, fun _ _ _ h => h⟩
                        | 6, _ =>
                          cases ho
                          exact wpOp_pick2 (v := undef) (u := (.bool false)) rfl (wantedOf (j := 1) (b := true) rfl rfl rfl (by rw [hI.len]; show _ < 257; decide) (hI.slot 1 155 rfl (hpre ⟨1, .guard⟩ (by simp) rfl) rfl)) rfl (hI.slot 3 157 rfl (hpre ⟨3, .data⟩ (by simp) rfl) rfl) (fun h => by cases h) (fun _ => rfl) ⟨_, rfl, hJ, fun _ => rfl, fun _ _ _ h => h⟩
                        | 7, _ =>
                          cases ho
                          exact wpOp_move rfl (wantedOf (j := 1) (b := true) rfl rfl rfl (by rw [hI.len]; show _ < 257; decide) (hI.slot 1 155 rfl (hpre ⟨1, .guard⟩ (by simp) rfl) rfl)) (.inl rfl) (hI.slot 6 160 rfl (hpre ⟨6, .data⟩ (by simp) rfl) rfl) ⟨_, rfl, hJ, fun _ => rfl, fun _ _ _ h => h⟩
                        | 8, _ =>
                          cases ho
                          exact wpOp_off rfl (wantedOff (j := 7) (b := true) (b' := false) rfl rfl rfl (by rw [hI.len]; show _ < 257; decide) (hI.slot 7 161 rfl (hpre ⟨7, .guard⟩ (by simp) rfl) rfl) (by decide)) ⟨_, rfl, hJ, fun _ => rfl, fun _ _ _ h => h⟩
                        | 9, _ =>
                          cases ho
                          exact wpOp_off rfl (wantedOff (j := 7) (b := true) (b' := false) rfl rfl rfl (by rw [hI.len]; show _ < 257; decide) (hI.slot 7 161 rfl (hpre ⟨7, .guard⟩ (by simp) rfl) rfl) (by decide)) ⟨_, rfl, hJ, fun _ => rfl, fun _ _ _ h => h⟩
                        | 10, _ =>
                          cases ho
                          exact wpOp_off rfl (wantedOff (j := 7) (b := true) (b' := false) rfl rfl rfl (by rw [hI.len]; show _ < 257; decide) (hI.slot 7 161 rfl (hpre ⟨7, .guard⟩ (by simp) rfl) rfl) (by decide)) ⟨_, rfl, hJ, fun _ => rfl, fun _ _ _ h => h⟩
                        | 11, _ =>
                          cases ho
                          exact wpOp_off rfl (wantedOff (j := 7) (b := true) (b' := false) rfl rfl rfl (by rw [hI.len]; show _ < 257; decide) (hI.slot 7 161 rfl (hpre ⟨7, .guard⟩ (by simp) rfl) rfl) (by decide)) ⟨_, rfl, hJ, fun _ => rfl, fun _ _ _ h => h⟩
                        | 12, _ =>
                          cases ho
                          exact wpOp_off rfl (wantedOff (j := 7) (b := true) (b' := false) rfl rfl rfl (by rw [hI.len]; show _ < 257; decide) (hI.slot 7 161 rfl (hpre ⟨7, .guard⟩ (by simp) rfl) rfl) (by decide)) ⟨_, rfl, hJ, fun _ => rfl, fun _ _ _ h => h⟩
                        | 13, _ =>
                          cases ho
                          exact wpOp_off rfl (wantedOff (j := 7) (b := true) (b' := false) rfl rfl rfl (by rw [hI.len]; show _ < 257; decide) (hI.slot 7 161 rfl (hpre ⟨7, .guard⟩ (by simp) rfl) rfl) (by decide)) ⟨_, rfl, hJ, fun _ => rfl, fun _ _ _ h => h⟩
                        | 14, _ =>
                          cases ho
                          exact wpOp_off rfl (wantedOff (j := 7) (b := true) (b' := false) rfl rfl rfl (by rw [hI.len]; show _ < 257; decide) (hI.slot 7 161 rfl (hpre ⟨7, .guard⟩ (by simp) rfl) rfl) (by decide)) ⟨_, rfl, hJ, fun _ => rfl, fun _ _ _ h => h⟩
                        | 15, _ =>
                          cases ho
                          exact wpOp_off rfl (wantedOff (j := 7) (b := true) (b' := false) rfl rfl rfl (by rw [hI.len]; show _ < 257; decide) (hI.slot 7 161 rfl (hpre ⟨7, .guard⟩ (by simp) rfl) rfl) (by decide)) ⟨_, rfl, hJ, fun _ => rfl, fun _ _ _ h => h⟩
                        | 16, _ =>
                          cases ho
                          exact wpOp_off rfl (wantedOff (j := 7) (b := true) (b' := false) rfl rfl rfl (by rw [hI.len]; show _ < 257; decide) (hI.slot 7 161 rfl (hpre ⟨7, .guard⟩ (by simp) rfl) rfl) (by decide)) ⟨_, rfl, hJ, fun _ => rfl, fun _ _ _ h => h⟩
                        | 17, _ =>
                          cases ho
                          exact wpOp_off rfl (wantedOff (j := 7) (b := true) (b' := false) rfl rfl rfl (by rw [hI.len]; show _ < 257; decide) (hI.slot 7 161 rfl (hpre ⟨7, .guard⟩ (by simp) rfl) rfl) (by decide)) ⟨_, rfl, hJ, fun _ => rfl, fun _ _ _ h => h⟩
                        | 18, _ =>
                          cases ho
                          exact wpOp_off rfl (wantedOff (j := 7) (b := true) (b' := false) rfl rfl rfl (by rw [hI.len]; show _ < 257; decide) (hI.slot 7 161 rfl (hpre ⟨7, .guard⟩ (by simp) rfl) rfl) (by decide)) ⟨_, rfl, hJ, fun _ => rfl, fun _ _ _ h => h⟩
                        | 19, _ =>
                          cases ho
                          exact wpOp_pick2 (v := undef) (u := (.bool false)) rfl (wantedOf (j := 1) (b := true) rfl rfl rfl (by rw [hI.len]; show _ < 257; decide) (hI.slot 1 155 rfl (hpre ⟨1, .guard⟩ (by simp) rfl) rfl)) rfl (hI.slot 7 161 rfl (hpre ⟨7, .data⟩ (by simp) rfl) rfl) (fun h => by cases h) (fun _ => rfl) ⟨_, rfl, hJ, fun _ => rfl, fun _ _ _ h => h⟩
                        | 20, _ =>
                          cases ho
                          exact wpOp_move rfl (wantedOf (j := 1) (b := true) rfl rfl rfl (by rw [hI.len]; show _ < 257; decide) (hI.slot 1 155 rfl (hpre ⟨1, .guard⟩ (by simp) rfl) rfl)) (.inl rfl) (hI.slot 19 173 rfl (hpre ⟨19, .data⟩ (by simp) rfl) rfl) ⟨_, rfl, hJ, fun _ => rfl, fun _ _ _ h => h⟩
                        | 21, _ =>
                          cases ho
                          exact wpOp_off rfl (wantedOff (j := 20) (b := true) (b' := false) rfl rfl rfl (by rw [hI.len]; show _ < 257; decide) (hI.slot 20 174 rfl (hpre ⟨20, .guard⟩ (by simp) rfl) rfl) (by decide)) ⟨_, rfl, hJ, fun _ => rfl, fun _ _ _ h => h⟩
                        | 22, _ =>
                          cases ho
                          exact wpOp_off rfl (wantedOff (j := 20) (b := true) (b' := false) rfl rfl rfl (by rw [hI.len]; show _ < 257; decide) (hI.slot 20 174 rfl (hpre ⟨20, .guard⟩ (by simp) rfl) rfl) (by decide)) ⟨_, rfl, hJ, fun _ => rfl, fun _ _ _ h => h⟩
                        | 23, _ =>
                          cases ho
                          exact wpOp_off rfl (wantedOff (j := 20) (b := true) (b' := false) rfl rfl rfl (by rw [hI.len]; show _ < 257; decide) (hI.slot 20 174 rfl (hpre ⟨20, .guard⟩ (by simp) rfl) rfl) (by decide)) ⟨_, rfl, hJ, fun _ => rfl, fun _ _ _ h => h⟩
                        | 24, _ =>
                          cases ho
                          exact wpOp_off rfl (wantedOff (j := 20) (b := true) (b' := false) rfl rfl rfl (by rw [hI.len]; show _ < 257; decide) (hI.slot 20 174 rfl (hpre ⟨20, .guard⟩ (by simp) rfl) rfl) (by decide)) ⟨_, rfl, hJ, fun _ => rfl, fun _ _ _ h => h⟩
                        | 25, _ =>
                          cases ho
                          exact wpOp_off rfl (wantedOff (j := 20) (b := true) (b' := false) rfl rfl rfl (by rw [hI.len]; show _ < 257; decide) (hI.slot 20 174 rfl (hpre ⟨20, .guard⟩ (by simp) rfl) rfl) (by decide)) ⟨_, rfl, hJ, fun _ => rfl, fun _ _ _ h => h⟩
                        | 26, _ =>
                          cases ho
                          exact wpOp_off rfl (wantedOff (j := 20) (b := true) (b' := false) rfl rfl rfl (by rw [hI.len]; show _ < 257; decide) (hI.slot 20 174 rfl (hpre ⟨20, .guard⟩ (by simp) rfl) rfl) (by decide)) ⟨_, rfl, hJ, fun _ => rfl, fun _ _ _ h => h⟩
                        | 27, _ =>
                          cases ho
                          exact wpOp_off rfl (wantedOff (j := 20) (b := true) (b' := false) rfl rfl rfl (by rw [hI.len]; show _ < 257; decide) (hI.slot 20 174 rfl (hpre ⟨20, .guard⟩ (by simp) rfl) rfl) (by decide)) ⟨_, rfl, hJ, fun _ => rfl, fun _ _ _ h => h⟩
                        | 28, _ =>
                          cases ho
                          exact wpOp_off rfl (wantedOff (j := 20) (b := true) (b' := false) rfl rfl rfl (by rw [hI.len]; show _ < 257; decide) (hI.slot 20 174 rfl (hpre ⟨20, .guard⟩ (by simp) rfl) rfl) (by decide)) ⟨_, rfl, hJ, fun _ => rfl, fun _ _ _ h => h⟩
                        | 29, _ =>
                          cases ho
                          exact wpOp_off rfl (wantedOff (j := 20) (b := true) (b' := false) rfl rfl rfl (by rw [hI.len]; show _ < 257; decide) (hI.slot 20 174 rfl (hpre ⟨20, .guard⟩ (by simp) rfl) rfl) (by decide)) ⟨_, rfl, hJ, fun _ => rfl, fun _ _ _ h => h⟩
                        | 30, _ =>
                          cases ho
                          exact wpOp_off rfl (wantedOff (j := 20) (b := true) (b' := false) rfl rfl rfl (by rw [hI.len]; show _ < 257; decide) (hI.slot 20 174 rfl (hpre ⟨20, .guard⟩ (by simp) rfl) rfl) (by decide)) ⟨_, rfl, hJ, fun _ => rfl, fun _ _ _ h => h⟩
                        | 31, _ =>
                          cases ho
                          exact wpOp_off rfl (wantedOff (j := 20) (b := true) (b' := false) rfl rfl rfl (by rw [hI.len]; show _ < 257; decide) (hI.slot 20 174 rfl (hpre ⟨20, .guard⟩ (by simp) rfl) rfl) (by decide)) ⟨_, rfl, hJ, fun _ => rfl, fun _ _ _ h => h⟩
                        | 32, _ =>
                          cases ho
                          exact wpOp_pick2 (v := undef) (u := (.bool false)) rfl (wantedOf (j := 1) (b := true) rfl rfl rfl (by rw [hI.len]; show _ < 257; decide) (hI.slot 1 155 rfl (hpre ⟨1, .guard⟩ (by simp) rfl) rfl)) rfl (hI.slot 20 174 rfl (hpre ⟨20, .data⟩ (by simp) rfl) rfl) (fun h => by cases h) (fun _ => rfl) ⟨_, rfl, hJ, fun _ => rfl, fun _ _ _ h => h⟩
                        | 33, _ =>
                          cases ho
                          exact wpOp_notP rfl (wantedOf (j := 1) (b := true) rfl rfl rfl (by rw [hI.len]; show _ < 257; decide) (hI.slot 1 155 rfl (hpre ⟨1, .guard⟩ (by simp) rfl) rfl)) rfl (hI.slot 32 186 rfl (hpre ⟨32, .data⟩ (by simp) rfl) rfl) rfl ⟨_, rfl, hJ, fun _ => rfl, fun _ _ _ h => h⟩
                        | 34, _ =>
                          cases ho
                          exact wpOp_pick2 (v := (.bool true)) (u := undef) rfl rfl rfl (hI.slot 1 155 rfl (hpre ⟨1, .data⟩ (by simp) rfl) rfl) (fun _ => (hI.slot 33 187 rfl (hpre ⟨33, .data⟩ (by simp) rfl) rfl)) (fun h => by cases h) ⟨_, rfl, hJ, fun _ => rfl, fun _ _ _ h => h⟩
                        | 35, _ =>
                          cases ho
                          exact wpOp_move rfl rfl (.inr rfl) (hI.slot 34 188 rfl (hpre ⟨34, .data⟩ (by simp) rfl) rfl) ⟨_, rfl, hJ, fun _ => rfl, fun _ _ _ h => h⟩
                      case fin =>
                        intro listed a w' hIn hall
                        have hI := hIn.toL
                        clear hIn
                        have hJ := hI.inv
                        have eS18 : a.tmps.getD 18 undef = .bool true := hI.slot 35 18 rfl (hall 35 (by decide)) rfl
                        obtain ⟨vs, us, hvl, hul, hvs, hus, e⟩ := hI.frame2 18 1 154 35 (by decide) (Nat.le_of_ble_eq_true (by kernel_rfl)) (by kernel_rfl)
                        have vS18 := hvs 0 (by decide)
                        clear hI hall hvs hus
                        match vs, us, hvl, hul with
                        | [x0], y0 :: y1 :: y2 :: y3 :: y4 :: y5 :: y6 :: y7 :: y8 :: y9 :: y10 :: y11 :: y12 :: y13 :: y14 :: y15 :: y16 :: y17 :: y18 :: y19 :: y20 :: y21 :: y22 :: y23 :: y24 :: y25 :: y26 :: y27 :: y28 :: y29 :: y30 :: y31 :: y32 :: y33 :: y34 :: [], _, _ =>
                        simp only [List.getElem?_cons_zero, Option.some.injEq] at vS18
                        rw [show 18 + 0 = 18 from rfl, eS18] at vS18
                        subst vS18
                        simp only [List.take_succ_cons, List.take_zero, List.drop_succ_cons, List.drop_zero, List.cons_append, List.nil_append, Nat.reduceAdd, Nat.reduceSub] at e
                        subst e
                        clear eS18
                        subst hJ
                        clear kx0 kx1 ky0 ky1
                        go_wp2
                        exact ⟨⟨k + 1, rfl, by omega, by omega, congrArg Value.bool (lastB_off hlb hy fun h => absurd h hno).symm, HZ.out⟩, by show n - ((k : Int) + 1).toNat < n - (k : Int).toNat; omega⟩
                    case true =>
                      have hm0 : m = 0 := of_decide_eq_true his
                      subst hm0
                      have hyo : okE y := hm.symm
                      by_cases hF : y.f.toList = x.f.toList
                      case neg =>
                        refine wp_region_n (fun _ W => W = w10.drew) (R30C B o n cap i k x y) (by kernel_rfl) (by kernel_rfl) (by kernel_rfl) (by kernel_rfl) rfl ?step ?fin
                        case step =>
                          intro i o ho listed a w' hIn hn' hpre
                          have hI := hIn.toL
                          have hJ := hI.inv
                          have hi : i < 36 := (Array.getElem?_eq_some_iff.1 ho).1
                          match i, hi with
                          | 0, _ =>
                            cases ho
                            exact wpOp_move rfl rfl (.inl rfl) (hIn.later 35 (t := 18) (by kernel_rfl) (hI.notyet hn' 35 (by kernel_rfl))) ⟨_, rfl, hJ, fun _ => rfl, fun _ _ _ h => h⟩
                          | 1, _ =>
                            cases ho
                            exact wpOp_move rfl rfl (.inl rfl) (hI.slot 0 154 rfl (hpre ⟨0, .data⟩ (by simp) rfl) rfl) ⟨_, rfl, hJ, fun _ => rfl, fun _ _ _ h => h⟩
                          | 2, _ =>
                            cases ho
                            exact wpOp_move rfl (wantedOf (j := 1) (b := true) rfl rfl rfl (by rw [hI.len]; show _ < 257; decide) (hI.slot 1 155 rfl (hpre ⟨1, .guard⟩ (by simp) rfl) rfl)) (.inl rfl) (hI.kept (t := 21) (by kernel_rfl)) ⟨_, rfl, hJ, fun _ => rfl, fun _ _ _ h => h⟩
                          | 3, _ =>
                            cases ho
                            exact wpOp_move rfl (wantedOf (j := 1) (b := true) rfl rfl rfl (by rw [hI.len]; show _ < 257; decide) (hI.slot 1 155 rfl (hpre ⟨1, .chain⟩ (by simp) rfl) rfl)) (.inl rfl) (hI.slot 2 156 rfl (hpre ⟨2, .data⟩ (by simp) rfl) rfl) ⟨_, rfl, hJ, fun _ => rfl, fun _ _ _ h => h⟩
                          | 4, _ =>
                            cases ho
                            exact wpOp_move rfl (wantedOf (j := 3) (b := true) rfl rfl rfl (by rw [hI.len]; show _ < 257; decide) (hI.slot 3 157 rfl (hpre ⟨3, .guard⟩ (by simp) rfl) rfl)) (.inl rfl) (hI.kept (t := 22) (by kernel_rfl)) ⟨_, rfl, hJ, fun _ => rfl, fun _ _ _ h => h⟩
                          | 5, _ =>
                            cases ho
                            exact wpOp_bin rfl (wantedOf (j := 3) (b := true) rfl rfl rfl (by rw [hI.len]; show _ < 257; decide) (hI.slot 3 157 rfl (hpre ⟨3, .guard⟩ (by simp) rfl) rfl)) rfl (hI.slot 4 158 rfl (hpre ⟨4, .data⟩ (by simp) rfl) rfl) rfl (by simp [go_sem]) (by simp [go_sem]) ⟨_, rfl, hJ, fun _ => rfl, fun _ _ _ h => h⟩
                          | 6, _ =>
                            cases ho
                            exact wpOp_pick2 (v := (.bool true)) (u := undef) rfl (wantedOf (j := 1) (b := true) rfl rfl rfl (by rw [hI.len]; show _ < 257; decide) (hI.slot 1 155 rfl (hpre ⟨1, .guard⟩ (by simp) rfl) rfl)) rfl (hI.slot 3 157 rfl (hpre ⟨3, .data⟩ (by simp) rfl) rfl) (fun _ => (hI.slot 5 159 rfl (hpre ⟨5, .data⟩ (by simp) rfl) rfl)) (fun h => by cases h) ⟨_, rfl, hJ, fun _ => rfl, fun _ _ _ h => h⟩
                          | 7, _ =>
                            cases ho
                            exact wpOp_move rfl (wantedOf (j := 1) (b := true) rfl rfl rfl (by rw [hI.len]; show _ < 257; decide) (hI.slot 1 155 rfl (hpre ⟨1, .guard⟩ (by simp) rfl) rfl)) (.inl rfl) (hI.slot 6 160 rfl (hpre ⟨6, .data⟩ (by simp) rfl) rfl) ⟨_, rfl, hJ, fun _ => rfl, fun _ _ _ h => h⟩
                          | 8, _ =>
                            cases ho
                            exact wpOp_move rfl (wantedOf (j := 7) (b := true) rfl rfl rfl (by rw [hI.len]; show _ < 257; decide) (hI.slot 7 161 rfl (hpre ⟨7, .guard⟩ (by simp) rfl) rfl)) (.inl rfl) (hI.kept (t := 0) (by kernel_rfl)) ⟨_, rfl, hJ, fun _ => rfl, fun _ _ _ h => h⟩
                          | 9, _ =>
                            cases ho
                            exact wpOp_move rfl (wantedOf (j := 7) (b := true) rfl rfl rfl (by rw [hI.len]; show _ < 257; decide) (hI.slot 7 161 rfl (hpre ⟨7, .guard⟩ (by simp) rfl) rfl)) (.inl rfl) (hI.kept (t := 19) (by kernel_rfl)) ⟨_, rfl, hJ, fun _ => rfl, fun _ _ _ h => h⟩
                          | 10, _ =>
                            cases ho
                            exact wpOp_index rfl (wantedOf (j := 7) (b := true) rfl rfl rfl (by rw [hI.len]; show _ < 257; decide) (hI.slot 7 161 rfl (hpre ⟨7, .guard⟩ (by simp) rfl) rfl)) rfl (hI.slot 8 162 rfl (hpre ⟨8, .data⟩ (by simp) rfl) rfl) (hI.slot 9 163 rfl (hpre ⟨9, .data⟩ (by simp) rfl) rfl) (hixk w') ⟨_, rfl, hJ, fun _ => rfl, fun _ _ _ h => h⟩
                          | 11, _ =>
                            cases ho
                            exact wpOp_field rfl (wantedOf (j := 7) (b := true) rfl rfl rfl (by rw [hI.len]; show _ < 257; decide) (hI.slot 7 161 rfl (hpre ⟨7, .guard⟩ (by simp) rfl) rfl)) rfl (hI.slot 10 164 rfl (hpre ⟨10, .data⟩ (by simp) rfl) rfl) (by simp [go_sem]) ⟨_, rfl, hJ, fun _ => rfl, fun _ _ _ h => h⟩
                          | 12, _ =>
                            cases ho
                            exact wpOp_load rfl (wantedOf (j := 7) (b := true) rfl rfl rfl (by rw [hI.len]; show _ < 257; decide) (hI.slot 7 161 rfl (hpre ⟨7, .guard⟩ (by simp) rfl) rfl)) rfl (hI.slot 11 165 rfl (hpre ⟨11, .data⟩ (by simp) rfl) rfl) (load_c (Tryz.isAgg9 w') (show w'.cell? _ = _ from by rw [hJ]; exact ky0)) ⟨_, rfl, hJ, fun _ => rfl, fun _ _ _ h => h⟩
                          | 13, _ =>
                            cases ho
                            exact wpOp_move rfl (wantedOf (j := 7) (b := true) rfl rfl rfl (by rw [hI.len]; show _ < 257; decide) (hI.slot 7 161 rfl (hpre ⟨7, .guard⟩ (by simp) rfl) rfl)) (.inl rfl) (hI.kept (t := 0) (by kernel_rfl)) ⟨_, rfl, hJ, fun _ => rfl, fun _ _ _ h => h⟩
                          | 14, _ =>
                            cases ho
                            exact wpOp_move rfl (wantedOf (j := 7) (b := true) rfl rfl rfl (by rw [hI.len]; show _ < 257; decide) (hI.slot 7 161 rfl (hpre ⟨7, .guard⟩ (by simp) rfl) rfl)) (.inl rfl) (hI.kept (t := 9) (by kernel_rfl)) ⟨_, rfl, hJ, fun _ => rfl, fun _ _ _ h => h⟩
                          | 15, _ =>
                            cases ho
                            exact wpOp_index rfl (wantedOf (j := 7) (b := true) rfl rfl rfl (by rw [hI.len]; show _ < 257; decide) (hI.slot 7 161 rfl (hpre ⟨7, .guard⟩ (by simp) rfl) rfl)) rfl (hI.slot 13 167 rfl (hpre ⟨13, .data⟩ (by simp) rfl) rfl) (hI.slot 14 168 rfl (hpre ⟨14, .data⟩ (by simp) rfl) rfl) (hixa w') ⟨_, rfl, hJ, fun _ => rfl, fun _ _ _ h => h⟩
                          | 16, _ =>
                            cases ho
                            exact wpOp_field rfl (wantedOf (j := 7) (b := true) rfl rfl rfl (by rw [hI.len]; show _ < 257; decide) (hI.slot 7 161 rfl (hpre ⟨7, .guard⟩ (by simp) rfl) rfl)) rfl (hI.slot 15 169 rfl (hpre ⟨15, .data⟩ (by simp) rfl) rfl) (by simp [go_sem]) ⟨_, rfl, hJ, fun _ => rfl, fun _ _ _ h => h⟩
                          | 17, _ =>
                            cases ho
                            exact wpOp_load rfl (wantedOf (j := 7) (b := true) rfl rfl rfl (by rw [hI.len]; show _ < 257; decide) (hI.slot 7 161 rfl (hpre ⟨7, .guard⟩ (by simp) rfl) rfl)) rfl (hI.slot 16 170 rfl (hpre ⟨16, .data⟩ (by simp) rfl) rfl) (load_c (Tryz.isAgg9 w') (show w'.cell? _ = _ from by rw [hJ]; exact kx0)) ⟨_, rfl, hJ, fun _ => rfl, fun _ _ _ h => h⟩
                          | 18, _ =>
                            cases ho
                            exact wpOp_bin rfl (wantedOf (j := 7) (b := true) rfl rfl rfl (by rw [hI.len]; show _ < 257; decide) (hI.slot 7 161 rfl (hpre ⟨7, .guard⟩ (by simp) rfl) rfl)) rfl (hI.slot 12 166 rfl (hpre ⟨12, .data⟩ (by simp) rfl) rfl) (hI.slot 17 171 rfl (hpre ⟨17, .data⟩ (by simp) rfl) rfl) (by simp [go_sem]) (by simp [go_sem, hF]) ⟨_, rfl, hJ, fun _ => rfl, fun _ _ _ h => h⟩
                          | 19, _ =>
                            cases ho
                            exact wpOp_pick2 (v := (.bool false)) (u := undef) rfl (wantedOf (j := 1) (b := true) rfl rfl rfl (by rw [hI.len]; show _ < 257; decide) (hI.slot 1 155 rfl (hpre ⟨1, .guard⟩ (by simp) rfl) rfl)) rfl (hI.slot 7 161 rfl (hpre ⟨7, .data⟩ (by simp) rfl) rfl) (fun _ => (hI.slot 18 172 rfl (hpre ⟨18, .data⟩ (by simp) rfl) rfl)) (fun h => by cases h) ⟨_, rfl, hJ, fun _ => rfl, fun _ _ _ h => h⟩
                          | 20, _ =>
                            cases ho
                            exact wpOp_move rfl (wantedOf (j := 1) (b := true) rfl rfl rfl (by rw [hI.len]; show _ < 257; decide) (hI.slot 1 155 rfl (hpre ⟨1, .guard⟩ (by simp) rfl) rfl)) (.inl rfl) (hI.slot 19 173 rfl (hpre ⟨19, .data⟩ (by simp) rfl) rfl) ⟨_, rfl, hJ, fun _ => rfl, fun _ _ _ h => h⟩
                          | 21, _ =>
                            cases ho
                            exact wpOp_off rfl (wantedOff (j := 20) (b := true) (b' := false) rfl rfl rfl (by rw [hI.len]; show _ < 257; decide) (hI.slot 20 174 rfl (hpre ⟨20, .guard⟩ (by simp) rfl) rfl) (by decide)) ⟨_, rfl, hJ, fun _ => rfl, fun _ _ _ h => h⟩
                          | 22, _ =>
                            cases ho
                            exact wpOp_off rfl (wantedOff (j := 20) (b := true) (b' := false) rfl rfl rfl (by rw [hI.len]; show _ < 257; decide) (hI.slot 20 174 rfl (hpre ⟨20, .guard⟩ (by simp) rfl) rfl) (by decide)) ⟨_, rfl, hJ, fun _ => rfl, fun _ _ _ h => h⟩
                          | 23, _ =>
                            cases ho
                            exact wpOp_off rfl (wantedOff (j := 20) (b := true) (b' := false) rfl rfl rfl (by rw [hI.len]; show _ < 257; decide) (hI.slot 20 174 rfl (hpre ⟨20, .guard⟩ (by simp) rfl) rfl) (by decide)) ⟨_, rfl, hJ, fun _ => rfl, fun _ _ _ h => h⟩
                          | 24, _ =>
                            cases ho
                            exact wpOp_off rfl (wantedOff (j := 20) (b := true) (b' := false) rfl rfl rfl (by rw [hI.len]; show _ < 257; decide) (hI.slot 20 174 rfl (hpre ⟨20, .guard⟩ (by simp) rfl) rfl) (by decide)) ⟨_, rfl, hJ, fun _ => rfl, fun _ _ _ h => h⟩
                          | 25, _ =>
                            cases ho
                            exact wpOp_off rfl (wantedOff (j := 20) (b := true) (b' := false) rfl rfl rfl (by rw [hI.len]; show _ < 257; decide) (hI.slot 20 174 rfl (hpre ⟨20, .guard⟩ (by simp) rfl) rfl) (by decide)) ⟨_, rfl, hJ, fun _ => rfl, fun _ _ _ h => h⟩
                          | 26, _ =>
                            cases ho
                            exact wpOp_off rfl (wantedOff (j := 20) (b := true) (b' := false) rfl rfl rfl (by rw [hI.len]; show _ < 257; decide) (hI.slot 20 174 rfl (hpre ⟨20, .guard⟩ (by simp) rfl) rfl) (by decide)) ⟨_, rfl, hJ, fun _ => rfl, fun _ _ _ h => h⟩
                          | 27, _ =>
                            cases ho
                            exact wpOp_off rfl (wantedOff (j := 20) (b := true) (b' := false) rfl rfl rfl (by rw [hI.len]; show _ < 257; decide) (hI.slot 20 174 rfl (hpre ⟨20, .guard⟩ (by simp) rfl) rfl) (by decide)) ⟨_, rfl, hJ, fun _ => rfl, fun _ _ _ h => h⟩
                          | 28, _ =>
                            cases ho
                            exact wpOp_off rfl (wantedOff (j := 20) (b := true) (b' := false) rfl rfl rfl (by rw [hI.len]; show _ < 257; decide) (hI.slot 20 174 rfl (hpre ⟨20, .guard⟩ (by simp) rfl) rfl) (by decide)) ⟨_, rfl, hJ, fun _ => rfl, fun _ _ _ h => h⟩
                          | 29, _ =>
                            cases ho
                            exact wpOp_off rfl (wantedOff (j := 20) (b := true) (b' := false) rfl rfl rfl (by rw [hI.len]; show _ < 257; decide) (hI.slot 20 174 rfl (hpre ⟨20, .guard⟩ (by simp) rfl) rfl) (by decide)) ⟨_, rfl, hJ, fun _ => rfl, fun _ _ _ h => h⟩
                          | 30, _ =>
                            cases ho
                            exact wpOp_off rfl (wantedOff (j := 20) (b := true) (b' := false) rfl rfl rfl (by rw [hI.len]; show _ < 257; decide) (hI.slot 20 174 rfl (hpre ⟨20, .guard⟩ (by simp) rfl) rfl) (by decide)) ⟨_, rfl, hJ, fun _ => rfl, fun _ _ _ h => h⟩
                          | 31, _ =>
                            cases ho
                            exact wpOp_off rfl (wantedOff (j := 20) (b := true) (b' := false) rfl rfl rfl (by rw [hI.len]; show _ < 257; decide) (hI.slot 20 174 rfl (hpre ⟨20, .guard⟩ (by simp) rfl) rfl) (by decide)) ⟨_, rfl, hJ, fun _ => rfl, fun _ _ _ h => h⟩
                          | 32, _ =>
                            cases ho
                            exact wpOp_pick2 (v := undef) (u := (.bool false)) rfl (wantedOf (j := 1) (b := true) rfl rfl rfl (by rw [hI.len]; show _ < 257; decide) (hI.slot 1 155 rfl (hpre ⟨1, .guard⟩ (by simp) rfl) rfl)) rfl (hI.slot 20 174 rfl (hpre ⟨20, .data⟩ (by simp) rfl) rfl) (fun h => by cases h) (fun _ => rfl) ⟨_, rfl, hJ, fun _ => rfl, fun _ _ _ h => h⟩
                          | 33, _ =>
                            cases ho
                            exact wpOp_notP rfl (wantedOf (j := 1) (b := true) rfl rfl rfl (by rw [hI.len]; show _ < 257; decide) (hI.slot 1 155 rfl (hpre ⟨1, .guard⟩ (by simp) rfl) rfl)) rfl (hI.slot 32 186 rfl (hpre ⟨32, .data⟩ (by simp) rfl) rfl) rfl ⟨_, rfl, hJ, fun _ => rfl, fun _ _ _ h => h⟩
                          | 34, _ =>
                            cases ho
                            exact wpOp_pick2 (v := (.bool true)) (u := undef) rfl rfl rfl (hI.slot 1 155 rfl (hpre ⟨1, .data⟩ (by simp) rfl) rfl) (fun _ => (hI.slot 33 187 rfl (hpre ⟨33, .data⟩ (by simp) rfl) rfl)) (fun h => by cases h) ⟨_, rfl, hJ, fun _ => rfl, fun _ _ _ h => h⟩
                          | 35, _ =>
                            cases ho
                            exact wpOp_move rfl rfl (.inr rfl) (hI.slot 34 188 rfl (hpre ⟨34, .data⟩ (by simp) rfl) rfl) ⟨_, rfl, hJ, fun _ => rfl, fun _ _ _ h => h⟩
                        case fin =>
                          intro listed a w' hIn hall
                          have hI := hIn.toL
                          clear hIn
                          have hJ := hI.inv
                          have eS18 : a.tmps.getD 18 undef = .bool true := hI.slot 35 18 rfl (hall 35 (by decide)) rfl
                          obtain ⟨vs, us, hvl, hul, hvs, hus, e⟩ := hI.frame2 18 1 154 35 (by decide) (Nat.le_of_ble_eq_true (by kernel_rfl)) (by kernel_rfl)
                          have vS18 := hvs 0 (by decide)
                          clear hI hall hvs hus
                          match vs, us, hvl, hul with
                          | [x0], y0 :: y1 :: y2 :: y3 :: y4 :: y5 :: y6 :: y7 :: y8 :: y9 :: y10 :: y11 :: y12 :: y13 :: y14 :: y15 :: y16 :: y17 :: y18 :: y19 :: y20 :: y21 :: y22 :: y23 :: y24 :: y25 :: y26 :: y27 :: y28 :: y29 :: y30 :: y31 :: y32 :: y33 :: y34 :: [], _, _ =>
                          simp only [List.getElem?_cons_zero, Option.some.injEq] at vS18
                          rw [show 18 + 0 = 18 from rfl, eS18] at vS18
                          subst vS18
                          simp only [List.take_succ_cons, List.take_zero, List.drop_succ_cons, List.drop_zero, List.cons_append, List.nil_append, Nat.reduceAdd, Nat.reduceSub] at e
                          subst e
                          clear eS18
                          subst hJ
                          clear kx0 kx1 ky0 ky1
                          go_wp2
                          exact ⟨⟨k + 1, rfl, by omega, by omega, congrArg Value.bool (lastB_off hlb hy fun _ h => hF (sameE.1 h).1.symm).symm, HZ.out⟩, by show n - ((k : Int) + 1).toNat < n - (k : Int).toNat; omega⟩
                      case pos =>
                        by_cases hC : y.c.toList = x.c.toList
                        case neg =>
                          refine wp_region_n (fun _ W => W = w10.drew) (R30D B o n cap i k x y) (by kernel_rfl) (by kernel_rfl) (by kernel_rfl) (by kernel_rfl) rfl ?step ?fin
                          case step =>
                            intro i o ho listed a w' hIn hn' hpre
                            have hI := hIn.toL
                            have hJ := hI.inv
                            have hi : i < 36 := (Array.getElem?_eq_some_iff.1 ho).1
                            match i, hi with
                            | 0, _ =>
                              cases ho
                              exact wpOp_move rfl rfl (.inl rfl) (hIn.later 35 (t := 18) (by kernel_rfl) (hI.notyet hn' 35 (by kernel_rfl))) ⟨_, rfl, hJ, fun _ => rfl, fun _ _ _ h => h⟩
                            | 1, _ =>
                              cases ho
                              exact wpOp_move rfl rfl (.inl rfl) (hI.slot 0 154 rfl (hpre ⟨0, .data⟩ (by simp) rfl) rfl) ⟨_, rfl, hJ, fun _ => rfl, fun _ _ _ h => h⟩
                            | 2, _ =>
                              cases ho
                              exact wpOp_move rfl (wantedOf (j := 1) (b := true) rfl rfl rfl (by rw [hI.len]; show _ < 257; decide) (hI.slot 1 155 rfl (hpre ⟨1, .guard⟩ (by simp) rfl) rfl)) (.inl rfl) (hI.kept (t := 21) (by kernel_rfl)) ⟨_, rfl, hJ, fun _ => rfl, fun _ _ _ h => h⟩
                            | 3, _ =>
                              cases ho
                              exact wpOp_move rfl (wantedOf (j := 1) (b := true) rfl rfl rfl (by rw [hI.len]; show _ < 257; decide) (hI.slot 1 155 rfl (hpre ⟨1, .chain⟩ (by simp) rfl) rfl)) (.inl rfl) (hI.slot 2 156 rfl (hpre ⟨2, .data⟩ (by simp) rfl) rfl) ⟨_, rfl, hJ, fun _ => rfl, fun _ _ _ h => h⟩
                            | 4, _ =>
                              cases ho
                              exact wpOp_move rfl (wantedOf (j := 3) (b := true) rfl rfl rfl (by rw [hI.len]; show _ < 257; decide) (hI.slot 3 157 rfl (hpre ⟨3, .guard⟩ (by simp) rfl) rfl)) (.inl rfl) (hI.kept (t := 22) (by kernel_rfl)) ⟨_, rfl, hJ, fun _ => rfl, fun _ _ _ h => h⟩
                            | 5, _ =>
                              cases ho
                              exact wpOp_bin rfl (wantedOf (j := 3) (b := true) rfl rfl rfl (by rw [hI.len]; show _ < 257; decide) (hI.slot 3 157 rfl (hpre ⟨3, .guard⟩ (by simp) rfl) rfl)) rfl (hI.slot 4 158 rfl (hpre ⟨4, .data⟩ (by simp) rfl) rfl) rfl (by simp [go_sem]) (by simp [go_sem]) ⟨_, rfl, hJ, fun _ => rfl, fun _ _ _ h => h⟩
                            | 6, _ =>
                              cases ho
                              exact wpOp_pick2 (v := (.bool true)) (u := undef) rfl (wantedOf (j := 1) (b := true) rfl rfl rfl (by rw [hI.len]; show _ < 257; decide) (hI.slot 1 155 rfl (hpre ⟨1, .guard⟩ (by simp) rfl) rfl)) rfl (hI.slot 3 157 rfl (hpre ⟨3, .data⟩ (by simp) rfl) rfl) (fun _ => (hI.slot 5 159 rfl (hpre ⟨5, .data⟩ (by simp) rfl) rfl)) (fun h => by cases h) ⟨_, rfl, hJ, fun _ => rfl, fun _ _ _ h => h⟩
                            | 7, _ =>
                              cases ho
                              exact wpOp_move rfl (wantedOf (j := 1) (b := true) rfl rfl rfl (by rw [hI.len]; show _ < 257; decide) (hI.slot 1 155 rfl (hpre ⟨1, .guard⟩ (by simp) rfl) rfl)) (.inl rfl) (hI.slot 6 160 rfl (hpre ⟨6, .data⟩ (by simp) rfl) rfl) ⟨_, rfl, hJ, fun _ => rfl, fun _ _ _ h => h⟩
                            | 8, _ =>
                              cases ho
                              exact wpOp_move rfl (wantedOf (j := 7) (b := true) rfl rfl rfl (by rw [hI.len]; show _ < 257; decide) (hI.slot 7 161 rfl (hpre ⟨7, .guard⟩ (by simp) rfl) rfl)) (.inl rfl) (hI.kept (t := 0) (by kernel_rfl)) ⟨_, rfl, hJ, fun _ => rfl, fun _ _ _ h => h⟩
                            | 9, _ =>
                              cases ho
                              exact wpOp_move rfl (wantedOf (j := 7) (b := true) rfl rfl rfl (by rw [hI.len]; show _ < 257; decide) (hI.slot 7 161 rfl (hpre ⟨7, .guard⟩ (by simp) rfl) rfl)) (.inl rfl) (hI.kept (t := 19) (by kernel_rfl)) ⟨_, rfl, hJ, fun _ => rfl, fun _ _ _ h => h⟩
                            | 10, _ =>
                              cases ho
                              exact wpOp_index rfl (wantedOf (j := 7) (b := true) rfl rfl rfl (by rw [hI.len]; show _ < 257; decide) (hI.slot 7 161 rfl (hpre ⟨7, .guard⟩ (by simp) rfl) rfl)) rfl (hI.slot 8 162 rfl (hpre ⟨8, .data⟩ (by simp) rfl) rfl) (hI.slot 9 163 rfl (hpre ⟨9, .data⟩ (by simp) rfl) rfl) (hixk w') ⟨_, rfl, hJ, fun _ => rfl, fun _ _ _ h => h⟩
                            | 11, _ =>
                              cases ho
                              exact wpOp_field rfl (wantedOf (j := 7) (b := true) rfl rfl rfl (by rw [hI.len]; show _ < 257; decide) (hI.slot 7 161 rfl (hpre ⟨7, .guard⟩ (by simp) rfl) rfl)) rfl (hI.slot 10 164 rfl (hpre ⟨10, .data⟩ (by simp) rfl) rfl) (by simp [go_sem]) ⟨_, rfl, hJ, fun _ => rfl, fun _ _ _ h => h⟩
                            | 12, _ =>
                              cases ho
                              exact wpOp_load rfl (wantedOf (j := 7) (b := true) rfl rfl rfl (by rw [hI.len]; show _ < 257; decide) (hI.slot 7 161 rfl (hpre ⟨7, .guard⟩ (by simp) rfl) rfl)) rfl (hI.slot 11 165 rfl (hpre ⟨11, .data⟩ (by simp) rfl) rfl) (load_c (Tryz.isAgg9 w') (show w'.cell? _ = _ from by rw [hJ]; exact ky0)) ⟨_, rfl, hJ, fun _ => rfl, fun _ _ _ h => h⟩
                            | 13, _ =>
                              cases ho
                              exact wpOp_move rfl (wantedOf (j := 7) (b := true) rfl rfl rfl (by rw [hI.len]; show _ < 257; decide) (hI.slot 7 161 rfl (hpre ⟨7, .guard⟩ (by simp) rfl) rfl)) (.inl rfl) (hI.kept (t := 0) (by kernel_rfl)) ⟨_, rfl, hJ, fun _ => rfl, fun _ _ _ h => h⟩
                            | 14, _ =>
                              cases ho
                              exact wpOp_move rfl (wantedOf (j := 7) (b := true) rfl rfl rfl (by rw [hI.len]; show _ < 257; decide) (hI.slot 7 161 rfl (hpre ⟨7, .guard⟩ (by simp) rfl) rfl)) (.inl rfl) (hI.kept (t := 9) (by kernel_rfl)) ⟨_, rfl, hJ, fun _ => rfl, fun _ _ _ h => h⟩
                            | 15, _ =>
                              cases ho
                              exact wpOp_index rfl (wantedOf (j := 7) (b := true) rfl rfl rfl (by rw [hI.len]; show _ < 257; decide) (hI.slot 7 161 rfl (hpre ⟨7, .guard⟩ (by simp) rfl) rfl)) rfl (hI.slot 13 167 rfl (hpre ⟨13, .data⟩ (by simp) rfl) rfl) (hI.slot 14 168 rfl (hpre ⟨14, .data⟩ (by simp) rfl) rfl) (hixa w') ⟨_, rfl, hJ, fun _ => rfl, fun _ _ _ h => h⟩
                            | 16, _ =>
                              cases ho
                              exact wpOp_field rfl (wantedOf (j := 7) (b := true) rfl rfl rfl (by rw [hI.len]; show _ < 257; decide) (hI.slot 7 161 rfl (hpre ⟨7, .guard⟩ (by simp) rfl) rfl)) rfl (hI.slot 15 169 rfl (hpre ⟨15, .data⟩ (by simp) rfl) rfl) (by simp [go_sem]) ⟨_, rfl, hJ, fun _ => rfl, fun _ _ _ h => h⟩
                            | 17, _ =>
                              cases ho
                              exact wpOp_load rfl (wantedOf (j := 7) (b := true) rfl rfl rfl (by rw [hI.len]; show _ < 257; decide) (hI.slot 7 161 rfl (hpre ⟨7, .guard⟩ (by simp) rfl) rfl)) rfl (hI.slot 16 170 rfl (hpre ⟨16, .data⟩ (by simp) rfl) rfl) (load_c (Tryz.isAgg9 w') (show w'.cell? _ = _ from by rw [hJ]; exact kx0)) ⟨_, rfl, hJ, fun _ => rfl, fun _ _ _ h => h⟩
                            | 18, _ =>
                              cases ho
                              exact wpOp_bin rfl (wantedOf (j := 7) (b := true) rfl rfl rfl (by rw [hI.len]; show _ < 257; decide) (hI.slot 7 161 rfl (hpre ⟨7, .guard⟩ (by simp) rfl) rfl)) rfl (hI.slot 12 166 rfl (hpre ⟨12, .data⟩ (by simp) rfl) rfl) (hI.slot 17 171 rfl (hpre ⟨17, .data⟩ (by simp) rfl) rfl) (by simp [go_sem]) (by simp [go_sem, hF]) ⟨_, rfl, hJ, fun _ => rfl, fun _ _ _ h => h⟩
                            | 19, _ =>
                              cases ho
                              exact wpOp_pick2 (v := (.bool true)) (u := undef) rfl (wantedOf (j := 1) (b := true) rfl rfl rfl (by rw [hI.len]; show _ < 257; decide) (hI.slot 1 155 rfl (hpre ⟨1, .guard⟩ (by simp) rfl) rfl)) rfl (hI.slot 7 161 rfl (hpre ⟨7, .data⟩ (by simp) rfl) rfl) (fun _ => (hI.slot 18 172 rfl (hpre ⟨18, .data⟩ (by simp) rfl) rfl)) (fun h => by cases h) ⟨_, rfl, hJ, fun _ => rfl, fun _ _ _ h => h⟩
                            | 20, _ =>
                              cases ho
                              exact wpOp_move rfl (wantedOf (j := 1) (b := true) rfl rfl rfl (by rw [hI.len]; show _ < 257; decide) (hI.slot 1 155 rfl (hpre ⟨1, .guard⟩ (by simp) rfl) rfl)) (.inl rfl) (hI.slot 19 173 rfl (hpre ⟨19, .data⟩ (by simp) rfl) rfl) ⟨_, rfl, hJ, fun _ => rfl, fun _ _ _ h => h⟩
                            | 21, _ =>
                              cases ho
                              exact wpOp_move rfl (wantedOf (j := 20) (b := true) rfl rfl rfl (by rw [hI.len]; show _ < 257; decide) (hI.slot 20 174 rfl (hpre ⟨20, .guard⟩ (by simp) rfl) rfl)) (.inl rfl) (hI.kept (t := 0) (by kernel_rfl)) ⟨_, rfl, hJ, fun _ => rfl, fun _ _ _ h => h⟩
                            | 22, _ =>
                              cases ho
                              exact wpOp_move rfl (wantedOf (j := 20) (b := true) rfl rfl rfl (by rw [hI.len]; show _ < 257; decide) (hI.slot 20 174 rfl (hpre ⟨20, .guard⟩ (by simp) rfl) rfl)) (.inl rfl) (hI.kept (t := 19) (by kernel_rfl)) ⟨_, rfl, hJ, fun _ => rfl, fun _ _ _ h => h⟩
                            | 23, _ =>
                              cases ho
                              exact wpOp_index rfl (wantedOf (j := 20) (b := true) rfl rfl rfl (by rw [hI.len]; show _ < 257; decide) (hI.slot 20 174 rfl (hpre ⟨20, .guard⟩ (by simp) rfl) rfl)) rfl (hI.slot 21 175 rfl (hpre ⟨21, .data⟩ (by simp) rfl) rfl) (hI.slot 22 176 rfl (hpre ⟨22, .data⟩ (by simp) rfl) rfl) (hixk w') ⟨_, rfl, hJ, fun _ => rfl, fun _ _ _ h => h⟩
                            | 24, _ =>
                              cases ho
                              exact wpOp_field rfl (wantedOf (j := 20) (b := true) rfl rfl rfl (by rw [hI.len]; show _ < 257; decide) (hI.slot 20 174 rfl (hpre ⟨20, .guard⟩ (by simp) rfl) rfl)) rfl (hI.slot 23 177 rfl (hpre ⟨23, .data⟩ (by simp) rfl) rfl) (by simp [go_sem]) ⟨_, rfl, hJ, fun _ => rfl, fun _ _ _ h => h⟩
                            | 25, _ =>
                              cases ho
                              exact wpOp_load rfl (wantedOf (j := 20) (b := true) rfl rfl rfl (by rw [hI.len]; show _ < 257; decide) (hI.slot 20 174 rfl (hpre ⟨20, .guard⟩ (by simp) rfl) rfl)) rfl (hI.slot 24 178 rfl (hpre ⟨24, .data⟩ (by simp) rfl) rfl) (load_c (Tryz.isAgg9 w') (show w'.cell? _ = _ from by rw [hJ]; exact ky1)) ⟨_, rfl, hJ, fun _ => rfl, fun _ _ _ h => h⟩
                            | 26, _ =>
                              cases ho
                              exact wpOp_move rfl (wantedOf (j := 20) (b := true) rfl rfl rfl (by rw [hI.len]; show _ < 257; decide) (hI.slot 20 174 rfl (hpre ⟨20, .guard⟩ (by simp) rfl) rfl)) (.inl rfl) (hI.kept (t := 0) (by kernel_rfl)) ⟨_, rfl, hJ, fun _ => rfl, fun _ _ _ h => h⟩
                            | 27, _ =>
                              cases ho
                              exact wpOp_move rfl (wantedOf (j := 20) (b := true) rfl rfl rfl (by rw [hI.len]; show _ < 257; decide) (hI.slot 20 174 rfl (hpre ⟨20, .guard⟩ (by simp) rfl) rfl)) (.inl rfl) (hI.kept (t := 9) (by kernel_rfl)) ⟨_, rfl, hJ, fun _ => rfl, fun _ _ _ h => h⟩
                            | 28, _ =>
                              cases ho
                              exact wpOp_index rfl (wantedOf (j := 20) (b := true) rfl rfl rfl (by rw [hI.len]; show _ < 257; decide) (hI.slot 20 174 rfl (hpre ⟨20, .guard⟩ (by simp) rfl) rfl)) rfl (hI.slot 26 180 rfl (hpre ⟨26, .data⟩ (by simp) rfl) rfl) (hI.slot 27 181 rfl (hpre ⟨27, .data⟩ (by simp) rfl) rfl) (hixa w') ⟨_, rfl, hJ, fun _ => rfl, fun _ _ _ h => h⟩
                            | 29, _ =>
                              cases ho
                              exact wpOp_field rfl (wantedOf (j := 20) (b := true) rfl rfl rfl (by rw [hI.len]; show _ < 257; decide) (hI.slot 20 174 rfl (hpre ⟨20, .guard⟩ (by simp) rfl) rfl)) rfl (hI.slot 28 182 rfl (hpre ⟨28, .data⟩ (by simp) rfl) rfl) (by simp [go_sem]) ⟨_, rfl, hJ, fun _ => rfl, fun _ _ _ h => h⟩
                            | 30, _ =>
                              cases ho
                              exact wpOp_load rfl (wantedOf (j := 20) (b := true) rfl rfl rfl (by rw [hI.len]; show _ < 257; decide) (hI.slot 20 174 rfl (hpre ⟨20, .guard⟩ (by simp) rfl) rfl)) rfl (hI.slot 29 183 rfl (hpre ⟨29, .data⟩ (by simp) rfl) rfl) (load_c (Tryz.isAgg9 w') (show w'.cell? _ = _ from by rw [hJ]; exact kx1)) ⟨_, rfl, hJ, fun _ => rfl, fun _ _ _ h => h⟩
                            | 31, _ =>
                              cases ho
                              exact wpOp_bin rfl (wantedOf (j := 20) (b := true) rfl rfl rfl (by rw [hI.len]; show _ < 257; decide) (hI.slot 20 174 rfl (hpre ⟨20, .guard⟩ (by simp) rfl) rfl)) rfl (hI.slot 25 179 rfl (hpre ⟨25, .data⟩ (by simp) rfl) rfl) (hI.slot 30 184 rfl (hpre ⟨30, .data⟩ (by simp) rfl) rfl) (by simp [go_sem]) (by simp [go_sem, hC]) ⟨_, rfl, hJ, fun _ => rfl, fun _ _ _ h => h⟩
                            | 32, _ =>
                              cases ho
                              exact wpOp_pick2 (v := (.bool false)) (u := undef) rfl (wantedOf (j := 1) (b := true) rfl rfl rfl (by rw [hI.len]; show _ < 257; decide) (hI.slot 1 155 rfl (hpre ⟨1, .guard⟩ (by simp) rfl) rfl)) rfl (hI.slot 20 174 rfl (hpre ⟨20, .data⟩ (by simp) rfl) rfl) (fun _ => (hI.slot 31 185 rfl (hpre ⟨31, .data⟩ (by simp) rfl) rfl)) (fun h => by cases h) ⟨_, rfl, hJ, fun _ => rfl, fun _ _ _ h => h⟩
                            | 33, _ =>
                              cases ho
                              exact wpOp_notP rfl (wantedOf (j := 1) (b := true) rfl rfl rfl (by rw [hI.len]; show _ < 257; decide) (hI.slot 1 155 rfl (hpre ⟨1, .guard⟩ (by simp) rfl) rfl)) rfl (hI.slot 32 186 rfl (hpre ⟨32, .data⟩ (by simp) rfl) rfl) rfl ⟨_, rfl, hJ, fun _ => rfl, fun _ _ _ h => h⟩
                            | 34, _ =>
                              cases ho
                              exact wpOp_pick2 (v := (.bool true)) (u := undef) rfl rfl rfl (hI.slot 1 155 rfl (hpre ⟨1, .data⟩ (by simp) rfl) rfl) (fun _ => (hI.slot 33 187 rfl (hpre ⟨33, .data⟩ (by simp) rfl) rfl)) (fun h => by cases h) ⟨_, rfl, hJ, fun _ => rfl, fun _ _ _ h => h⟩
                            | 35, _ =>
                              cases ho
                              exact wpOp_move rfl rfl (.inr rfl) (hI.slot 34 188 rfl (hpre ⟨34, .data⟩ (by simp) rfl) rfl) ⟨_, rfl, hJ, fun _ => rfl, fun _ _ _ h => h⟩
                          case fin =>
                            intro listed a w' hIn hall
                            have hI := hIn.toL
                            clear hIn
                            have hJ := hI.inv
                            have eS18 : a.tmps.getD 18 undef = .bool true := hI.slot 35 18 rfl (hall 35 (by decide)) rfl
                            obtain ⟨vs, us, hvl, hul, hvs, hus, e⟩ := hI.frame2 18 1 154 35 (by decide) (Nat.le_of_ble_eq_true (by kernel_rfl)) (by kernel_rfl)
                            have vS18 := hvs 0 (by decide)
                            clear hI hall hvs hus
                            match vs, us, hvl, hul with
                            | [x0], y0 :: y1 :: y2 :: y3 :: y4 :: y5 :: y6 :: y7 :: y8 :: y9 :: y10 :: y11 :: y12 :: y13 :: y14 :: y15 :: y16 :: y17 :: y18 :: y19 :: y20 :: y21 :: y22 :: y23 :: y24 :: y25 :: y26 :: y27 :: y28 :: y29 :: y30 :: y31 :: y32 :: y33 :: y34 :: [], _, _ =>
                            simp only [List.getElem?_cons_zero, Option.some.injEq] at vS18
                            rw [show 18 + 0 = 18 from rfl, eS18] at vS18
                            subst vS18
                            simp only [List.take_succ_cons, List.take_zero, List.drop_succ_cons, List.drop_zero, List.cons_append, List.nil_append, Nat.reduceAdd, Nat.reduceSub] at e
                            subst e
                            clear eS18
                            subst hJ
                            clear kx0 kx1 ky0 ky1
                            go_wp2
                            exact ⟨⟨k + 1, rfl, by omega, by omega, congrArg Value.bool (lastB_off hlb hy fun _ h => hC (sameE.1 h).2.symm).symm, HZ.out⟩, by show n - ((k : Int) + 1).toNat < n - (k : Int).toNat; omega⟩
                        case pos =>
                          refine wp_region_n (fun _ W => W = w10.drew) (R30E B o n cap i k x y) (by kernel_rfl) (by kernel_rfl) (by kernel_rfl) (by kernel_rfl) rfl ?step ?fin
                          case step =>
                            intro i o ho listed a w' hIn hn' hpre
                            have hI := hIn.toL
                            have hJ := hI.inv
                            have hi : i < 36 := (Array.getElem?_eq_some_iff.1 ho).1
                            match i, hi with
                            | 0, _ =>
                              cases ho
                              exact wpOp_move rfl rfl (.inl rfl) (hIn.later 35 (t := 18) (by kernel_rfl) (hI.notyet hn' 35 (by kernel_rfl))) ⟨_, rfl, hJ, fun _ => rfl, fun _ _ _ h => h⟩
                            | 1, _ =>
                              cases ho
                              exact wpOp_move rfl rfl (.inl rfl) (hI.slot 0 154 rfl (hpre ⟨0, .data⟩ (by simp) rfl) rfl) ⟨_, rfl, hJ, fun _ => rfl, fun _ _ _ h => h⟩
                            | 2, _ =>
                              cases ho
                              exact wpOp_move rfl (wantedOf (j := 1) (b := true) rfl rfl rfl (by rw [hI.len]; show _ < 257; decide) (hI.slot 1 155 rfl (hpre ⟨1, .guard⟩ (by simp) rfl) rfl)) (.inl rfl) (hI.kept (t := 21) (by kernel_rfl)) ⟨_, rfl, hJ, fun _ => rfl, fun _ _ _ h => h⟩
                            | 3, _ =>
                              cases ho
                              exact wpOp_move rfl (wantedOf (j := 1) (b := true) rfl rfl rfl (by rw [hI.len]; show _ < 257; decide) (hI.slot 1 155 rfl (hpre ⟨1, .chain⟩ (by simp) rfl) rfl)) (.inl rfl) (hI.slot 2 156 rfl (hpre ⟨2, .data⟩ (by simp) rfl) rfl) ⟨_, rfl, hJ, fun _ => rfl, fun _ _ _ h => h⟩
                            | 4, _ =>
                              cases ho
                              exact wpOp_move rfl (wantedOf (j := 3) (b := true) rfl rfl rfl (by rw [hI.len]; show _ < 257; decide) (hI.slot 3 157 rfl (hpre ⟨3, .guard⟩ (by simp) rfl) rfl)) (.inl rfl) (hI.kept (t := 22) (by kernel_rfl)) ⟨_, rfl, hJ, fun _ => rfl, fun _ _ _ h => h⟩
                            | 5, _ =>
                              cases ho
                              exact wpOp_bin rfl (wantedOf (j := 3) (b := true) rfl rfl rfl (by rw [hI.len]; show _ < 257; decide) (hI.slot 3 157 rfl (hpre ⟨3, .guard⟩ (by simp) rfl) rfl)) rfl (hI.slot 4 158 rfl (hpre ⟨4, .data⟩ (by simp) rfl) rfl) rfl (by simp [go_sem]) (by simp [go_sem]) ⟨_, rfl, hJ, fun _ => rfl, fun _ _ _ h => h⟩
                            | 6, _ =>
                              cases ho
                              exact wpOp_pick2 (v := (.bool true)) (u := undef) rfl (wantedOf (j := 1) (b := true) rfl rfl rfl (by rw [hI.len]; show _ < 257; decide) (hI.slot 1 155 rfl (hpre ⟨1, .guard⟩ (by simp) rfl) rfl)) rfl (hI.slot 3 157 rfl (hpre ⟨3, .data⟩ (by simp) rfl) rfl) (fun _ => (hI.slot 5 159 rfl (hpre ⟨5, .data⟩ (by simp) rfl) rfl)) (fun h => by cases h) ⟨_, rfl, hJ, fun _ => rfl, fun _ _ _ h => h⟩
                            | 7, _ =>
                              cases ho
                              exact wpOp_move rfl (wantedOf (j := 1) (b := true) rfl rfl rfl (by rw [hI.len]; show _ < 257; decide) (hI.slot 1 155 rfl (hpre ⟨1, .guard⟩ (by simp) rfl) rfl)) (.inl rfl) (hI.slot 6 160 rfl (hpre ⟨6, .data⟩ (by simp) rfl) rfl) ⟨_, rfl, hJ, fun _ => rfl, fun _ _ _ h => h⟩
                            | 8, _ =>
                              cases ho
                              exact wpOp_move rfl (wantedOf (j := 7) (b := true) rfl rfl rfl (by rw [hI.len]; show _ < 257; decide) (hI.slot 7 161 rfl (hpre ⟨7, .guard⟩ (by simp) rfl) rfl)) (.inl rfl) (hI.kept (t := 0) (by kernel_rfl)) ⟨_, rfl, hJ, fun _ => rfl, fun _ _ _ h => h⟩
                            | 9, _ =>
                              cases ho
                              exact wpOp_move rfl (wantedOf (j := 7) (b := true) rfl rfl rfl (by rw [hI.len]; show _ < 257; decide) (hI.slot 7 161 rfl (hpre ⟨7, .guard⟩ (by simp) rfl) rfl)) (.inl rfl) (hI.kept (t := 19) (by kernel_rfl)) ⟨_, rfl, hJ, fun _ => rfl, fun _ _ _ h => h⟩
                            | 10, _ =>
                              cases ho
                              exact wpOp_index rfl (wantedOf (j := 7) (b := true) rfl rfl rfl (by rw [hI.len]; show _ < 257; decide) (hI.slot 7 161 rfl (hpre ⟨7, .guard⟩ (by simp) rfl) rfl)) rfl (hI.slot 8 162 rfl (hpre ⟨8, .data⟩ (by simp) rfl) rfl) (hI.slot 9 163 rfl (hpre ⟨9, .data⟩ (by simp) rfl) rfl) (hixk w') ⟨_, rfl, hJ, fun _ => rfl, fun _ _ _ h => h⟩
                            | 11, _ =>
                              cases ho
                              exact wpOp_field rfl (wantedOf (j := 7) (b := true) rfl rfl rfl (by rw [hI.len]; show _ < 257; decide) (hI.slot 7 161 rfl (hpre ⟨7, .guard⟩ (by simp) rfl) rfl)) rfl (hI.slot 10 164 rfl (hpre ⟨10, .data⟩ (by simp) rfl) rfl) (by simp [go_sem]) ⟨_, rfl, hJ, fun _ => rfl, fun _ _ _ h => h⟩
                            | 12, _ =>
                              cases ho
                              exact wpOp_load rfl (wantedOf (j := 7) (b := true) rfl rfl rfl (by rw [hI.len]; show _ < 257; decide) (hI.slot 7 161 rfl (hpre ⟨7, .guard⟩ (by simp) rfl) rfl)) rfl (hI.slot 11 165 rfl (hpre ⟨11, .data⟩ (by simp) rfl) rfl) (load_c (Tryz.isAgg9 w') (show w'.cell? _ = _ from by rw [hJ]; exact ky0)) ⟨_, rfl, hJ, fun _ => rfl, fun _ _ _ h => h⟩
                            | 13, _ =>
                              cases ho
                              exact wpOp_move rfl (wantedOf (j := 7) (b := true) rfl rfl rfl (by rw [hI.len]; show _ < 257; decide) (hI.slot 7 161 rfl (hpre ⟨7, .guard⟩ (by simp) rfl) rfl)) (.inl rfl) (hI.kept (t := 0) (by kernel_rfl)) ⟨_, rfl, hJ, fun _ => rfl, fun _ _ _ h => h⟩
                            | 14, _ =>
                              cases ho
                              exact wpOp_move rfl (wantedOf (j := 7) (b := true) rfl rfl rfl (by rw [hI.len]; show _ < 257; decide) (hI.slot 7 161 rfl (hpre ⟨7, .guard⟩ (by simp) rfl) rfl)) (.inl rfl) (hI.kept (t := 9) (by kernel_rfl)) ⟨_, rfl, hJ, fun _ => rfl, fun _ _ _ h => h⟩
                            | 15, _ =>
                              cases ho
                              exact wpOp_index rfl (wantedOf (j := 7) (b := true) rfl rfl rfl (by rw [hI.len]; show _ < 257; decide) (hI.slot 7 161 rfl (hpre ⟨7, .guard⟩ (by simp) rfl) rfl)) rfl (hI.slot 13 167 rfl (hpre ⟨13, .data⟩ (by simp) rfl) rfl) (hI.slot 14 168 rfl (hpre ⟨14, .data⟩ (by simp) rfl) rfl) (hixa w') ⟨_, rfl, hJ, fun _ => rfl, fun _ _ _ h => h⟩
                            | 16, _ =>
                              cases ho
                              exact wpOp_field rfl (wantedOf (j := 7) (b := true) rfl rfl rfl (by rw [hI.len]; show _ < 257; decide) (hI.slot 7 161 rfl (hpre ⟨7, .guard⟩ (by simp) rfl) rfl)) rfl (hI.slot 15 169 rfl (hpre ⟨15, .data⟩ (by simp) rfl) rfl) (by simp [go_sem]) ⟨_, rfl, hJ, fun _ => rfl, fun _ _ _ h => h⟩
                            | 17, _ =>
                              cases ho
                              exact wpOp_load rfl (wantedOf (j := 7) (b := true) rfl rfl rfl (by rw [hI.len]; show _ < 257; decide) (hI.slot 7 161 rfl (hpre ⟨7, .guard⟩ (by simp) rfl) rfl)) rfl (hI.slot 16 170 rfl (hpre ⟨16, .data⟩ (by simp) rfl) rfl) (load_c (Tryz.isAgg9 w') (show w'.cell? _ = _ from by rw [hJ]; exact kx0)) ⟨_, rfl, hJ, fun _ => rfl, fun _ _ _ h => h⟩
                            | 18, _ =>
                              cases ho
                              exact wpOp_bin rfl (wantedOf (j := 7) (b := true) rfl rfl rfl (by rw [hI.len]; show _ < 257; decide) (hI.slot 7 161 rfl (hpre ⟨7, .guard⟩ (by simp) rfl) rfl)) rfl (hI.slot 12 166 rfl (hpre ⟨12, .data⟩ (by simp) rfl) rfl) (hI.slot 17 171 rfl (hpre ⟨17, .data⟩ (by simp) rfl) rfl) (by simp [go_sem]) (by simp [go_sem, hF]) ⟨_, rfl, hJ, fun _ => rfl, fun _ _ _ h => h⟩
                            | 19, _ =>
                              cases ho
                              exact wpOp_pick2 (v := (.bool true)) (u := undef) rfl (wantedOf (j := 1) (b := true) rfl rfl rfl (by rw [hI.len]; show _ < 257; decide) (hI.slot 1 155 rfl (hpre ⟨1, .guard⟩ (by simp) rfl) rfl)) rfl (hI.slot 7 161 rfl (hpre ⟨7, .data⟩ (by simp) rfl) rfl) (fun _ => (hI.slot 18 172 rfl (hpre ⟨18, .data⟩ (by simp) rfl) rfl)) (fun h => by cases h) ⟨_, rfl, hJ, fun _ => rfl, fun _ _ _ h => h⟩
                            | 20, _ =>
                              cases ho
                              exact wpOp_move rfl (wantedOf (j := 1) (b := true) rfl rfl rfl (by rw [hI.len]; show _ < 257; decide) (hI.slot 1 155 rfl (hpre ⟨1, .guard⟩ (by simp) rfl) rfl)) (.inl rfl) (hI.slot 19 173 rfl (hpre ⟨19, .data⟩ (by simp) rfl) rfl) ⟨_, rfl, hJ, fun _ => rfl, fun _ _ _ h => h⟩
                            | 21, _ =>
                              cases ho
                              exact wpOp_move rfl (wantedOf (j := 20) (b := true) rfl rfl rfl (by rw [hI.len]; show _ < 257; decide) (hI.slot 20 174 rfl (hpre ⟨20, .guard⟩ (by simp) rfl) rfl)) (.inl rfl) (hI.kept (t := 0) (by kernel_rfl)) ⟨_, rfl, hJ, fun _ => rfl, fun _ _ _ h => h⟩
                            | 22, _ =>
                              cases ho
                              exact wpOp_move rfl (wantedOf (j := 20) (b := true) rfl rfl rfl (by rw [hI.len]; show _ < 257; decide) (hI.slot 20 174 rfl (hpre ⟨20, .guard⟩ (by simp) rfl) rfl)) (.inl rfl) (hI.kept (t := 19) (by kernel_rfl)) ⟨_, rfl, hJ, fun _ => rfl, fun _ _ _ h => h⟩
                            | 23, _ =>
                              cases ho
                              exact wpOp_index rfl (wantedOf (j := 20) (b := true) rfl rfl rfl (by rw [hI.len]; show _ < 257; decide) (hI.slot 20 174 rfl (hpre ⟨20, .guard⟩ (by simp) rfl) rfl)) rfl (hI.slot 21 175 rfl (hpre ⟨21, .data⟩ (by simp) rfl) rfl) (hI.slot 22 176 rfl (hpre ⟨22, .data⟩ (by simp) rfl) rfl) (hixk w') ⟨_, rfl, hJ, fun _ => rfl, fun _ _ _ h => h⟩
                            | 24, _ =>
                              cases ho
                              exact wpOp_field rfl (wantedOf (j := 20) (b := true) rfl rfl rfl (by rw [hI.len]; show _ < 257; decide) (hI.slot 20 174 rfl (hpre ⟨20, .guard⟩ (by simp) rfl) rfl)) rfl (hI.slot 23 177 rfl (hpre ⟨23, .data⟩ (by simp) rfl) rfl) (by simp [go_sem]) ⟨_, rfl, hJ, fun _ => rfl, fun _ _ _ h => h⟩
                            | 25, _ =>
                              cases ho
                              exact wpOp_load rfl (wantedOf (j := 20) (b := true) rfl rfl rfl (by rw [hI.len]; show _ < 257; decide) (hI.slot 20 174 rfl (hpre ⟨20, .guard⟩ (by simp) rfl) rfl)) rfl (hI.slot 24 178 rfl (hpre ⟨24, .data⟩ (by simp) rfl) rfl) (load_c (Tryz.isAgg9 w') (show w'.cell? _ = _ from by rw [hJ]; exact ky1)) ⟨_, rfl, hJ, fun _ => rfl, fun _ _ _ h => h⟩
                            | 26, _ =>
                              cases ho
                              exact wpOp_move rfl (wantedOf (j := 20) (b := true) rfl rfl rfl (by rw [hI.len]; show _ < 257; decide) (hI.slot 20 174 rfl (hpre ⟨20, .guard⟩ (by simp) rfl) rfl)) (.inl rfl) (hI.kept (t := 0) (by kernel_rfl)) ⟨_, rfl, hJ, fun _ => rfl, fun _ _ _ h => h⟩
                            | 27, _ =>
                              cases ho
                              exact wpOp_move rfl (wantedOf (j := 20) (b := true) rfl rfl rfl (by rw [hI.len]; show _ < 257; decide) (hI.slot 20 174 rfl (hpre ⟨20, .guard⟩ (by simp) rfl) rfl)) (.inl rfl) (hI.kept (t := 9) (by kernel_rfl)) ⟨_, rfl, hJ, fun _ => rfl, fun _ _ _ h => h⟩
                            | 28, _ =>
                              cases ho
                              exact wpOp_index rfl (wantedOf (j := 20) (b := true) rfl rfl rfl (by rw [hI.len]; show _ < 257; decide) (hI.slot 20 174 rfl (hpre ⟨20, .guard⟩ (by simp) rfl) rfl)) rfl (hI.slot 26 180 rfl (hpre ⟨26, .data⟩ (by simp) rfl) rfl) (hI.slot 27 181 rfl (hpre ⟨27, .data⟩ (by simp) rfl) rfl) (hixa w') ⟨_, rfl, hJ, fun _ => rfl, fun _ _ _ h => h⟩
                            | 29, _ =>
                              cases ho
                              exact wpOp_field rfl (wantedOf (j := 20) (b := true) rfl rfl rfl (by rw [hI.len]; show _ < 257; decide) (hI.slot 20 174 rfl (hpre ⟨20, .guard⟩ (by simp) rfl) rfl)) rfl (hI.slot 28 182 rfl (hpre ⟨28, .data⟩ (by simp) rfl) rfl) (by simp [go_sem]) ⟨_, rfl, hJ, fun _ => rfl, fun _ _ _ h => h⟩
                            | 30, _ =>
                              cases ho
                              exact wpOp_load rfl (wantedOf (j := 20) (b := true) rfl rfl rfl (by rw [hI.len]; show _ < 257; decide) (hI.slot 20 174 rfl (hpre ⟨20, .guard⟩ (by simp) rfl) rfl)) rfl (hI.slot 29 183 rfl (hpre ⟨29, .data⟩ (by simp) rfl) rfl) (load_c (Tryz.isAgg9 w') (show w'.cell? _ = _ from by rw [hJ]; exact kx1)) ⟨_, rfl, hJ, fun _ => rfl, fun _ _ _ h => h⟩
                            | 31, _ =>
                              cases ho
                              exact wpOp_bin rfl (wantedOf (j := 20) (b := true) rfl rfl rfl (by rw [hI.len]; show _ < 257; decide) (hI.slot 20 174 rfl (hpre ⟨20, .guard⟩ (by simp) rfl) rfl)) rfl (hI.slot 25 179 rfl (hpre ⟨25, .data⟩ (by simp) rfl) rfl) (hI.slot 30 184 rfl (hpre ⟨30, .data⟩ (by simp) rfl) rfl) (by simp [go_sem]) (by simp [go_sem, hC]) ⟨_, rfl, hJ, fun _ => rfl, fun _ _ _ h => h⟩
                            | 32, _ =>
                              cases ho
                              exact wpOp_pick2 (v := (.bool true)) (u := undef) rfl (wantedOf (j := 1) (b := true) rfl rfl rfl (by rw [hI.len]; show _ < 257; decide) (hI.slot 1 155 rfl (hpre ⟨1, .guard⟩ (by simp) rfl) rfl)) rfl (hI.slot 20 174 rfl (hpre ⟨20, .data⟩ (by simp) rfl) rfl) (fun _ => (hI.slot 31 185 rfl (hpre ⟨31, .data⟩ (by simp) rfl) rfl)) (fun h => by cases h) ⟨_, rfl, hJ, fun _ => rfl, fun _ _ _ h => h⟩
                            | 33, _ =>
                              cases ho
                              exact wpOp_notP rfl (wantedOf (j := 1) (b := true) rfl rfl rfl (by rw [hI.len]; show _ < 257; decide) (hI.slot 1 155 rfl (hpre ⟨1, .guard⟩ (by simp) rfl) rfl)) rfl (hI.slot 32 186 rfl (hpre ⟨32, .data⟩ (by simp) rfl) rfl) rfl ⟨_, rfl, hJ, fun _ => rfl, fun _ _ _ h => h⟩
                            | 34, _ =>
                              cases ho
                              exact wpOp_pick2 (v := (.bool false)) (u := undef) rfl rfl rfl (hI.slot 1 155 rfl (hpre ⟨1, .data⟩ (by simp) rfl) rfl) (fun _ => (hI.slot 33 187 rfl (hpre ⟨33, .data⟩ (by simp) rfl) rfl)) (fun h => by cases h) ⟨_, rfl, hJ, fun _ => rfl, fun _ _ _ h => h⟩
                            | 35, _ =>
                              cases ho
                              exact wpOp_move rfl rfl (.inr rfl) (hI.slot 34 188 rfl (hpre ⟨34, .data⟩ (by simp) rfl) rfl) ⟨_, rfl, hJ, fun _ => rfl, fun _ _ _ h => h⟩
                          case fin =>
                            intro listed a w' hIn hall
                            have hI := hIn.toL
                            clear hIn
                            have hJ := hI.inv
                            have eS18 : a.tmps.getD 18 undef = .bool false := hI.slot 35 18 rfl (hall 35 (by decide)) rfl
                            obtain ⟨vs, us, hvl, hul, hvs, hus, e⟩ := hI.frame2 18 1 154 35 (by decide) (Nat.le_of_ble_eq_true (by kernel_rfl)) (by kernel_rfl)
                            have vS18 := hvs 0 (by decide)
                            clear hI hall hvs hus
                            match vs, us, hvl, hul with
                            | [x0], y0 :: y1 :: y2 :: y3 :: y4 :: y5 :: y6 :: y7 :: y8 :: y9 :: y10 :: y11 :: y12 :: y13 :: y14 :: y15 :: y16 :: y17 :: y18 :: y19 :: y20 :: y21 :: y22 :: y23 :: y24 :: y25 :: y26 :: y27 :: y28 :: y29 :: y30 :: y31 :: y32 :: y33 :: y34 :: [], _, _ =>
                            simp only [List.getElem?_cons_zero, Option.some.injEq] at vS18
                            rw [show 18 + 0 = 18 from rfl, eS18] at vS18
                            subst vS18
                            simp only [List.take_succ_cons, List.take_zero, List.drop_succ_cons, List.drop_zero, List.cons_append, List.nil_append, Nat.reduceAdd, Nat.reduceSub] at e
                            subst e
                            clear eS18
                            subst hJ
                            clear kx0 kx1 ky0 ky1
                            go_wp2
                            exact ⟨⟨k + 1, rfl, by omega, by omega, congrArg Value.bool (lastB_on hik hy hyo (sameE.2 ⟨hF.symm, hC.symm⟩)).symm, HZ.out⟩, by show n - ((k : Int) + 1).toNat < n - (k : Int).toNat; omega⟩
                case inr =>
                  have hlt : ¬ (k : Int) < (n : Int) := by omega
                  have hkn2 : k = n := by omega
                  obtain ⟨hall, hXl, hset, hok⟩ := HD.out
                  have hbw := fun k hk => hbk.block k hk
                  cases lb
                  case false =>
                    have HG := Lib.hid (And.intro (FA.below hbk) (And.intro (O8.below hbk) (And.intro hall hXl)))
                    clear FA FB AS O8 hltA hltB hsz hlow hbk hall hXl hset hok hbw hlb
                    go_wp2
                    obtain ⟨FA, O8, hall, hXl⟩ := HG.out
                    exact ⟨⟨i + 1, tA1, X, rfl, hin, FA, O8.move (N' := BkF BkA tA1) (fun k hk => .inl (.inl hk)), by omega, fun x hx => (hall x hx).mono (by omega)⟩, by show n - ((i : Int) + 1).toNat < n - (i : Int).toNat; omega⟩
                  case true =>
                    obtain ⟨hTd0, hb8, hmt⟩ := HTd.out
                    have hs8 := hb8.size
                    have hsk := hbk.size
                    have hone : OneOf L name.data.toList (i + 1) [e0] := .inr ⟨i, x, Nat.lt_succ_self i, hx, hok, hmt, by rw [← he0], by rw [hkn2, ← hn] at hlb; exact lastB_end hlb⟩
                    have hTd : OwnTd wr w.heap.size _ [e0] := (hTd0.below hbk).mono hsz
                    have hun : ∀ g, (.slice (some ⟨B8, 0, none⟩) 1 c8 : Value).ownBlock = some g → ¬ (BkF BkA tA1 g ∨ BkF BkB tB1 g) := fun g hg h => h.elim (fun h => by have := hltA g h; have h1 := (ownTd_lt hTd0 g hg).1; omega) fun h => by have := hltB g h; have h1 := (ownTd_lt hTd0 g hg).1; omega
                    have hbox := World.alloc_heap_new wr (.cells #[.slice (some ⟨B8, 0, none⟩) 1 c8] 42)
                    obtain ⟨v2, w2, hr, hO2, hg2, hv2⟩ := ((O8.below hbk).below ((Below.refl _ wr).alloc (Nat.le_refl _) (.cells #[.slice (some ⟨B8, 0, none⟩) 1 c8] 42))).snoc 62 wr.heap.size _ [e0] (hTd.below ((Below.refl _ wr).alloc (Nat.le_refl _) _)) hun hbox (fun k hk => by have := hk.elim (hltA k) (hltB k); have h2 := hbk.size; simp; omega) (by omega) (by have := hlow.size; simp; omega)
                    have hlow2 : Below w.heap.size w w2 := (hlow.alloc hlow.size _).grown hg2 (by have := hlow.size; simp; omega) (fun b e => (hv2 b e).2)
                    have FA2 : Fresh w BkA (setsE L (i + 1)) tA1 w2 := ⟨FA.book.keeps fun k hk => (hg2.block k (by have := hltA k hk; have := hbk.size; simp; omega) fun e => (hv2 k e.symm).1 (.inl hk)).trans ((((Below.refl _ wr).alloc (Nat.le_refl _) _).block k (by have := hltA k hk; have := hbk.size; omega)).trans (hbk.block k (by have := hltA k hk; omega))), FA.new, hlow2⟩
                    have HG := Lib.hid (And.intro FA2 (And.intro hO2 (And.intro hall (And.intro hXl hone))))
                    clear FA FB AS O8 hltA hltB hsz hlow hbk hall hXl hset hok hbw hlb hmt hTd hTd0 hun hbox hb8 hO2 hg2 hv2 hlow2 FA2 hone
                    go_wp2_with (at_builtin; refine wpList_append_val rfl rfl rfl rfl hr ?_)
                    obtain ⟨FA, O8, hall, hXl, hone⟩ := HG.out
                    exact ⟨⟨i + 1, tA1, X ++ [[e0]], rfl, hin, FA, O8.move (N' := BkF BkA tA1) (fun k hk => .inl (.inl hk)), by rw [List.length_append]; show X.length + 1 ≤ i + 1; omega, fun x hx => (List.mem_append.1 hx).elim (fun hx => (hall x hx).mono (by omega)) fun hx => by rw [List.mem_singleton.1 hx]; exact hone⟩, by show n - ((i : Int) + 1).toNat < n - (i : Int).toNat; omega⟩
end Go.Proofs.YtgcfgheamaoceaaGreatDoor
/- Layer 14: MatchAlone, of any entries, as long as they are not too many for a machine, and any text. -/
namespace Go.Proofs.YtgcfgheamaoceaaGreatDoor
open Go.RowKit Go.MapKept Go.ChangeMaps Go.Maps

theorem alone_any (w : World) (ao : Option Addr) (L : List En) (cap : Nat) (hE : EnsAt w ao L) (hL : L.length ≤ 1048576) (hs : ∀ e ∈ L, e.f.size ≤ maxLen ∧ e.c.size ≤ maxLen) (name : ByteArray) (hnm : name.size ≤ maxLen) (ht : Tabs w) :
    Calls Tryz.prog 7 #[.slice ao L.length cap, .string name] w fun e w' => AlonePost w e w' := by
  cases h : (decide (L.length ≤ 20) && L.all shortE) with
  | false => exact alone_out w ao L cap hE hL hs name hnm ht (.inl h)
  | true =>
    rcases Nat.lt_or_ge 300 name.size with h2 | h2
    · exact alone_out w ao L cap hE hL hs name hnm ht (.inr ⟨h, .inl h2⟩)
    · cases hN : nameL name.data.toList with
      | false => exact alone_out w ao L cap hE hL hs name hnm ht (.inr ⟨h, .inr ⟨h2, hN⟩⟩)
      | true =>
        rw [Bool.and_eq_true] at h
        exact alone_in w ao L cap hE (of_decide_eq_true h.1) h.2 hs name h2 hN ht
end Go.Proofs.YtgcfgheamaoceaaGreatDoor
/- MatchAlone, of what is of bulk at most 1048576: for any entries (at most 20, each of texts of at most 300 bytes) and any name: a book of one entry alone tells its Client just if its filter meets the name, with its Qos; the book of all tells each Client of an entry that no later one replaces, with a Qos that is no less. Beyond these bounds it asks only what is known. No condition but the bulk and both tables, which the card ties to the program's text. -/
namespace Go.Proofs.YtgcfgheamaoceaaGreatDoor.matchAlone
open Go.ChangeShapes Go.WideShapes Go.ChangeAt Go.RowKit

theorem laid_met (os : Os) : laidMet Tryz.prog Rows.matchAloneRow.laid ((laidWorld os).forCall (fun _ _ => 0) ⟨#[], #[.slice none 0 0, .string ⟨#[]⟩], []⟩).memory :=
  laidMet_of_run' 8 (by kernel_rfl) (by kernel_rfl)
theorem reads (os : Os) {H : Type} (enc : TypeId × Value → H) : ∃ places, DataW.whole enc Tryz.prog ((laidWorld os).forCall (fun _ _ => 0) ⟨#[], #[.slice none 0 0, .string ⟨#[]⟩], []⟩).memory Tryz.f7.params.toList Rows.matchAloneSpec.vars false (#[.slice none 0 0, .string ⟨#[]⟩] : Array Value).toList 8 = some ([.nil, .lit (.string [])], [], places) :=
  ⟨[], by kernel_rfl⟩

set_option maxRecDepth 100000 in
theorem contract (H : Type) (enc : TypeId × Value → H) (W : World) (base : Nat) (args : Array Value) (ds gs : List (DataW H)) (before : List MemPlace)
    (hval : ∀ (j : Nat) t v, Tryz.f7.params[j]? = some t → args[j]? = some v → Value.okWide Tryz.prog W .any base t v)
    (hW : DataW.Whole enc Tryz.prog Tryz.f7.params.toList Rows.matchAloneSpec.vars false W args.toList ds gs before) (hk : Rows.uptoSmall H (ds ++ gs) = true) (hL : laidMetH Tryz.prog Rows.matchAloneRow.laid W) :
    Calls Tryz.prog 7 args W fun e W' => ∃ v, e = .returned v ∧ Rows.matchAloneSpec.post enc Tryz.prog Tryz.f7 false true false false W args v W' := by
  have hW' := hW
  obtain ⟨p, q, hA0, hV, rfl, hfz, hnd⟩ := hW
  have hA : DataW.TrodAll enc Tryz.prog W 0 (fun _ => true) true Tryz.f7.params.toList args.toList ds p := hA0
  rw [Tryz.params7] at hA hval
  obtain ⟨rfl, rfl⟩ := trodVars_none hV
  obtain ⟨v0, vs0, d0, ds0, p0, q0, hargs, rfl, rfl, h0, r0⟩ := trodAll_cons hA
  obtain ⟨v1, vs1, d1, ds1, p1, q1, rfl, rfl, rfl, h1, r1⟩ := trodAll_cons r0
  obtain ⟨rfl, rfl, rfl⟩ := trodAll_nil r1
  obtain rfl : args = #[v0, v1] := by cases args; simp_all
  obtain ⟨a, L, cap, rfl, hE, hs, hlen, -⟩ := open_subs (hval 0 27 v0 rfl rfl) h0
  obtain ⟨nm, rfl, -, -, hnm⟩ := Go.ChangeMaps.open_string Tryz.underlying9 (hval 1 9 v1 rfl rfl) h1
  have hb2 : Rows.uptoBulkAll ([d0, _] ++ []) ≤ 1048576 := of_decide_eq_true hk
  have hL2 : L.length ≤ 1048576 := by
    simp only [Rows.uptoBulkAll, List.cons_append, List.nil_append] at hb2
    omega
  refine (alone_any W a L cap hE hL2 hs nm hnm (given hL)).mono fun e W' ⟨he, hb⟩ => ?_
  subst he
  exact ⟨_, rfl, law_post laidOut (fun t ht => types_ok t (by rw [Tryz.params7] at ht; revert ht; decide +revert)) rfl hW' rfl rfl rfl Tryz.underlying4 (by kernel_rfl) hb⟩

set_option maxRecDepth 100000 in
theorem lifted (os : Os) (started : os.Started) (H : Type) (enc : TypeId × Value → H) (F : Stop.Interp) :
    ReturnsInHanded {} Tryz.checked os 7 .any ((Rows.OpenSpec.upto Rows.matchAloneSpec).preRow enc Tryz.prog Tryz.f7 Rows.matchAloneUptoRow.domain false Rows.matchAloneUptoRow.laid) (((Rows.OpenSpec.upto Rows.matchAloneSpec).at F).post enc Tryz.prog Tryz.f7 false true false false) := by
  obtain ⟨places, hx⟩ := reads os enc
  refine returnsInHanded_of_row (C := Tryz.checked) (s := Rows.OpenSpec.upto Rows.matchAloneSpec) own started (by kernel_rfl) Tryz.func7
    (witness_row_at (enc := enc) (C := Tryz.checked) false (laidWorld os) #[.slice none 0 0, .string ⟨#[]⟩] rfl (by kernel_rfl) (by kernel_rfl) (by kernel_rfl)
      (OpenSpec.preRow_of_cond 8 hx (by kernel_rfl) (fun k hk => by cases hk; kernel_rfl) (by kernel_rfl) (laid_met os))) ?_
  intro W base args ds gs before hval hW _ hcond _ hL _ _
  exact contract H enc W base args ds gs before hval hW (hcond _ rfl) hL

theorem said : Rows.MatchAloneUptoSaid :=
  OpenClaim.holds_of_cond 7 Tryz.f7 rfl rfl rfl rfl rfl rfl rfl ⟨rfl, rfl, rfl, rfl, rfl⟩ rfl rfl rfl rfl rfl (by kernel_rfl) Tryz.func7 (by kernel_rfl)
    (of_decide_eq_true (by kernel_rfl)) (by unfold Func.isWrapper; first | (rw [if_pos (by decide +kernel)]; kernel_rfl) | (rw [if_neg (by decide +kernel)]; exact ⟨rfl, rfl⟩))
    (fun os started H enc _ F => by rw [OpenClaim.pre_eq_preRow]; exact lifted os started H enc F)

theorem plain (f : FuncId) (fn : Func) (hf : Tryz.pinned.checked.prog.funcNamed "pigeonry/pigeonrylaw14.MatchAlone" = some f) (hfn : Tryz.pinned.checked.prog.funcs[f]? = some fn) :
    false = Tryz.pinned.checked.prog.looks [] ∧ ∀ (j : Nat) t, fn.params[j]? = some t → Tryz.pinned.checked.prog.wantsStandIn t = false := by
  obtain rfl : f = 7 := Option.some.inj ((show Tryz.prog.funcNamed "pigeonry/pigeonrylaw14.MatchAlone" = some 7 by kernel_rfl).symm.trans hf) |>.symm
  obtain rfl : fn = Tryz.f7 := (Option.some.inj (Tryz.func7.symm.trans hfn)).symm
  refine ⟨by kernel_rfl, fun j t ht => ?_⟩
  rw [Tryz.params7] at ht
  have h : ∀ t ∈ Tryz.f7.params.toList, Tryz.prog.wantsStandIn t = false := by
    have h : ((Tryz.f7.params.toList).all fun t => !Tryz.prog.wantsStandIn t) = true := by kernel_rfl
    intro t ht
    simpa using List.all_eq_true.1 h t ht
  exact h t (by rw [Tryz.params7]; exact Array.mem_toList_iff.2 (Array.mem_of_getElem? ht))

/-- THE CARD. -/
theorem card : Rows.MatchAloneUptoCardSaid :=
  Claim7.holds_tied_plain_at .later [] _ _ _ _ said (fun _ h => by cases h) (by kernel_rfl) (fun _ h => by cases h) matchAloneUpto_row_tie rfl ⟨rfl, rfl⟩ (by kernel_rfl) rfl plain (by kernel_rfl)
end Go.Proofs.YtgcfgheamaoceaaGreatDoor.matchAlone
