/- Layer 13: what a special level meets: the map of two functions, and these. -/
import Derived.WideMake
import Derived.Test.YtgcfgheamaoceaaGreatDoorTopK
namespace Go.Proofs.YtgcfgheamaoceaaGreatDoor
open Go.RowKit Go.Shelf

/-- The map's block: both functions by their signs. -/
def MeetAt (w : World) (m : Nat) : Prop := ∃ b1 b2 k, w.heap[m]? = some (.map #[⟨.string ⟨#[43]⟩, .func (.func 115) #[] #[], b1⟩, ⟨.string ⟨#[35]⟩, .func (.func 116) #[] #[], b2⟩] k)
theorem look_of {w : World} {m : Nat} {es : Array MapEntry} {k : Nat} (hk : w.heap[m]? = some (.map es k)) (s : ByteArray) (a : Option (Nat × Value)) (hf : Instr.findNow .string (.string s) es.toList 0 = some a) :
    (Instr.lookup 131 (.map (some m)) (.string s) true).run Tryz.prog w = .ok (match a with | some (_, v) => .tuple #[v, .bool true] | none => .tuple #[.nilFunc, .bool false]) w := by
  have hc : (Instr.checkKey es.isEmpty 10000 9 (.string s)).run Tryz.prog w = .ok () w := MapKept.run_checkKey (k := .string s) Tryz.underlying9 (by simp [MapKept.IsKey]) _ 9999
  have hz : (zeroValue 133).run Tryz.prog w = .ok .nilFunc w := by kernel_rfl
  cases a with
  | none => simp [Instr.lookup, run_underlying Tryz.underlying131, hc, MapKept.run_getObj_map hk, MapKept.run_findKey Tryz.underlying9 hf, Result.andThen, hz]
  | some p =>
    obtain ⟨i, v⟩ := p
    simp [Instr.lookup, run_underlying Tryz.underlying131, hc, MapKept.run_getObj_map hk, MapKept.run_findKey Tryz.underlying9 hf, Result.andThen]
theorem beq_bytes (a b : ByteArray) : (a == b) = decide (a.data.toList = b.data.toList) := by
  show (a.data == b.data) = _
  rw [Bool.eq_iff_iff, beq_iff_eq, decide_eq_true_eq]
  exact ⟨fun h => by rw [h], fun h => Array.toList_inj.1 h⟩
theorem look_plus {w : World} {m : Nat} (h : MeetAt w m) (s : ByteArray) (hs : s.data.toList = [43]) : (Instr.lookup 131 (.map (some m)) (.string s) true).run Tryz.prog w = .ok (.tuple #[.func (.func 115) #[] #[], .bool true]) w := by
  obtain ⟨b1, b2, k, hk⟩ := h
  exact look_of hk s (some (0, _)) (by simp [Instr.findNow, Instr.sameNow, beq_bytes, hs])
theorem look_hash {w : World} {m : Nat} (h : MeetAt w m) (s : ByteArray) (hs : s.data.toList = [35]) : (Instr.lookup 131 (.map (some m)) (.string s) true).run Tryz.prog w = .ok (.tuple #[.func (.func 116) #[] #[], .bool true]) w := by
  obtain ⟨b1, b2, k, hk⟩ := h
  exact look_of hk s (some (1, _)) (by simp [Instr.findNow, Instr.sameNow, beq_bytes, hs])
theorem look_other {w : World} {m : Nat} (h : MeetAt w m) (s : ByteArray) (h1 : s.data.toList ≠ [43]) (h2 : s.data.toList ≠ [35]) : (Instr.lookup 131 (.map (some m)) (.string s) true).run Tryz.prog w = .ok (.tuple #[.nilFunc, .bool false]) w := by
  obtain ⟨b1, b2, k, hk⟩ := h
  exact look_of hk s none (by simp [Instr.findNow, Instr.sameNow, beq_bytes, h1, h2])
theorem put_map {w : World} {m : Nat} {es : Array MapEntry} {k : Nat} (hk : w.heap[m]? = some (.map es k)) (s : ByteArray) (v : Value) (hf : Instr.findNow .string (.string s) es.toList 0 = some none) :
    (Instr.mapUpdate 131 (.map (some m)) (.string s) v).run Tryz.prog w = .ok () { w with heap := w.heap.setIfInBounds m (.map (es.push { key := .string s, val := v, born := k }) (k + 1)) } := by
  have hc : (Instr.checkKey false 10000 9 (.string s)).run Tryz.prog w = .ok () w := MapKept.run_checkKey (k := .string s) Tryz.underlying9 (by simp [MapKept.IsKey]) false 9999
  simp [Instr.mapUpdate, run_underlying Tryz.underlying131, hc, MapKept.run_getObj_map hk, MapKept.run_findKey Tryz.underlying9 hf, MapKept.run_setObj_map _ hk, Result.andThen]
theorem set_heap (w : World) (m : Nat) (o : Obj) (h : m < w.heap.size) : ({ w with heap := w.heap.setIfInBounds m o } : World).heap[m]? = some o := by simp [h]
theorem set_below {a w : World} {B m : Nat} (h : Below B a w) (hm : B ≤ m) (o : Obj) : Below B a { w with heap := w.heap.setIfInBounds m o } :=
  h.trans ⟨rfl, rfl, rfl, by simp, fun i hi => Array.getElem?_setIfInBounds_ne (by omega)⟩
theorem meeting_any (w : World) : Calls Tryz.prog 93 #[] w fun e w' => e = .returned (.map (some w.heap.size)) ∧ MeetAt w' w.heap.size ∧ Below w.heap.size w w' ∧ w.heap.size < w'.heap.size := by
  have hmk := run_makeMap_plain (P := Tryz.prog) w 131
  have k1 : (w.alloc (.map #[] 0)).heap[w.heap.size]? = some (.map #[] 0) := World.alloc_heap_new w _
  have b1 : Below w.heap.size w (w.alloc (.map #[] 0)) := (Below.refl _ w).alloc (Nat.le_refl _) _
  have s1 : (w.alloc (.map #[] 0)).heap.size = w.heap.size + 1 := by simp
  obtain ⟨w1, hw1⟩ : ∃ w1, w.alloc (.map #[] 0) = w1 := ⟨_, rfl⟩
  rw [hw1] at hmk k1 b1 s1
  have hu1 := put_map k1 ⟨#[43]⟩ (.func (.func 115) #[] #[]) rfl
  have k2 := set_heap w1 w.heap.size (.map ((#[] : Array MapEntry).push { key := .string ⟨#[43]⟩, val := .func (.func 115) #[] #[], born := 0 }) 1) (by omega)
  have b2 := set_below b1 (Nat.le_refl _) (.map ((#[] : Array MapEntry).push { key := .string ⟨#[43]⟩, val := .func (.func 115) #[] #[], born := 0 }) 1)
  have s2 : ({ w1 with heap := w1.heap.setIfInBounds w.heap.size (.map ((#[] : Array MapEntry).push { key := .string ⟨#[43]⟩, val := .func (.func 115) #[] #[], born := 0 }) 1) } : World).heap.size = w.heap.size + 1 := by simp [s1]
  obtain ⟨w2, hw2⟩ : ∃ w2, ({ w1 with heap := w1.heap.setIfInBounds w.heap.size (.map ((#[] : Array MapEntry).push { key := .string ⟨#[43]⟩, val := .func (.func 115) #[] #[], born := 0 }) 1) } : World) = w2 := ⟨_, rfl⟩
  rw [show (0 : Nat) + 1 = 1 from rfl, hw2] at hu1
  rw [hw2] at k2 b2 s2
  have hu2 := put_map k2 ⟨#[35]⟩ (.func (.func 116) #[] #[]) (by simp [Instr.findNow, Instr.sameNow, beq_bytes])
  have k3 := set_heap w2 w.heap.size (.map (((#[] : Array MapEntry).push { key := .string ⟨#[43]⟩, val := .func (.func 115) #[] #[], born := 0 }).push { key := .string ⟨#[35]⟩, val := .func (.func 116) #[] #[], born := 1 }) 2) (by omega)
  have b3 := set_below b2 (Nat.le_refl _) (.map (((#[] : Array MapEntry).push { key := .string ⟨#[43]⟩, val := .func (.func 115) #[] #[], born := 0 }).push { key := .string ⟨#[35]⟩, val := .func (.func 116) #[] #[], born := 1 }) 2)
  have s3 : ({ w2 with heap := w2.heap.setIfInBounds w.heap.size (.map (((#[] : Array MapEntry).push { key := .string ⟨#[43]⟩, val := .func (.func 115) #[] #[], born := 0 }).push { key := .string ⟨#[35]⟩, val := .func (.func 116) #[] #[], born := 1 }) 2) } : World).heap.size = w.heap.size + 1 := by simp [s2]
  obtain ⟨w3, hw3⟩ : ∃ w3, ({ w2 with heap := w2.heap.setIfInBounds w.heap.size (.map (((#[] : Array MapEntry).push { key := .string ⟨#[43]⟩, val := .func (.func 115) #[] #[], born := 0 }).push { key := .string ⟨#[35]⟩, val := .func (.func 116) #[] #[], born := 1 }) 2) } : World) = w3 := ⟨_, rfl⟩
  rw [show (1 : Nat) + 1 = 2 from rfl, hw3] at hu2
  rw [hw3] at k3 b3 s3
  have H3 := Lib.hid (And.intro k3 (And.intro b3 s3))
  clear k1 k2 k3 b1 b2 b3 s1 s2 s3 hw1 hw2 hw3
  go_enter Tryz.func93, Tryz.ntmps93
  go_wp2
  go_ret
  obtain ⟨k3, b3, s3⟩ := H3.out
  exact ⟨rfl, ⟨0, 1, 2, k3⟩, b3, by omega⟩
end Go.Proofs.YtgcfgheamaoceaaGreatDoor
