/- Layer 7: the law's does, whatever the call. -/
import Derived.Test.YtmjjgdoekblelaaSpZc
namespace Go.Proofs.Ytmjjgdoekblelaa
open Go.RowKit

theorem does_any {n₀ : Nat} {w : World} {B : Nat} {s : Spc} (h : IsSp n₀ w B s) (g : GSp) (a1 a2 : Option Addr) (c1 c2 : Nat) (hg : IsG w a1 c1 a2 c2 g) (hsm : g.now.length ≤ 4999) (k p : Int) :
    Calls Try.prog 11 #[ptr B, gval g.most a1 g.now.length c1 a2 g.last.length c2, .agg #[.int .i64 k, .int .i64 p]] w fun e w' => DoesPost n₀ w B (stepS s k p) (stepG g k p) (okD s g k p) e w' := by
  unfold stepS stepG okD
  by_cases e1 : k = 1
  · subst e1; exact does1 h g a1 a2 c1 c2 hg hsm p
  rw [if_neg e1, if_neg e1, if_neg e1]
  by_cases e2 : k = 2
  · subst e2; exact does2 h g a1 a2 c1 c2 hg hsm p
  rw [if_neg e2, if_neg e2, if_neg e2]
  by_cases e3 : k = 3
  · subst e3; exact does3 h g a1 a2 c1 c2 hg hsm p
  rw [if_neg e3, if_neg e3]
  by_cases e4 : k = 4
  · subst e4; exact does4 h g a1 a2 c1 c2 hg hsm p
  rw [if_neg e4, if_neg e4]
  exact does0 h g a1 a2 c1 c2 hg hsm p k e1 e2 e3 e4
theorem Agr.step {s : Spc} {g : GSp} (h : Agr s g) (hs : s.Ok) (k p : Int) : Agr (stepS s k p) (stepG g k p) ∧ okD s g k p = true := by
  unfold stepS stepG okD
  by_cases e1 : k = 1
  · rw [if_pos e1, if_pos e1, if_pos e1]
    exact ⟨(h.take hs).1, by rw [(h.take hs).2]; simp⟩
  rw [if_neg e1, if_neg e1, if_neg e1]
  by_cases e2 : k = 2
  · rw [if_pos e2, if_pos e2, if_pos e2]
    exact ⟨(h.give p).1, by rw [(h.give p).2]; simp⟩
  rw [if_neg e2, if_neg e2, if_neg e2]
  by_cases e3 : k = 3
  · rw [if_pos e3, if_pos e3]; exact ⟨h.lasts hs, rfl⟩
  rw [if_neg e3, if_neg e3]
  by_cases e4 : k = 4
  · rw [if_pos e4, if_pos e4]; exact ⟨h.undo, rfl⟩
  rw [if_neg e4, if_neg e4]
  exact ⟨h, rfl⟩
theorem Agr.small {s : Spc} {g : GSp} (h : Agr s g) (hs : s.Ok) : g.now.length ≤ 4999 := by
  have := hs.hi; have := hs.most_hi; rw [h.len]; omega
end Go.Proofs.Ytmjjgdoekblelaa
