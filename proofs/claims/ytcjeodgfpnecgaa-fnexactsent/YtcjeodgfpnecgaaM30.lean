/- Contract of KidsOf of the program. Contract of TextIn of the program. -/
import Derived.Test.YtcjeodgfpnecgaaM29
import Derived.Test.YtcjeodgfpnecgaaM17
namespace Go.Proofs.Ytcjeodgfpnecgaa
open Go.RowKit
set_option linter.unusedVariables false
set_option linter.unusedSimpArgs false

theorem kid_ahead {ts : List Tk} (h : TreeP ts) {i k : Nat} (hi : i < ts.length) (hp : parI ts i = (k : Int)) : k < i := by
  rcases Nat.eq_zero_or_pos i with h0 | h0
  · subst h0
    rw [h.2.2.1] at hp
    omega
  · rcases (h.2.2.2.2 i hi).2.1 with h' | ⟨p, hm, e, _⟩
    · omega
    · obtain ⟨j, rfl⟩ : ∃ j, i = j + 1 := ⟨i - 1, by omega⟩
      have := (linked_all j (fun m hm => (h.2.2.2.2 m (by omega)).2.1)).2 p hm
      omega

theorem kidsTo_step {ts : List Tk} {k e : Nat} (h : parI ts e = (k : Int) → k < e) : kidsTo ts k (e + 1) = kidsTo ts k e ++ (if parI ts e = (k : Int) then [e] else []) := by
  unfold kidsTo
  rw [List.range_succ, List.filter_append]
  congr 1
  by_cases q : parI ts e = (k : Int)
  · simp [h q, q]
  · simp [q]

end Go.Proofs.Ytcjeodgfpnecgaa

namespace Go.Proofs.Ytcjeodgfpnecgaa
open Go.RowKit
set_option linter.unusedVariables false
set_option linter.unusedSimpArgs false

theorem strC_app (a b : ByteArray) : Lib.strCells a ++ Lib.strCells b = Lib.strCells (a ++ b) := by simp [Lib.strCells]

theorem strC_len (a : ByteArray) : (Lib.strCells a).length = a.size := by
  rw [Lib.strCells_eq]
  simp [Lib.byteCells]

theorem strC_eta (s : ByteArray) : (⟨s.data.toList.toArray⟩ : ByteArray) = s := by
  apply ByteArray.ext
  simp

theorem textI_join (ts : List Tk) (x : Int) : textI ts x = joinT ts (kidsI ts x) := by
  unfold textI kidsI
  split <;> rfl

/-- A row of the call's own that is no row of bytes stands behind what a builder does. -/
theorem own_others {w w' : World} {B : Nat} {e u : TypeId} {s n b : Nat} {v : Value} {xs : List Value} (h : w.ownsRow B e s v n xs) (hk : Lib.OthersKept u (some b) w w') (hb : b < B) (hT : ¬ e = u) : w'.ownsRow B e s v n xs := by
  refine ⟨h.1, ?_⟩
  rcases h.2 with h' | ⟨g, cap, cur, h1, h2, h3, h4⟩
  · exact .inl h'
  · exact .inr ⟨g, cap, cur, h1, h2, hk g _ h3 (fun e => by have := Option.some.inj e; omega) (fun c fz e => by injection e with _ e2 _; exact hT e2), h4⟩

end Go.Proofs.Ytcjeodgfpnecgaa
