/-  -/
import Derived.Test.YtoioiddjbanahaaGreatDoorM9
import Derived.Test.YtoioiddjbanahaaGreatDoorM7
import Derived.Test.YtoioiddjbanahaaGreatDoorM8
set_option linter.unusedVariables false
set_option linter.unusedSimpArgs false
namespace Go.Proofs.YtoioiddjbanahaaGreatDoor

theorem TreeP.up {ts : List Tk} (h : TreeP ts) (j : Nat) (hj : j < ts.length) : UpOk ts j := (h.2.2.2.2 j hj).2.1

theorem TreeP.linked {ts : List Tk} (h : TreeP ts) (m : Nat) (hm : m < ts.length) : Linked ts (chainF ts (m + 1)) /\ ∀ p ∈ chainF ts (m + 1), p < m + 1 := linked_all m (fun j hj => h.up j (by omega))

theorem endN_in {ts : List Tk} {k e : Nat} (hk : k < ts.length) (he : k < e) (h : e < endN ts k) : (k : Int) <= parI ts e := by
 by_cases q : (k : Int) <= parI ts e
 ·exact q
 ·have h2 := endN_le hk
  have := endN_min hk he (fun _ => by omega) (by omega)
  omega

theorem first_kid {ts : List Tk} (h : TreeP ts) {k : Nat} (hk : k < ts.length) (he : k + 1 < endN ts k) : parI ts (k + 1) = (k : Int) := by
 have hle := endN_le hk
 have hlow := endN_in hk (show k < k + 1 by omega) he
 rcases h.up (k + 1) (by omega) with h0 | ⟨p, hpm, e, _⟩
 ·omega
 ·have := (h.linked k hk).2 p hpm
  rw [<- e] at hlow ⊢
  omega

theorem out_chain {ts : List Tk} (h : TreeP ts) {k : Nat} (hk : k < ts.length) : ∀ d, endN ts k + d < ts.length -> ¬ k ∈ chainF ts (endN ts k + d + 1)
 | 0, hd => by
  have hle := endN_le hk
  intro hm
  have hup : parI ts (endN ts k) < (k : Int) := by
   rcases endN_stop hk with h' | h'
   ·omega
   ·exact h'
  have hL := h.linked (endN ts k - 1) (by omega)
  rw [show endN ts k - 1 + 1 = endN ts k by omega] at hL
  obtain ⟨hl2, p, r, e, ep, _⟩ := linked_next hL.1 (h.up (endN ts k) (by omega)) (by omega) hL.2
  rw [Nat.add_zero, e] at hm
  rw [e] at hl2
  rcases List.mem_cons.1 hm with h' | h'
  ·omega
  ·have := Linked.le hl2.tail k h'
   omega
 | d + 1, hd => by
  have hle := endN_le hk
  have ih := out_chain h hk d (by omega)
  intro hm
  have hm : k ∈ (endN ts k + (d + 1)) :: (chainF ts (endN ts k + d + 1)).dropWhile (fun (j : Nat) => !decide ((j : Int) = parI ts (endN ts k + (d + 1)))) := hm
  rcases List.mem_cons.1 hm with h' | h'
  ·omega
  ·exact ih ((List.dropWhile_sublist _).mem h')

theorem no_kid {ts : List Tk} (h : TreeP ts) {k i : Nat} (hk : k < ts.length) (hi : endN ts k <= i) (hn : i < ts.length) : ¬ parI ts i = (k : Int) := by
 have hle := endN_le hk
 intro e
 rcases Nat.lt_or_eq_of_le hi with h' | h'
 ·rcases h.up i hn with h0 | ⟨p, hpm, ep, _⟩
  ·omega
  ·have : p = k := by omega
   subst this
   have := out_chain h hk (i - endN ts p - 1) (by omega)
   rw [show endN ts p + (i - endN ts p - 1) + 1 = i by omega] at this
   exact this hpm
 ·subst h'
  rcases endN_stop hk with h' | h'
  ·omega
  ·omega

end Go.Proofs.YtoioiddjbanahaaGreatDoor

namespace Go.Proofs.YtoioiddjbanahaaGreatDoor

end Go.Proofs.YtoioiddjbanahaaGreatDoor

namespace Go.Proofs.YtoioiddjbanahaaGreatDoor

end Go.Proofs.YtoioiddjbanahaaGreatDoor

namespace Go.Proofs.YtoioiddjbanahaaGreatDoor

end Go.Proofs.YtoioiddjbanahaaGreatDoor
