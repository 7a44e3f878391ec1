/- container/heap.Push over the rows. -/
import Derived.Test.YtnddphmcagcdiaaUPop
import Derived.Test.YtnddphmcagcdiaaUDown
namespace Go.Proofs.Ytnddphmcagcdiaa
open Go.RowKit
set_option linter.unusedVariables false
set_option linter.unusedSimpArgs false

theorem Wn.wt {w : World} {B R : Nat} {v : Value} {l : List Ro} (h : Wn w B R v l) (h0 : 0 < l.length) : ∃ g c, v = .slice (some ⟨g, 0, none⟩) l.length c ∧ Wt w B R g c l ∧ B ≤ g := by
  rcases h.own.2 with ⟨e1, e2⟩ | ⟨g, cp, cur, e1, k1, _⟩
  · omega
  · subst e1
    exact ⟨g, cp, rfl, ⟨h.box, h.own⟩, k1⟩

theorem key_app {l : List Ro} (x : Ro) (h : HeapF (keyF l) l.length) : UpOk (keyF (l ++ [x])) (l.length + 1) l.length := by
  refine up_start (fun k hk h0 => ?_)
  have e : ∀ q, q < l.length → keyF (l ++ [x]) q = keyF l q := fun q hq => by
    rw [keyF_lt hq, keyF_lt (by rw [List.length_append]; omega), List.getElem_append_left hq]
  rw [e _ (by omega), e _ hk]
  exact h k hk h0

set_option maxRecDepth 8000 in
set_option maxHeartbeats 8000000 in
theorem cHPush (B R : Nat) (v : Value) (l : List Ro) (x : ByteArray) (y : Int) (w : World) (hW : Wn w B R v l) (hB : B ≤ w.heap.size) (hRB : R < B) (hl : l.length ≤ 90000) (hH : HeapF (keyF l) l.length) :
    Calls Try.prog 23 #[.iface 51 (.pointer (some ⟨R, 0, none⟩)), .iface 33 (.agg #[.string x, .int .i64 y])] w fun e w' => e = .returned (.tuple #[]) ∧ ∃ v' l', l'.Perm (l ++ [⟨x, y⟩]) ∧ HeapF (keyF l') l'.length ∧ Wn w' B R v' l' ∧ Below R w w' := by
  have np := fun wx => nil_push R wx
  have nn := fun wx => nil_len R wx
  have mp := fun wx => meth_push R wx
  have CP := hid (cWPush B R v l x y w hW hB hRB (by omega))
  have HK := hid (key_app ⟨x, y⟩ hH)
  clear hW hH
  go_enter Try.func23, Try.ntmps23
  go_wp2_with fail
  refine CP.out.mono ?_
  rintro e w1 ⟨rfl, v1, hW1, hb1⟩
  have hlen : (l ++ [(⟨x, y⟩ : Ro)]).length = l.length + 1 := by simp
  obtain ⟨g, c, rfl, hT, hBg⟩ := hW1.wt (by omega)
  have HT := hid hT
  have HB1 := hid hb1
  rw [← hlen] at HK
  obtain ⟨m, hm⟩ : ∃ m, l ++ [(⟨x, y⟩ : Ro)] = m := ⟨_, rfl⟩
  rw [hm] at HT HK hlen
  have HM := hid hm
  have HLN := hid hlen
  have ml := meth_len R _ w1 (u_box1c HT.out.box)
  obtain ⟨n, hn⟩ : ∃ n, l.length = n := ⟨_, rfl⟩
  rw [hn] at HK hl HLN
  rw [hlen, hn] at ml
  have hw1 : IntKind.i64.wrap (n : Int) = (n : Int) := IntWalk.i64_in _ (by omega)
  have CU := hid (cUp B R g c m n w1 HT.out (by rw [HLN.out]; omega) HK.out (by rw [HLN.out]; omega))
  have e1 : ((n + 1 : Nat) : Int) = (n : Int) + 1 := rfl
  clear hT hW1 hb1 hm hlen hn CP mp np
  go_wp2_with fail
  refine (cWLen _ _ _ _).mono ?_
  rintro e w2 ⟨rfl, rfl⟩
  go_wp2_with fail
  refine CU.out.mono ?_
  rintro e w3 ⟨rfl, l', hp, hq, hwt, hk⟩
  have HF := hid (And.intro (show l'.Perm (l ++ [⟨x, y⟩]) from by rw [HM.out]; exact hp) (And.intro hq (And.intro (Wn.mk hwt.box hwt.own) (HB1.out.trans (hk.below (B := R) (Nat.le_of_lt (lt_of_heap HT.out.box)) (fun k e => by omega))))))
  clear hp hq hwt hk
  go_wp2_with fail
  go_end0
  exact ⟨rfl, _, l', HF.out⟩

end Go.Proofs.Ytnddphmcagcdiaa
