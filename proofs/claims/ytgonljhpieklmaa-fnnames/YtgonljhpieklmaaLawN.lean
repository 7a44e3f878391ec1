/- The law on names, walked. -/
import Derived.Test.YtgonljhpieklmaaRows
import Derived.Test.YtgonljhpieklmaaNames
import Derived.Test.YtgonljhpieklmaaDrawN
import Derived.OpenShut
import Derived.WalkKit
namespace Go.Proofs.Ytgonljhpieklmaa
open Go.RowKit
set_option linter.unusedVariables false
set_option linter.unusedSimpArgs false

theorem code_of {w : World} {a : Option Addr} {len cap : Nat} {zs : List Int}
    (h : (a = none ∧ len = 0 ∧ cap = 0 ∧ zs = []) ∨ ∃ x, a = some x ∧ len ≤ cap ∧ cap ≤ maxLen ∧ zs.length = cap ∧ (∀ i, i < zs.length → w.cell? (x.add i) = some (.int .u8 (zs.getD i 0))) ∧ ∀ n ∈ zs, (Lit.int .u8 n).wf = true) : CodeRow w a len := by
  rcases h with ⟨_, h, _⟩ | ⟨x, rfl, hl, _, hz, hc, _⟩
  · exact .inl h
  · by_cases h0 : len = 0
    · exact .inl h0
    · obtain ⟨cb, co, rfl, hcells⟩ := ints_at hc (by omega)
      refine .inr ⟨cb, co, fun j => zs.getD j 0, rfl, ?_, fun j hj => hcells j (by omega)⟩
      have h1 := hcells 0 (by omega)
      rcases Nat.lt_or_ge cb w.heap.size with h' | h'
      · exact h'
      · simp [World.cell?, Array.getElem?_eq_none h'] at h1

theorem c6_no (a : Option Addr) (len cap : Nat) (w : World) (h : len ≤ 4096) : Calls Try.prog 6 #[.slice a len cap] w fun e w' => e = .returned (.bool false) ∧ w' = w := by
  have h1 : decide ((4096 : Int) < (len : Int)) = false := by simp; omega
  go_enter Try.func6, Try.ntmps6
  go_wp2
  go_ret
  exact ⟨rfl, rfl⟩

theorem c6_yes (a : Option Addr) (len cap : Nat) (w : World) (h : ¬ len ≤ 4096) : Calls Try.prog 6 #[.slice a len cap] w fun e w' => e = .returned (.bool true) ∧ w' = w := by
  have h1 : decide ((4096 : Int) < (len : Int)) = true := by simp; omega
  go_enter Try.func6, Try.ntmps6
  go_wp2
  go_ret
  exact ⟨rfl, rfl⟩

theorem name_of_letters {l : List UInt8} (h : lettersL l = true) : nameL l = true := by
  cases hc : colonAt l with
  | none => simp [nameL, hc, h]
  | some a => rw [colon_letters hc] at h; exact absurd h (by decide)

theorem join_name {l : List UInt8} {a : Nat} (h : colonAt l = some a) : l.take a ++ [58] ++ l.drop (a + 1) = l := by
  unfold colonAt at h
  obtain ⟨ha, hp, _⟩ := List.findIdx?_eq_some_iff_getElem.1 h
  have hc : l[a] = 58 := by
    have : l[a].toNat = 58 := by simpa using hp
    exact UInt8.toNat_inj.1 this
  have e := List.drop_eq_getElem_cons ha
  rw [hc] at e
  rw [List.append_assoc, List.singleton_append, ← e, List.take_append_drop]

theorem bt {w a b : World} (h : Below w.heap.size w a) (k : Below a.heap.size a b) : Below w.heap.size w b := h.trans (k.mono h.size)

set_option maxHeartbeats 4000000 in
theorem law_names (a : Option Addr) (len cap : Nat) (w : World) (hcr : CodeRow w a len) :
    Calls Try.prog 3 #[.slice a len cap] w fun e w' => e = .returned (.bool true) ∧ Below w.heap.size w w' := by
  by_cases hbig : len ≤ 4096
  · go_enter Try.func3, Try.ntmps3
    go_wp2_with fail
    refine (c6_no a len cap _ hbig).mono ?_
    rintro e w' ⟨rfl, rfl⟩
    go_wp2_with fail
    refine (c7 a len cap _ hbig hcr).mono ?_
    rintro e w1 ⟨t, rfl, ht, hb1⟩
    have h0 : t.size ≤ 1048576 := by omega
    have K8 := fun w => c8 t w h0
    have K9 := fun w => c9 t w h0
    have K10 := fun w => c10 t w h0
    have K11 := fun w => c11 t w h0
    cases hn : nameL t.data.toList with
    | false =>
      have e1 : partP t.data.toList = [] := by simp [partP, hn]
      have e2 : partL t.data.toList = [] := by simp [partL, hn]
      rw [e1, e2] at K8 K9
      rw [hn] at K10 K11
      clear e1 e2 hn
      go_wp2_with (first | (go_at_call 8; refine (K8 _).mono ?_; rintro e w2 ⟨rfl, hb2⟩; replace hb1 := bt hb1 hb2; clear hb2) | (go_at_call 9; refine (K9 _).mono ?_; rintro e w2 ⟨rfl, hb2⟩; replace hb1 := bt hb1 hb2; clear hb2) | (go_at_call 10; refine (K10 _).mono ?_; rintro e w2 ⟨rfl, hb2⟩; replace hb1 := bt hb1 hb2; clear hb2) | (go_at_call 11; refine (K11 _).mono ?_; rintro e w2 ⟨rfl, hb2⟩; replace hb1 := bt hb1 hb2; clear hb2))
      go_ret
      exact ⟨rfl, hb1⟩
    | true =>
      rw [hn] at K10 K11
      cases hc : colonAt t.data.toList with
      | none =>
        have e1 : partP t.data.toList = [] := by simp [partP, hn, preL, hc]
        have e2 : partL t.data.toList = t.data.toList := by simp [partL, hn, locL, hc]
        rw [e1, e2] at K8 K9
        have e3 : (⟨t.data.toList.toArray⟩ : ByteArray) = t := rfl
        rw [e3] at K8 K9
        clear e1 e2 e3 hn hc
        go_wp2_with (first | (go_at_call 8; refine (K8 _).mono ?_; rintro e w2 ⟨rfl, hb2⟩; replace hb1 := bt hb1 hb2; clear hb2) | (go_at_call 9; refine (K9 _).mono ?_; rintro e w2 ⟨rfl, hb2⟩; replace hb1 := bt hb1 hb2; clear hb2) | (go_at_call 10; refine (K10 _).mono ?_; rintro e w2 ⟨rfl, hb2⟩; replace hb1 := bt hb1 hb2; clear hb2) | (go_at_call 11; refine (K11 _).mono ?_; rintro e w2 ⟨rfl, hb2⟩; replace hb1 := bt hb1 hb2; clear hb2))
        go_ret
        exact ⟨rfl, hb1⟩
      | some c =>
        have e1 : partP t.data.toList = t.data.toList.take c := by simp [partP, hn, preL, hc]
        have e2 : partL t.data.toList = t.data.toList.drop (c + 1) := by simp [partL, hn, locL, hc]
        have hcl := colonI_lt _ _ hc
        have hL : lettersL (t.data.toList.take c) = true ∧ lettersL (t.data.toList.drop (c + 1)) = true := by
          have := hn
          simp [nameL, hc, preL, locL] at this
          exact this
        have hj := join_name hc
        rw [e1, e2] at K8 K9
        have z1 : (⟨(t.data.toList.take c).toArray⟩ : ByteArray).size ≤ 11 := by rw [size_mk, List.length_take, ← sz t]; omega
        have z2 : (⟨(t.data.toList.drop (c + 1)).toArray⟩ : ByteArray).size ≤ 11 := by rw [size_mk, List.length_drop, ← sz t]; omega
        have P10 := fun w => c10 ⟨(t.data.toList.take c).toArray⟩ w (by omega)
        have L10 := fun w => c10 ⟨(t.data.toList.drop (c + 1)).toArray⟩ w (by omega)
        rw [show nameL (⟨(t.data.toList.take c).toArray⟩ : ByteArray).data.toList = true from name_of_letters hL.1] at P10
        rw [show nameL (⟨(t.data.toList.drop (c + 1)).toArray⟩ : ByteArray).data.toList = true from name_of_letters hL.2] at L10
        obtain ⟨p, hp⟩ : ∃ p : ByteArray, (⟨(t.data.toList.take c).toArray⟩ : ByteArray) = p := ⟨_, rfl⟩
        obtain ⟨l, hl⟩ : ∃ l : ByteArray, (⟨(t.data.toList.drop (c + 1)).toArray⟩ : ByteArray) = l := ⟨_, rfl⟩
        rw [hp] at P10 K8 K9 z1
        rw [hl] at L10 K8 K9 z2
        have HJ : Hid (p.data.toList ++ [58] ++ l.data.toList = t.data.toList) := by rw [← hp, ← hl]; exact hj
        have HP : Hid (1 ≤ p.data.toList.length) := by
          rw [← hp]
          have := hL.1
          simp [lettersL] at this
          show 1 ≤ (t.data.toList.take c).length
          rw [List.length_take]
          omega
        clear e1 e2 hcl hL hj hp hl hn hc
        go_wp2_with fail
        refine (K8 _).mono ?_
        rintro e w2 ⟨rfl, hb2⟩
        replace hb1 := bt hb1 hb2; clear hb2
        go_wp2_with fail
        refine (K9 _).mono ?_
        rintro e w2 ⟨rfl, hb2⟩
        replace hb1 := bt hb1 hb2; clear hb2
        go_wp2_with fail
        refine (K10 _).mono ?_
        rintro e w2 ⟨rfl, hb2⟩
        replace hb1 := bt hb1 hb2; clear hb2
        go_wp2_with fail
        refine (K11 _).mono ?_
        rintro e w2 ⟨rfl, hb2⟩
        replace hb1 := bt hb1 hb2; clear hb2
        go_wp2_with fail
        refine (K11 _).mono ?_
        rintro e w2 ⟨rfl, hb2⟩
        replace hb1 := bt hb1 hb2; clear hb2
        have he : p.toList.isEmpty = false := by
          rw [Lib.toList_data]
          have := HP.out
          cases hh : p.data.toList with
          | nil => rw [hh] at this; simp at this
          | cons x y => rfl
        have hq : (p ++ ⟨#[58]⟩ ++ l).toList = t.toList := by
          rw [Lib.toList_data, Lib.toList_data, ← HJ.out, ByteArray.data_append, ByteArray.data_append, Array.toList_append, Array.toList_append]
        go_wp2_with fail
        refine (P10 _).mono ?_
        rintro e w2 ⟨rfl, hb2⟩
        replace hb1 := bt hb1 hb2; clear hb2
        go_wp2_with fail
        refine (L10 _).mono ?_
        rintro e w2 ⟨rfl, hb2⟩
        replace hb1 := bt hb1 hb2; clear hb2
        go_wp2
        go_ret
        exact ⟨rfl, hb1⟩
  · go_enter Try.func3, Try.ntmps3
    go_wp2_with fail
    refine (c6_yes a len cap _ hbig).mono ?_
    rintro e w' ⟨rfl, rfl⟩
    go_wp2
    go_ret
    exact ⟨rfl, Below.refl _ _⟩

end Go.Proofs.Ytgonljhpieklmaa
