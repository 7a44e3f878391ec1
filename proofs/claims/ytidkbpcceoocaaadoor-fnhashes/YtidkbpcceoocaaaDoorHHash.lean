/- Contracts of Hash, of the program and of the specification. -/
import Derived.Test.YtidkbpcceoocaaaDoorHMath
import Derived.Test.YtidkbpcceoocaaaDoorHIter
namespace Go.Proofs.YtidkbpcceoocaaaDoor
open Go.RowKit Go.Shelf
attribute [local go_sem] Oper.semAt_some
set_option linter.unusedVariables false
set_option linter.unusedSimpArgs false

theorem hash_num (v : Nat) (c : UInt8) (hv : v < 2147483647) : (wrap64 (wrap64 (1000003 * (v : Int) + wrap64 (c.toNat : Int)) + 1)).tmod 2147483647 = ((hstep v c : Nat) : Int) := by
  have hc := c.toNat_lt
  have e0 : wrap64 (c.toNat : Int) = (c.toNat : Int) := IntWalk.wrap64_in _ (by omega)
  have e1 : wrap64 (1000003 * (v : Int) + (c.toNat : Int)) = 1000003 * (v : Int) + (c.toNat : Int) := IntWalk.wrap64_in _ (by omega)
  have e2 : wrap64 (1000003 * (v : Int) + (c.toNat : Int) + 1) = 1000003 * (v : Int) + (c.toNat : Int) + 1 := IntWalk.wrap64_in _ (by omega)
  rw [e0, e1, e2]
  have e3 : 1000003 * (v : Int) + (c.toNat : Int) + 1 = ((1000003 * v + c.toNat + 1 : Nat) : Int) := by omega
  rw [e3]
  exact (Int.ofNat_tmod (1000003 * v + c.toNat + 1) 2147483647).symm

set_option maxHeartbeats 1000000 in
theorem cHashS (b : ByteArray) (w : World) (hb : b.size ≤ 1048576) :
    Calls Tryd.prog 16 #[.string b] w fun e w' => e = .returned (.int .i64 (hsL b.data.toList : Nat)) ∧ w' = w := by
  obtain ⟨R, hR⟩ : ∃ R : Nat, hsL b.data.toList = R := ⟨_, rfl⟩
  have HR : Hid (hsL b.data.toList = R) := hR
  rw [hR]
  clear hR
  go_enter Tryd.func16, Tryd.ntmps16
  go_wp2
  go_loop [3, 4] (fun n i => ∃ j v : Nat, i = .int .i64 (j : Int) ∧ j ≤ b.size ∧ n = .int .i64 (v : Int) ∧ v < 2147483647 ∧ v = hsL (b.data.toList.take j)) (fun _ i => b.size - (intOf i).toNat)
  case atStart => exact ⟨0, 29, rfl, Nat.zero_le _, rfl, by decide, rfl⟩
  case round =>
    obtain ⟨j, v, rfl, hj, rfl, hvb, hv⟩ := hrel
    have HV : Hid (v = hsL (b.data.toList.take j)) := hv
    clear hv
    by_cases hlt : j < b.size
    · have HT : Hid (b.data.toList.take (j + 1) = b.data.toList.take j ++ [b[j]]) := take_snocB b j hlt
      have HN : Hid (_) := hash_num v b[j] hvb
      go_wp2_with fail
      go_round
      case rel =>
        exact ⟨j + 1, hstep v b[j], by go_num, by omega, by rw [HN.out], hstep_lt _ _, by rw [HT.out, hsL_snoc, ← HV.out]⟩
      case measure => simp [intOf]; omega
    · have hje : j = b.size := by omega
      have e : b.data.toList.take j = b.data.toList := by rw [hje]; exact List.take_of_length_le (by rw [sz]; simp)
      have h1 := HV.out
      rw [e, HR.out] at h1
      subst h1
      clear e HV HR
      go_wp2_with fail
      go_ret
      exact ⟨rfl, rfl⟩

theorem boxed_drew {W : World} {B : Nat} {t : TypeId} {v : Value} (h : Boxed W B t v) : Boxed W.drew B t v := h

/-- Between two rounds: one box holds the hash of the bytes met, the other the text. -/
def InvH (w : World) (s : ByteArray) (pre : List UInt8) (W : World) : Prop :=
  (Boxed W w.heap.size 2 (.int .i64 ((hsL pre : Nat) : Int)) ∧ Boxed W (w.heap.size + 1) 9 (.string s)) ∧ Below w.heap.size w W

theorem invH_own (w : World) (s : ByteArray) (w4 : World) (h : w.heap.size ≤ w4.heap.size) : OwnFrom w4.heap.size (InvH w s) :=
  OwnFrom.and (Own.from (fun pre A B row hs hg hr => ⟨boxed_own _ _ (fun l : List UInt8 => .int .i64 ((hsL l : Nat) : Int)) pre A B row hs.1 hg hr, boxed_own _ _ (fun _ : List UInt8 => .string s) pre A B row hs.2 hg hr⟩) _) (ownFrom_below (Nat.le_refl _) h)

set_option maxRecDepth 100000 in
set_option maxHeartbeats 4000000 in
theorem cHashI (s : ByteArray) (w : World) (h0 : s.size ≤ 1048576) :
    Calls Tryd.prog 15 #[.string s] w fun e w' => e = .returned (.int .i64 (hsL s.data.toList : Nat)) ∧ Below w.heap.size w w' := by
  refine (callsIn_wide (n := 3)).1 ?_
  refine callsIn_of_wp_marks Tryd.func15 rfl trivial ?_ rfl
  simp only [Tryd.ntmps15, List.size_toArray, List.length_cons, List.length_nil, Nat.reduceAdd, Nat.reduceSub, Array.replicate_succ, Array.replicate_zero, List.push_toArray, List.append_toArray, List.nil_append, List.cons_append]
  gi_wp2_with (refine ⟨trivial, ?_⟩; gi_at_call 34; refine (iter_in Fence.wide _ trivial rfl s _).mono ?_; rintro e w' ⟨rfl, rfl⟩)
  have hB0 : Below w.heap.size w ((w.alloc (.cells #[.int .i64 29] 2)).alloc (.cells #[.string s] 9)) := ((Below.refl _ w).alloc (Nat.le_refl _) _).alloc (by simp) _
  have hi0 : InvH w s [] ((w.alloc (.cells #[.int .i64 29] 2)).alloc (.cells #[.string s] 9)) := by
    refine ⟨⟨?_, ?_⟩, hB0⟩
    · exact (Boxed.new w 2 (.int .i64 29)).alloc _
    · have := Boxed.new (w.alloc (.cells #[.int .i64 29] 2)) 9 (.string s)
      rw [World.size_alloc] at this
      exact this
  obtain ⟨w4, hw4⟩ : ∃ w4, (w.alloc (.cells #[.int .i64 29] 2)).alloc (.cells #[.string s] 9) = w4 := ⟨_, rfl⟩
  have hs4 : w4.heap.size = w.heap.size + 2 := by rw [← hw4]; simp
  rw [hw4] at hB0 hi0 ⊢
  clear hw4
  refine wpIn_rangeFunc_ownF rfl (by omega) (gf := 41) (lb := #[.pointer (some ⟨w.heap.size + 1, 0, none⟩)]) rfl trivial (enters_of Tryd.func41 (by kernel_rfl) rfl)
    (iter_stops Fence.wide _ trivial rfl (by omega) (w.heap.size + 1) s (by omega) w4 hi0.1.2) keepsBox_t (keepsBox_b (by omega)) (Below.refl _ _) (fun _ => rfl)
    (InvH w s)
    (fun _ _ _ => False)
    (invH_own w s w4 (by omega))
    (fun _ _ _ _ _ hs _ _ => hs)
    hi0
    (fun x => { tmps := #[.string s, undef, .int .i64 0, .pointer (some ⟨w.heap.size, 0, none⟩), .int .u8 (x.toNat : Int), .string s, .func (.func 41) #[] #[.pointer (some ⟨w.heap.size + 1, 0, none⟩)], .int .u8 (x.toNat : Int), undef, undef, undef, undef, undef, undef, undef, undef], defers := [] }) ?assign ?body ?done ?stop
  case assign =>
    intro l x W K hK
    gi_wp2
    exact hK
  case body =>
    rintro l pre x W ⟨⟨hh, hs⟩, hB⟩ hlen
    have c1 := hh.cell
    have f1 := hh.frozen
    gi_wp2
    have hn := hash_num (hsL pre) x (hsL_lt pre)
    have e1 : wrap64 (1000003 * ((hsL pre : Nat) : Int)) = 1000003 * ((hsL pre : Nat) : Int) := IntWalk.wrap64_in _ (by have := hsL_lt pre; omega)
    rw [e1, hn, ← hsL_snoc]
    exact ⟨KeepsOthers.setCell W ⟨w.heap.size, 0, none⟩ _, by
        have := hs.other (B' := w.heap.size) (by omega) (.int .i64 ((hsL (pre ++ [x]) : Nat) : Int))
        exact Eq.trans this hs.symm,
      ⟨hh.set _, hs.other (B' := w.heap.size) (by omega) _⟩, hB.setCell (p := ⟨w.heap.size, 0, none⟩) (by simp) _⟩
  case done =>
    rintro D ys W hD rfl ⟨⟨hh, hs⟩, hB⟩ hK
    have c1 := hh.cell
    have hsz := hB.size
    gi_wp2
    refine ⟨by simp, .inl ⟨_, _, rfl, run_takeDeferred hK, ?_⟩⟩
    exact ⟨_, results_tmp rfl _ _ _, rfl, hB.trans (belowK_b (w := w) (Nat.le_refl _) W D _ _ (by omega) hK rfl rfl)⟩
  case stop =>
    rintro D c pre W _ _ h _
    exact h.elim

end Go.Proofs.YtidkbpcceoocaaaDoor
