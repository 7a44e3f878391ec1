/- slices.SortFunc over rows by their ids. -/
import Derived.Test.YtnddphmcagcdiaaUSrtM
import Derived.Test.YtnddphmcagcdiaaUHPush
import Derived.Test.YtnddphmcagcdiaaShelfS
namespace Go.Proofs.Ytnddphmcagcdiaa
open Go.RowKit
set_option linter.unusedVariables false
set_option linter.unusedSimpArgs false

/-- Of no row nothing is put in order. -/
theorem cInsNone (p : Option Addr) (cap : Nat) (fv : Value) (w : World) :
    Calls Try.prog 61 #[.slice p 0 cap, .int .i64 0, .int .i64 0, fv] w fun e w' => e = .returned (.tuple #[]) ∧ w' = w := by
  go_enter Try.func61, Try.ntmps61
  go_wp2
  refine wp_loop_rounds 1 ?_
  rw [rounds_succ]
  go_wp2
  go_end0
  exact ⟨rfl, rfl⟩

theorem cPdqNone (p : Option Addr) (cap : Nat) (lim : Int) (fv : Value) (w : World) :
    Calls Try.prog 49 #[.slice p 0 cap, .int .i64 0, .int .i64 0, .int .i64 lim, fv] w fun e w' => e = .returned (.tuple #[]) ∧ w' = w := by
  have hi := fun W => cInsNone p cap fv W
  go_enter Try.func49, Try.ntmps49
  go_wp2
  refine wp_loop_rounds 1 ?_
  rw [rounds_succ]
  go_wp2_with (go_at_call 61; refine (hi _).mono ?_; rintro e w' ⟨rfl, rfl⟩)
  (try simp only [Exit.inBlock, Exit.then]); refine bodyPost_ret (results_none rfl _ _ _) rfl ?_
  exact ⟨rfl, rfl⟩

theorem cPdq (g cap : Nat) (d : Array Ro) (w : World) (hH : Go.Sort.HoldsK encR 2 w g 0 d) (hg : g < w.heap.size) (hsz : d.size ≤ 90000) :
    Calls Try.prog 49 #[.slice (some ⟨g, 0, none⟩) d.size cap, .int .i64 0, .int .i64 d.size, .int .i64 (Lib.bitLen d.size : Nat), .func (.func 27) #[] #[]] w fun e w' => e = .returned (.tuple #[]) ∧ ∃ d' n os, Go.Sort.PermIn 0 d.size d d' ∧ Go.Sort.SortedIn (ltOf cmpR) 0 d.size d' ∧ w' = sortWorldK encR 2 w g 0 n d' os := by
  have eg : ∀ args w, (callFunc 27 args).run Try.prog w = .ok (.enter 27 args) w := enters_of Try.func27 (by kernel_rfl) rfl
  have hlim : Lib.bitLen d.size < 4611686018427387904 := Nat.lt_of_le_of_lt (Lib.bitLen_le d.size 62 (by omega) (by omega)) (by omega)
  have h := AnyQ.pdqsortCmpFunc_all Try.pdqR 2 Try.isAgg33 Try.sizeOf33 encR cmpR 27 #[] swoR g 0 cap d w eg (cmpLaysR g 0 _ w) ⟨fun _ => rfl, fun x v hv => by simp [encR] at hv; rcases hv with rfl | rfl <;> rfl, hH, hg⟩ (d.size + 1) 0 d.size (Lib.bitLen d.size) d w (by omega) rfl (SWK.start hH) (Nat.zero_le _) (Nat.le_refl _) (by omega) hlim (Or.inl rfl)
  refine (show Calls Try.prog 49 _ _ _ from h).mono ?_
  rintro e w' ⟨rfl, n, os, rfl⟩
  have hs := Go.Sort.pdq_sorts (ltOf cmpR) swoR d 0 d.size (Lib.bitLen d.size) true true (Nat.zero_le _) (Nat.le_refl _) (Or.inl rfl)
  exact ⟨rfl, _, n, os, hs.1, hs.2, rfl⟩

set_option maxRecDepth 8000 in
set_option maxHeartbeats 4000000 in
theorem cSort (B R : Nat) (v : Value) (l m : List Ro) (w : World) (hW : Wn w B R v l) (hRB : R < B) (hm : m.Pairwise (fun x y => u_ltB x.id y.id = true)) (hp : l.Perm m) (hn : l.length ≤ 90000) :
    Calls Try.prog 26 #[v, .func (.func 27) #[] #[]] w fun e w' => e = .returned (.tuple #[]) ∧ ∃ a c, v = .slice a m.length c ∧ w'.heap[R]? = some (.cells #[v] 49 (0, 0)) ∧ OwnRo w' B a m ∧ Below R w w' := by
  have hlen := hp.length_eq
  have CL := hid (fun (n : Nat) (W : World) (h : n ≤ 90000) => (show Calls Try.prog 50 #[.int .u64 (n : Int)] W fun e w' => e = .returned (.int .i64 (Lib.bitLen n : Nat)) ∧ w' = W from by
    have h := Try.bits_Len (n : Int) W (by omega) (by omega)
    rwa [Int.toNat_natCast] at h))
  rcases Nat.eq_zero_or_pos l.length with h0 | h0
  · obtain ⟨a, c, rfl⟩ := u_own_len hW.own
    have hm0 : m = [] := List.length_eq_zero_iff.1 (by omega)
    have hb := hW.box
    rw [h0] at hb ⊢
    subst hm0
    have C0 := hid (CL.out 0 w (by omega))
    have HB := hid hb
    clear hb hW hm hp hlen hn CL h0
    obtain ⟨z, hz⟩ : ∃ z, Lib.bitLen 0 = z := ⟨_, rfl⟩
    rw [hz] at C0
    clear hz
    go_enter Try.func26, Try.ntmps26
    go_wp2_with fail
    refine C0.out.mono ?_
    rintro e w1 ⟨rfl, rfl⟩
    go_wp2_with fail
    refine (cPdqNone a c (z : Int) _ _).mono ?_
    rintro e w2 ⟨rfl, rfl⟩
    go_wp2_with fail
    go_end0
    exact ⟨rfl, a, c, rfl, HB.out, OwnRo.nil _ _ _, Below.refl _ _⟩
  · obtain ⟨g, c, rfl, hT, hBg⟩ := hW.wt h0
    obtain ⟨cu, hh, hcu⟩ := hT.cells h0
    have hH := holdsR hh hcu
    have hs : l.toArray.size = l.length := by simp
    have CP := hid (cPdq g c l.toArray w hH (lt_of_heap hh) (by rw [hs]; exact hn))
    have C0 := hid (CL.out l.length w hn)
    have HEND := hid (fun (d' : Array Ro) (q : Nat) (os : Array Obj) (h1 : Go.Sort.PermIn 0 l.toArray.size l.toArray d') (h2 : Go.Sort.SortedIn (ltOf cmpR) 0 l.toArray.size d') => (show ∃ a c', (Value.slice (some ⟨g, 0, none⟩) l.length c) = .slice a m.length c' ∧ (sortWorldK encR 2 w g 0 q d' os).heap[R]? = some (.cells #[Value.slice (some ⟨g, 0, none⟩) l.length c] 49 (0, 0)) ∧ OwnRo (sortWorldK encR 2 w g 0 q d' os) B a m ∧ Below R w (sortWorldK encR 2 w g 0 q d' os) from by
      have hd := sorted_rows hm hp h1 h2
      have hk := sorted_keep w g q d' os
      obtain ⟨cu', hh'⟩ := sorted_heap q d' os hh
      have hH' := holdsK_sortWorldK_c encR 2 w g 0 l.toArray d' q os hH (lt_of_heap hh) (h1.1)
      have hc' := sorted_cells hh' hH'
      rw [hd] at hc'
      have hne := hT.ne
      exact ⟨some ⟨g, 0, none⟩, c, by rw [hlen], (hk.block R (lt_of_heap hT.box) (fun e => hne e.symm)).trans hT.box, fun _ => ⟨g, 0, cu', rfl, hBg, hh', hc'⟩, hk.below (B := R) (Nat.le_of_lt (lt_of_heap hT.box)) (fun k e => by omega)⟩))
    rw [hs] at CP HEND
    clear hm hp hW hT hh hcu hH hs hlen h0 CL hRB hBg
    obtain ⟨n, hnn⟩ : ∃ n, l.length = n := ⟨_, rfl⟩
    rw [hnn] at CP C0 HEND hn ⊢
    clear hnn
    obtain ⟨z, hz⟩ : ∃ z, Lib.bitLen n = z := ⟨_, rfl⟩
    rw [hz] at C0 CP
    clear hz
    have wr : IntKind.u64.wrap (n : Int) = n := by simp [IntKind.wrap, IntKind.bits, IntKind.signed]; omega
    go_enter Try.func26, Try.ntmps26
    go_wp2_with fail
    refine C0.out.mono ?_
    rintro e w1 ⟨rfl, rfl⟩
    go_wp2_with fail
    refine CP.out.mono ?_
    rintro e w2 ⟨rfl, d', q, os, h1, h2, hw2⟩
    have HE := hid (HEND.out d' q os h1 h2)
    rw [← hw2] at HE
    clear h1 h2 hw2 HEND CP C0
    go_wp2_with fail
    go_end0
    exact ⟨rfl, HE.out⟩

end Go.Proofs.Ytnddphmcagcdiaa
