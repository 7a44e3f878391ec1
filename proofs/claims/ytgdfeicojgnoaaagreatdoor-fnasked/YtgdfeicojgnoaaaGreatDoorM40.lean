/- The library contracts that the sorting leans on, laid at this program: a field a fact of the program, each contract one application. slices.SortFunc over rows by their ids. container/heap.Pop over the rows. -/
import Derived.Test.YtgdfeicojgnoaaaGreatDoorProg
import Derived.Test.YtgdfeicojgnoaaaGreatDoorM38
import Derived.Test.YtgdfeicojgnoaaaGreatDoorM39
import Derived.Shelf.Small.Bits
import Derived.Shelf.Strconv.Itoa0
import Derived.Shelf.SlSortCmp.PdqK
namespace Go.Proofs
open Go.Shelf
def Tryz.lays125_ren : Go.Shelf.Ren := ⟨fun | 125 => 132 | 128 => 150 | 129 => 151 | n => n, fun | 46 => 134 | 3 => 3 | 51 => 215 | 53 => 217 | 4 => 4 | 5 => 5 | 9 => 9 | n => n, fun | n => n⟩
theorem Tryz.lays125 : Go.Proofs.Lays.n125 Tryz.prog Tryz.lays125_ren := {
  mixed := by kernel_rfl
  f125 := Tryz.func132.trans (congrArg some (by kernel_rfl))
  f128 := Tryz.func150.trans (congrArg some (by kernel_rfl))
  f129 := Tryz.func151.trans (congrArg some (by kernel_rfl))
  t3 := Tryz.underlying3
  a3 := Tryz.isAgg3
  z3 := Tryz.sizeOf3
  v3 := Tryz.zeroValue3
  t4 := Tryz.underlying4
  a4 := Tryz.isAgg4
  z4 := Tryz.sizeOf4
  v4 := Tryz.zeroValue4
  t5 := Tryz.underlying5
  a5 := Tryz.isAgg5
  z5 := Tryz.sizeOf5
  v5 := Tryz.zeroValue5
  t9 := Tryz.underlying9
  a9 := Tryz.isAgg9
  z9 := Tryz.sizeOf9
  v9 := Tryz.zeroValue9
  t46 := Tryz.underlying134
  a46 := Tryz.isAgg134
  z46 := Tryz.sizeOf134
  v46 := Tryz.zeroValue134
  t51 := Tryz.underlying215
  a51 := Tryz.isAgg215
  z51 := Tryz.sizeOf215
  v51 := Tryz.zeroValue215
  t53 := Tryz.underlying217
  a53 := Tryz.isAgg217
  z53 := Tryz.sizeOf217
  v53 := Tryz.zeroValue217 }
/-- bits.Len: "Len returns the minimum number of bits required to represent x; the result is 0 for x == 0.": IT RETURNS 'Lib.bitLen x'; the world is as it was. (A uint has 64 bits in the model.) ITS CALLEE bits.Len64 IS MET BY ITS OWN CONTRACT OFF THE SHELF (lay that first). (LAID: no walk: one application.) -/
theorem Tryz.bits_Len (x : Int) (w : World) (h0 : 0 ≤ x) (h1 : x ≤ 18446744073709551615) :
    Calls Tryz.prog 132 #[.int .u64 x] w fun e w' => e = .returned (.int .i64 (Lib.bitLen x.toNat)) ∧ w' = w := Any.bits_Len Tryz.lays125 x w h0 h1
def Tryz.pdqR_ren : Go.Shelf.Ren := ⟨fun | 14 => 131 | 20 => 142 | 21 => 143 | 22 => 144 | 23 => 145 | 24 => 146 | 25 => 147 | 26 => 148 | 27 => 149 | 46 => 159 | 47 => 160 | 48 => 161 | 49 => 162 | 50 => 163 | 15 => 132 | 57 => 165 | 28 => 150 | 29 => 151 | n => n, fun | 24 => 83 | 22 => 25 | 3 => 3 | 25 => 112 | 4 => 4 | 0 => 0 | 46 => 209 | 45 => 208 | 50 => 78 | 66 => 219 | 39 => 134 | 55 => 217 | 70 => 223 | 76 => 225 | 77 => 226 | 53 => 215 | 5 => 5 | 9 => 9 | n => n, fun | n => n⟩
theorem Tryz.pdqR : Go.Proofs.SlLaysF0.n14 Tryz.prog Tryz.pdqR_ren := {
  mixed := by kernel_rfl
  f14 := ⟨Tryz.f131.name, by decide, Tryz.func131.trans (congrArg some (by kernel_rfl))⟩
  f15 := Tryz.func132.trans (congrArg some (by kernel_rfl))
  f20 := ⟨Tryz.f142.name, by decide, Tryz.func142.trans (congrArg some (by kernel_rfl))⟩
  f21 := ⟨Tryz.f143.name, by decide, Tryz.func143.trans (congrArg some (by kernel_rfl))⟩
  f22 := ⟨Tryz.f144.name, by decide, Tryz.func144.trans (congrArg some (by kernel_rfl))⟩
  f23 := ⟨Tryz.f145.name, by decide, Tryz.func145.trans (congrArg some (by kernel_rfl))⟩
  f24 := ⟨Tryz.f146.name, by decide, Tryz.func146.trans (congrArg some (by kernel_rfl))⟩
  f25 := ⟨Tryz.f147.name, by decide, Tryz.func147.trans (congrArg some (by kernel_rfl))⟩
  f26 := ⟨Tryz.f148.name, by decide, Tryz.func148.trans (congrArg some (by kernel_rfl))⟩
  f27 := ⟨Tryz.f149.name, by decide, Tryz.func149.trans (congrArg some (by kernel_rfl))⟩
  f28 := Tryz.func150.trans (congrArg some (by kernel_rfl))
  f29 := Tryz.func151.trans (congrArg some (by kernel_rfl))
  f46 := ⟨Tryz.f159.name, by decide, Tryz.func159.trans (congrArg some (by kernel_rfl))⟩
  f47 := Tryz.func160.trans (congrArg some (by kernel_rfl))
  f48 := Tryz.func161.trans (congrArg some (by kernel_rfl))
  f49 := ⟨Tryz.f162.name, by decide, Tryz.func162.trans (congrArg some (by kernel_rfl))⟩
  f50 := ⟨Tryz.f163.name, by decide, Tryz.func163.trans (congrArg some (by kernel_rfl))⟩
  f57 := ⟨Tryz.f165.name, by decide, Tryz.func165.trans (congrArg some (by kernel_rfl))⟩
  t0 := Tryz.underlying0
  a0 := Tryz.isAgg0
  z0 := Tryz.sizeOf0
  v0 := Tryz.zeroValue0
  t3 := Tryz.underlying3
  a3 := Tryz.isAgg3
  z3 := Tryz.sizeOf3
  v3 := Tryz.zeroValue3
  t4 := Tryz.underlying4
  a4 := Tryz.isAgg4
  z4 := Tryz.sizeOf4
  v4 := Tryz.zeroValue4
  t5 := Tryz.underlying5
  a5 := Tryz.isAgg5
  z5 := Tryz.sizeOf5
  v5 := Tryz.zeroValue5
  t9 := Tryz.underlying9
  a9 := Tryz.isAgg9
  z9 := Tryz.sizeOf9
  v9 := Tryz.zeroValue9
  t22 := Tryz.underlying25
  a22 := Tryz.isAgg25
  z22 := Tryz.sizeOf25
  v22 := Tryz.zeroValue25
  t25 := Tryz.underlying112
  a25 := Tryz.isAgg112
  z25 := Tryz.sizeOf112
  v25 := Tryz.zeroValue112
  t39 := Tryz.underlying134
  a39 := Tryz.isAgg134
  z39 := Tryz.sizeOf134
  v39 := Tryz.zeroValue134
  t45 := Tryz.underlying208
  a45 := Tryz.isAgg208
  z45 := Tryz.sizeOf208
  v45 := Tryz.zeroValue208
  t46 := Tryz.underlying209
  a46 := Tryz.isAgg209
  z46 := Tryz.sizeOf209
  v46 := Tryz.zeroValue209
  t50 := Tryz.underlying78
  a50 := Tryz.isAgg78
  z50 := Tryz.sizeOf78
  v50 := Tryz.zeroValue78
  t53 := Tryz.underlying215
  a53 := Tryz.isAgg215
  z53 := Tryz.sizeOf215
  v53 := Tryz.zeroValue215
  t55 := Tryz.underlying217
  a55 := Tryz.isAgg217
  z55 := Tryz.sizeOf217
  v55 := Tryz.zeroValue217
  t66 := Tryz.underlying219
  a66 := Tryz.isAgg219
  z66 := Tryz.sizeOf219
  v66 := Tryz.zeroValue219
  t70 := Tryz.underlying223
  a70 := Tryz.isAgg223
  z70 := Tryz.sizeOf223
  v70 := Tryz.zeroValue223
  t76 := Tryz.underlying225
  a76 := Tryz.isAgg225
  z76 := Tryz.sizeOf225
  v76 := Tryz.zeroValue225
  t77 := Tryz.underlying226
  a77 := Tryz.isAgg226
  z77 := Tryz.sizeOf226
  v77 := Tryz.zeroValue226 }
end Go.Proofs

namespace Go.Proofs.YtgdfeicojgnoaaaGreatDoor
open Go.RowKit
set_option linter.unusedVariables false
set_option linter.unusedSimpArgs false

/-- Of no row nothing is put in order. -/
theorem cInsNone (p : Option Addr) (cap : Nat) (fv : Value) (w : World) :
    Calls Tryz.prog 142 #[.slice p 0 cap, .int .i64 0, .int .i64 0, fv] w fun e w' => e = .returned (.tuple #[]) ∧ w' = w := by
  go_enter Tryz.func142, Tryz.ntmps142
  go_wp2
  refine wp_loop_rounds 1 ?_
  rw [rounds_succ]
  go_wp2
  go_end0
  exact ⟨rfl, rfl⟩

theorem cPdqNone (p : Option Addr) (cap : Nat) (lim : Int) (fv : Value) (w : World) :
    Calls Tryz.prog 131 #[.slice p 0 cap, .int .i64 0, .int .i64 0, .int .i64 lim, fv] w fun e w' => e = .returned (.tuple #[]) ∧ w' = w := by
  have hi := fun W => cInsNone p cap fv W
  go_enter Tryz.func131, Tryz.ntmps131
  go_wp2
  refine wp_loop_rounds 1 ?_
  rw [rounds_succ]
  go_wp2_with (go_at_call 142; refine (hi _).mono ?_; rintro e w' ⟨rfl, rfl⟩)
  (try simp only [Exit.inBlock, Exit.then]); refine bodyPost_ret (results_none rfl _ _ _) rfl ?_
  exact ⟨rfl, rfl⟩

theorem cPdq (g cap : Nat) (d : Array Ro) (w : World) (hH : Go.Sort.HoldsK encR 2 w g 0 d) (hg : g < w.heap.size) (hsz : d.size ≤ 90000) :
    Calls Tryz.prog 131 #[.slice (some ⟨g, 0, none⟩) d.size cap, .int .i64 0, .int .i64 d.size, .int .i64 (Lib.bitLen d.size : Nat), .func (.func 78) #[] #[]] w fun e w' => e = .returned (.tuple #[]) ∧ ∃ d' n os, Go.Sort.PermIn 0 d.size d d' ∧ Go.Sort.SortedIn (ltOf cmpR) 0 d.size d' ∧ w' = sortWorldK encR 2 w g 0 n d' os := by
  have eg : ∀ args w, (callFunc 78 args).run Tryz.prog w = .ok (.enter 78 args) w := enters_of Tryz.func78 (by kernel_rfl) rfl
  have hlim : Lib.bitLen d.size < 4611686018427387904 := Nat.lt_of_le_of_lt (Lib.bitLen_le d.size 62 (by omega) (by omega)) (by omega)
  have h := AnyQ.pdqsortCmpFunc_all Tryz.pdqR 2 Tryz.isAgg83 Tryz.sizeOf83 encR cmpR 78 #[] swoR g 0 cap d w eg (cmpLaysR g 0 _ w) ⟨fun _ => rfl, fun x v hv => by simp [encR] at hv; rcases hv with rfl | rfl <;> rfl, hH, hg⟩ (d.size + 1) 0 d.size (Lib.bitLen d.size) d w (by omega) rfl (SWK.start hH) (Nat.zero_le _) (Nat.le_refl _) (by omega) hlim (Or.inl rfl)
  refine (show Calls Tryz.prog 131 _ _ _ from h).mono ?_
  rintro e w' ⟨rfl, n, os, rfl⟩
  have hs := Go.Sort.pdq_sorts (ltOf cmpR) swoR d 0 d.size (Lib.bitLen d.size) true true (Nat.zero_le _) (Nat.le_refl _) (Or.inl rfl)
  exact ⟨rfl, _, n, os, hs.1, hs.2, rfl⟩

set_option maxRecDepth 8000 in
set_option maxHeartbeats 4000000 in
theorem cSort (B R : Nat) (v : Value) (l m : List Ro) (w : World) (hW : Wn w B R v l) (hRB : R < B) (hm : m.Pairwise (fun x y => u_ltB x.id y.id = true)) (hp : l.Perm m) (hn : l.length ≤ 90000) :
    Calls Tryz.prog 102 #[v, .func (.func 78) #[] #[]] w fun e w' => e = .returned (.tuple #[]) ∧ ∃ a c, v = .slice a m.length c ∧ w'.heap[R]? = some (.cells #[v] 137 (0, 0)) ∧ OwnRo w' B a m ∧ Below R w w' := by
  have hlen := hp.length_eq
  have CL := hid (fun (n : Nat) (W : World) (h : n ≤ 90000) => (show Calls Tryz.prog 132 #[.int .u64 (n : Int)] W fun e w' => e = .returned (.int .i64 (Lib.bitLen n : Nat)) ∧ w' = W from by
    have h := Tryz.bits_Len (n : Int) W (by omega) (by omega)
    rwa [Int.toNat_natCast] at h))
  rcases Nat.eq_zero_or_pos l.length with h0 | h0
  · obtain ⟨a, c, rfl⟩ := u_own_len hW.own
    have hm0 : m = [] := List.length_eq_zero_iff.1 (by omega)
    have hb := hW.box
    rw [h0] at hb ⊢
    subst hm0
    have C0 := hid (CL.out 0 w (by omega))
    have HB := hid hb
    clear hb hW hm hp hlen hn CL h0
    obtain ⟨z, hz⟩ : ∃ z, Lib.bitLen 0 = z := ⟨_, rfl⟩
    rw [hz] at C0
    clear hz
    go_enter Tryz.func102, Tryz.ntmps102
    go_wp2_with fail
    refine C0.out.mono ?_
    rintro e w1 ⟨rfl, rfl⟩
    go_wp2_with fail
    refine (cPdqNone a c (z : Int) _ _).mono ?_
    rintro e w2 ⟨rfl, rfl⟩
    go_wp2_with fail
    go_end0
    exact ⟨rfl, a, c, rfl, HB.out, OwnRo.nil _ _ _, Below.refl _ _⟩
  · obtain ⟨g, c, rfl, hT, hBg⟩ := hW.wt h0
    obtain ⟨cu, hh, hcu⟩ := hT.cells h0
    have hH := holdsR hh hcu
    have hs : l.toArray.size = l.length := by simp
    have CP := hid (cPdq g c l.toArray w hH (lt_of_heap hh) (by rw [hs]; exact hn))
    have C0 := hid (CL.out l.length w hn)
    have HEND := hid (fun (d' : Array Ro) (q : Nat) (os : Array Obj) (h1 : Go.Sort.PermIn 0 l.toArray.size l.toArray d') (h2 : Go.Sort.SortedIn (ltOf cmpR) 0 l.toArray.size d') => (show ∃ a c', (Value.slice (some ⟨g, 0, none⟩) l.length c) = .slice a m.length c' ∧ (sortWorldK encR 2 w g 0 q d' os).heap[R]? = some (.cells #[Value.slice (some ⟨g, 0, none⟩) l.length c] 137 (0, 0)) ∧ OwnRo (sortWorldK encR 2 w g 0 q d' os) B a m ∧ Below R w (sortWorldK encR 2 w g 0 q d' os) from by
      have hd := sorted_rows hm hp h1 h2
      have hk := sorted_keep w g q d' os
      obtain ⟨cu', hh'⟩ := sorted_heap q d' os hh
      have hH' := holdsK_sortWorldK_c encR 2 w g 0 l.toArray d' q os hH (lt_of_heap hh) (h1.1)
      have hc' := sorted_cells hh' hH'
      rw [hd] at hc'
      have hne := hT.ne
      exact ⟨some ⟨g, 0, none⟩, c, by rw [hlen], (hk.block R (lt_of_heap hT.box) (fun e => hne e.symm)).trans hT.box, fun _ => ⟨g, 0, cu', rfl, hBg, hh', hc'⟩, hk.below (B := R) (Nat.le_of_lt (lt_of_heap hT.box)) (fun k e => by omega)⟩))
    rw [hs] at CP HEND
    clear hm hp hW hT hh hcu hH hs hlen h0 CL hRB hBg
    obtain ⟨n, hnn⟩ : ∃ n, l.length = n := ⟨_, rfl⟩
    rw [hnn] at CP C0 HEND hn ⊢
    clear hnn
    obtain ⟨z, hz⟩ : ∃ z, Lib.bitLen n = z := ⟨_, rfl⟩
    rw [hz] at C0 CP
    clear hz
    have wr : IntKind.u64.wrap (n : Int) = n := by simp [IntKind.wrap, IntKind.bits, IntKind.signed]; omega
    go_enter Tryz.func102, Tryz.ntmps102
    go_wp2_with fail
    refine C0.out.mono ?_
    rintro e w1 ⟨rfl, rfl⟩
    go_wp2_with fail
    refine CP.out.mono ?_
    rintro e w2 ⟨rfl, d', q, os, h1, h2, hw2⟩
    have HE := hid (HEND.out d' q os h1 h2)
    rw [← hw2] at HE
    clear h1 h2 hw2 HEND CP C0
    go_wp2_with fail
    go_end0
    exact ⟨rfl, HE.out⟩

end Go.Proofs.YtgdfeicojgnoaaaGreatDoor

namespace Go.Proofs.YtgdfeicojgnoaaaGreatDoor
open Go.RowKit
set_option linter.unusedVariables false
set_option linter.unusedSimpArgs false

theorem pop_down {l : List Ro} {n : Nat} (hl : l.length = n + 1) (h : HeapF (keyF l) l.length) (h0 : 0 < l.length) (hn : n < l.length) : DownOk (keyF (swR l 0 n h0 hn)) n 0 := by
  refine down_start (fun k hk hk0 hne => ?_)
  rw [swR_key, swF_o hne (by omega), swF_o (by omega) (by omega)]
  exact h k (by omega) hk0

theorem pop_end {l l2 : List Ro} {n : Nat} (hl : l.length = n + 1) (h0 : 0 < l.length) (hn : n < l.length) (hp : l2.Perm (swR l 0 n h0 hn)) (hh : HeapF (keyF l2) n) (ht : ∀ k, n ≤ k → l2[k]? = (swR l 0 n h0 hn)[k]?) :
    (l2.take n ++ [l[0]]).Perm l ∧ HeapF (keyF (l2.take n)) (l2.take n).length ∧ (l2.take n).length = n := by
  have hlen : l2.length = n + 1 := by rw [hp.length_eq, swR_len, hl]
  have e : l2[n]? = some l[0] := by
    rw [ht n (Nat.le_refl _), List.getElem?_eq_getElem (by rw [swR_len]; exact hn), swR_get]
    by_cases q : n = 0
    · subst q
      simp
    · rw [if_neg q, if_pos rfl]
  have e2 : l2.take n ++ [l[0]] = l2 := by
    have := List.take_add_one (l := l2) (i := n)
    rw [e, List.take_of_length_le (by omega)] at this
    exact this.symm
  have e3 : (l2.take n).length = n := by rw [List.length_take]; omega
  refine ⟨?_, ?_, e3⟩
  · rw [e2]
    exact hp.trans (swR_perm l 0 n h0 hn)
  · rw [e3]
    intro k hk hk0
    have f : ∀ q, q < n → keyF (l2.take n) q = keyF l2 q := fun q hq => by
      rw [keyF_lt (by omega), keyF_lt (by omega), List.getElem_take]
    rw [f _ (by omega), f _ hk]
    exact hh k hk hk0

set_option maxRecDepth 8000 in
set_option maxHeartbeats 8000000 in
theorem cHPop (B R g c n : Nat) (l : List Ro) (w : World) (hW : Wt w B R g c l) (hl : l.length = n + 1) (h0 : 0 < l.length) (hRB : R < B) (hBg : B ≤ g) (hB : B ≤ w.heap.size) (hn : l.length ≤ 90000) (hH : HeapF (keyF l) l.length) :
    Calls Tryz.prog 101 #[.iface 139 (.pointer (some ⟨R, 0, none⟩))] w fun e w' => ∃ v : Value, e = .returned v ∧ ∃ m : List Ro, (m ++ [l[0]]).Perm l ∧ HeapF (keyF m) m.length ∧ m.length = n ∧ Wt w' B R g c m ∧ Below R w w' := by
  have hnl : n < l.length := by omega
  have nn := fun wx => nil_len R wx
  have ns := fun wx => nil_swap R wx
  have np := fun wx => nil_pop R wx
  have mp := fun wx => meth_pop R wx
  have ml := meth_len R _ w (u_box1c hW.box)
  have ms := meth_swap R _ w (u_box1c hW.box)
  have HW1 := hid (hW.swap 0 n h0 hnl)
  have HD := hid (pop_down hl hH h0 hnl)
  have HEND := hid (fun l2 => pop_end (l2 := l2) hl h0 hnl)
  have CS := hid (by
    obtain ⟨cu, hh, hcu⟩ := hW.cells h0
    obtain ⟨q0, q1⟩ := hcu 0 h0
    obtain ⟨q2, q3⟩ := hcu n hnl
    rw [Nat.zero_add] at q0 q1 q2 q3
    exact cWSwap g c (n + 1) 0 n l[0].id l[n].id l[0].til l[n].til w (by rw [Lib.cell_of_heap hh]; exact q0) (by rw [Lib.cell_of_heap hh]; exact q1) (by rw [Lib.cell_of_heap hh]; exact q2) (by rw [Lib.cell_of_heap hh]; exact q3) (fun o => Lib.frozen_of_heap hh _) (by omega) (by omega))
  have HKP := hid (swW_keep w g 0 n l[0].id l[n].id l[0].til l[n].til)
  have hw1 : IntKind.i64.wrap (n : Int) = (n : Int) := IntWalk.i64_in _ (by omega)
  have CD := hid (cDown B R g c n _ _ HW1.out (by rw [swR_len]; omega) HD.out (by rw [swR_len]; omega))
  have HRS := hid (lt_of_heap hW.box)
  rw [hl] at ml ms
  have e1 : ((n + 1 : Nat) : Int) = (n : Int) + 1 := rfl
  obtain ⟨w1, hw⟩ : ∃ w1, swW w g 0 n l[0].id l[n].id l[0].til l[n].til = w1 := ⟨_, rfl⟩
  rw [hw] at CS CD HW1 HKP
  clear hw hW hH
  go_enter Tryz.func101, Tryz.ntmps101
  go_wp2_with fail
  refine (cWLen _ _ _ _).mono ?_
  rintro e w2 ⟨rfl, rfl⟩
  go_wp2_with fail
  refine CS.out.mono ?_
  rintro e w3 ⟨rfl, rfl⟩
  clear ml ms
  go_wp2_with fail
  refine CD.out.mono ?_
  rintro e w4 ⟨v4, rfl, l2, hp, ⟨hq1, hq2⟩, hwt, hk⟩
  obtain ⟨z1, z2, z3⟩ := HEND.out l2 hp hq1 hq2
  have hl2 : l2.length = n + 1 := by rw [hp.length_eq, swR_len, hl]
  have CPp := hid (cWPop B R g c n l2 w4 hwt hl2 hRB (Nat.le_trans hB (Nat.le_trans HKP.out.size hk.size)) (by omega))
  have HZ := hid (And.intro z1 (And.intro z2 z3))
  have HBL := hid ((HKP.out.below (B := R) (Nat.le_of_lt HRS.out) (fun k e => by omega)).trans (hk.below (B := R) (Nat.le_trans (Nat.le_of_lt HRS.out) HKP.out.size) (fun k e => by omega)))
  clear hp hq1 hq2 hwt hk z1 z2 z3 hl2 CD CS HD HEND HW1 HKP
  go_wp2_with fail
  refine CPp.out.mono ?_
  rintro e w5 ⟨v5, rfl, hwt5, hb5⟩
  have HF := hid (And.intro hwt5 (HBL.out.trans hb5))
  clear hwt5 hb5 CPp
  go_wp2_with fail
  go_ret
  first
    | exact ⟨_, HZ.out.1, HZ.out.2.1, HZ.out.2.2, HF.out⟩
    | exact ⟨_, rfl, _, HZ.out.1, HZ.out.2.1, HZ.out.2.2, HF.out⟩
    | exact ⟨⟨_, rfl⟩, _, HZ.out.1, HZ.out.2.1, HZ.out.2.2, HF.out⟩

end Go.Proofs.YtgdfeicojgnoaaaGreatDoor
