/- slices.SortFunc over rows by their ids. container/heap.Pop over the rows. Contract of the program's Swept. -/
import Derived.Test.YtajlgnlifffanaaGreatDoorM37
import Derived.Test.YtajlgnlifffanaaGreatDoorM38
import Derived.Test.YtajlgnlifffanaaGreatDoorM8
import Derived.Test.YtajlgnlifffanaaGreatDoorM14
import Derived.Test.YtajlgnlifffanaaGreatDoorM3
namespace Go.Proofs.YtajlgnlifffanaaGreatDoor
open Go.RowKit
set_option linter.unusedVariables false
set_option linter.unusedSimpArgs false

/-- Of no row nothing is put in order. -/
theorem cInsNone (p : Option Addr) (cap : Nat) (fv : Value) (w : World) :
    Calls Tryz.prog 142 #[.slice p 0 cap, .int .i64 0, .int .i64 0, fv] w fun e w' => e = .returned (.tuple #[]) ∧ w' = w := by
  go_enter Tryz.func142, Tryz.ntmps142
  go_wp2
  refine wp_loop_rounds 1 ?_
  rw [rounds_succ]
  go_wp2
  go_end0
  exact ⟨rfl, rfl⟩

theorem cPdqNone (p : Option Addr) (cap : Nat) (lim : Int) (fv : Value) (w : World) :
    Calls Tryz.prog 131 #[.slice p 0 cap, .int .i64 0, .int .i64 0, .int .i64 lim, fv] w fun e w' => e = .returned (.tuple #[]) ∧ w' = w := by
  have hi := fun W => cInsNone p cap fv W
  go_enter Tryz.func131, Tryz.ntmps131
  go_wp2
  refine wp_loop_rounds 1 ?_
  rw [rounds_succ]
  go_wp2_with (go_at_call 142; refine (hi _).mono ?_; rintro e w' ⟨rfl, rfl⟩)
  (try simp only [Exit.inBlock, Exit.then]); refine bodyPost_ret (results_none rfl _ _ _) rfl ?_
  exact ⟨rfl, rfl⟩

theorem cPdq (g cap : Nat) (d : Array Ro) (w : World) (hH : Go.Sort.HoldsK encR 2 w g 0 d) (hg : g < w.heap.size) (hsz : d.size ≤ 90000) :
    Calls Tryz.prog 131 #[.slice (some ⟨g, 0, none⟩) d.size cap, .int .i64 0, .int .i64 d.size, .int .i64 (Lib.bitLen d.size : Nat), .func (.func 78) #[] #[]] w fun e w' => e = .returned (.tuple #[]) ∧ ∃ d' n os, Go.Sort.PermIn 0 d.size d d' ∧ Go.Sort.SortedIn (ltOf cmpR) 0 d.size d' ∧ w' = sortWorldK encR 2 w g 0 n d' os := by
  have eg : ∀ args w, (callFunc 78 args).run Tryz.prog w = .ok (.enter 78 args) w := enters_of Tryz.func78 (by kernel_rfl) rfl
  have hlim : Lib.bitLen d.size < 4611686018427387904 := Nat.lt_of_le_of_lt (Lib.bitLen_le d.size 62 (by omega) (by omega)) (by omega)
  have h := AnyQ.pdqsortCmpFunc_all Tryz.pdqR 2 Tryz.isAgg83 Tryz.sizeOf83 encR cmpR 78 #[] swoR g 0 cap d w eg (cmpLaysR g 0 _ w) ⟨fun _ => rfl, fun x v hv => by simp [encR] at hv; rcases hv with rfl | rfl <;> rfl, hH, hg⟩ (d.size + 1) 0 d.size (Lib.bitLen d.size) d w (by omega) rfl (SWK.start hH) (Nat.zero_le _) (Nat.le_refl _) (by omega) hlim (Or.inl rfl)
  refine (show Calls Tryz.prog 131 _ _ _ from h).mono ?_
  rintro e w' ⟨rfl, n, os, rfl⟩
  have hs := Go.Sort.pdq_sorts (ltOf cmpR) swoR d 0 d.size (Lib.bitLen d.size) true true (Nat.zero_le _) (Nat.le_refl _) (Or.inl rfl)
  exact ⟨rfl, _, n, os, hs.1, hs.2, rfl⟩

set_option maxRecDepth 8000 in
set_option maxHeartbeats 4000000 in
theorem cSort (B R : Nat) (v : Value) (l m : List Ro) (w : World) (hW : Wn w B R v l) (hRB : R < B) (hm : m.Pairwise (fun x y => u_ltB x.id y.id = true)) (hp : l.Perm m) (hn : l.length ≤ 90000) :
    Calls Tryz.prog 102 #[v, .func (.func 78) #[] #[]] w fun e w' => e = .returned (.tuple #[]) ∧ ∃ a c, v = .slice a m.length c ∧ w'.heap[R]? = some (.cells #[v] 137 (0, 0)) ∧ OwnRo w' B a m ∧ Below R w w' := by
  have hlen := hp.length_eq
  have CL := hid (fun (n : Nat) (W : World) (h : n ≤ 90000) => (show Calls Tryz.prog 132 #[.int .u64 (n : Int)] W fun e w' => e = .returned (.int .i64 (Lib.bitLen n : Nat)) ∧ w' = W from by
    have h := Tryz.bits_Len (n : Int) W (by omega) (by omega)
    rwa [Int.toNat_natCast] at h))
  rcases Nat.eq_zero_or_pos l.length with h0 | h0
  · obtain ⟨a, c, rfl⟩ := u_own_len hW.own
    have hm0 : m = [] := List.length_eq_zero_iff.1 (by omega)
    have hb := hW.box
    rw [h0] at hb ⊢
    subst hm0
    have C0 := hid (CL.out 0 w (by omega))
    have HB := hid hb
    clear hb hW hm hp hlen hn CL h0
    obtain ⟨z, hz⟩ : ∃ z, Lib.bitLen 0 = z := ⟨_, rfl⟩
    rw [hz] at C0
    clear hz
    go_enter Tryz.func102, Tryz.ntmps102
    go_wp2_with fail
    refine C0.out.mono ?_
    rintro e w1 ⟨rfl, rfl⟩
    go_wp2_with fail
    refine (cPdqNone a c (z : Int) _ _).mono ?_
    rintro e w2 ⟨rfl, rfl⟩
    go_wp2_with fail
    go_end0
    exact ⟨rfl, a, c, rfl, HB.out, OwnRo.nil _ _ _, Below.refl _ _⟩
  · obtain ⟨g, c, rfl, hT, hBg⟩ := hW.wt h0
    obtain ⟨cu, hh, hcu⟩ := hT.cells h0
    have hH := holdsR hh hcu
    have hs : l.toArray.size = l.length := by simp
    have CP := hid (cPdq g c l.toArray w hH (lt_of_heap hh) (by rw [hs]; exact hn))
    have C0 := hid (CL.out l.length w hn)
    have HEND := hid (fun (d' : Array Ro) (q : Nat) (os : Array Obj) (h1 : Go.Sort.PermIn 0 l.toArray.size l.toArray d') (h2 : Go.Sort.SortedIn (ltOf cmpR) 0 l.toArray.size d') => (show ∃ a c', (Value.slice (some ⟨g, 0, none⟩) l.length c) = .slice a m.length c' ∧ (sortWorldK encR 2 w g 0 q d' os).heap[R]? = some (.cells #[Value.slice (some ⟨g, 0, none⟩) l.length c] 137 (0, 0)) ∧ OwnRo (sortWorldK encR 2 w g 0 q d' os) B a m ∧ Below R w (sortWorldK encR 2 w g 0 q d' os) from by
      have hd := sorted_rows hm hp h1 h2
      have hk := sorted_keep w g q d' os
      obtain ⟨cu', hh'⟩ := sorted_heap q d' os hh
      have hH' := holdsK_sortWorldK_c encR 2 w g 0 l.toArray d' q os hH (lt_of_heap hh) (h1.1)
      have hc' := sorted_cells hh' hH'
      rw [hd] at hc'
      have hne := hT.ne
      exact ⟨some ⟨g, 0, none⟩, c, by rw [hlen], (hk.block R (lt_of_heap hT.box) (fun e => hne e.symm)).trans hT.box, fun _ => ⟨g, 0, cu', rfl, hBg, hh', hc'⟩, hk.below (B := R) (Nat.le_of_lt (lt_of_heap hT.box)) (fun k e => by omega)⟩))
    rw [hs] at CP HEND
    clear hm hp hW hT hh hcu hH hs hlen h0 CL hRB hBg
    obtain ⟨n, hnn⟩ : ∃ n, l.length = n := ⟨_, rfl⟩
    rw [hnn] at CP C0 HEND hn ⊢
    clear hnn
    obtain ⟨z, hz⟩ : ∃ z, Lib.bitLen n = z := ⟨_, rfl⟩
    rw [hz] at C0 CP
    clear hz
    have wr : IntKind.u64.wrap (n : Int) = n := by simp [IntKind.wrap, IntKind.bits, IntKind.signed]; omega
    go_enter Tryz.func102, Tryz.ntmps102
    go_wp2_with fail
    refine C0.out.mono ?_
    rintro e w1 ⟨rfl, rfl⟩
    go_wp2_with fail
    refine CP.out.mono ?_
    rintro e w2 ⟨rfl, d', q, os, h1, h2, hw2⟩
    have HE := hid (HEND.out d' q os h1 h2)
    rw [← hw2] at HE
    clear h1 h2 hw2 HEND CP C0
    go_wp2_with fail
    go_end0
    exact ⟨rfl, HE.out⟩

end Go.Proofs.YtajlgnlifffanaaGreatDoor

namespace Go.Proofs.YtajlgnlifffanaaGreatDoor
open Go.RowKit
set_option linter.unusedVariables false
set_option linter.unusedSimpArgs false

theorem pop_down {l : List Ro} {n : Nat} (hl : l.length = n + 1) (h : HeapF (keyF l) l.length) (h0 : 0 < l.length) (hn : n < l.length) : DownOk (keyF (swR l 0 n h0 hn)) n 0 := by
  refine down_start (fun k hk hk0 hne => ?_)
  rw [swR_key, swF_o hne (by omega), swF_o (by omega) (by omega)]
  exact h k (by omega) hk0

theorem pop_end {l l2 : List Ro} {n : Nat} (hl : l.length = n + 1) (h0 : 0 < l.length) (hn : n < l.length) (hp : l2.Perm (swR l 0 n h0 hn)) (hh : HeapF (keyF l2) n) (ht : ∀ k, n ≤ k → l2[k]? = (swR l 0 n h0 hn)[k]?) :
    (l2.take n ++ [l[0]]).Perm l ∧ HeapF (keyF (l2.take n)) (l2.take n).length ∧ (l2.take n).length = n := by
  have hlen : l2.length = n + 1 := by rw [hp.length_eq, swR_len, hl]
  have e : l2[n]? = some l[0] := by
    rw [ht n (Nat.le_refl _), List.getElem?_eq_getElem (by rw [swR_len]; exact hn), swR_get]
    by_cases q : n = 0
    · subst q
      simp
    · rw [if_neg q, if_pos rfl]
  have e2 : l2.take n ++ [l[0]] = l2 := by
    have := List.take_add_one (l := l2) (i := n)
    rw [e, List.take_of_length_le (by omega)] at this
    exact this.symm
  have e3 : (l2.take n).length = n := by rw [List.length_take]; omega
  refine ⟨?_, ?_, e3⟩
  · rw [e2]
    exact hp.trans (swR_perm l 0 n h0 hn)
  · rw [e3]
    intro k hk hk0
    have f : ∀ q, q < n → keyF (l2.take n) q = keyF l2 q := fun q hq => by
      rw [keyF_lt (by omega), keyF_lt (by omega), List.getElem_take]
    rw [f _ (by omega), f _ hk]
    exact hh k hk hk0

set_option maxRecDepth 8000 in
set_option maxHeartbeats 8000000 in
theorem cHPop (B R g c n : Nat) (l : List Ro) (w : World) (hW : Wt w B R g c l) (hl : l.length = n + 1) (h0 : 0 < l.length) (hRB : R < B) (hBg : B ≤ g) (hB : B ≤ w.heap.size) (hn : l.length ≤ 90000) (hH : HeapF (keyF l) l.length) :
    Calls Tryz.prog 101 #[.iface 139 (.pointer (some ⟨R, 0, none⟩))] w fun e w' => ∃ v : Value, e = .returned v ∧ ∃ m : List Ro, (m ++ [l[0]]).Perm l ∧ HeapF (keyF m) m.length ∧ m.length = n ∧ Wt w' B R g c m ∧ Below R w w' := by
  have hnl : n < l.length := by omega
  have nn := fun wx => nil_len R wx
  have ns := fun wx => nil_swap R wx
  have np := fun wx => nil_pop R wx
  have mp := fun wx => meth_pop R wx
  have ml := meth_len R _ w (u_box1c hW.box)
  have ms := meth_swap R _ w (u_box1c hW.box)
  have HW1 := hid (hW.swap 0 n h0 hnl)
  have HD := hid (pop_down hl hH h0 hnl)
  have HEND := hid (fun l2 => pop_end (l2 := l2) hl h0 hnl)
  have CS := hid (by
    obtain ⟨cu, hh, hcu⟩ := hW.cells h0
    obtain ⟨q0, q1⟩ := hcu 0 h0
    obtain ⟨q2, q3⟩ := hcu n hnl
    rw [Nat.zero_add] at q0 q1 q2 q3
    exact cWSwap g c (n + 1) 0 n l[0].id l[n].id l[0].til l[n].til w (by rw [Lib.cell_of_heap hh]; exact q0) (by rw [Lib.cell_of_heap hh]; exact q1) (by rw [Lib.cell_of_heap hh]; exact q2) (by rw [Lib.cell_of_heap hh]; exact q3) (fun o => Lib.frozen_of_heap hh _) (by omega) (by omega))
  have HKP := hid (swW_keep w g 0 n l[0].id l[n].id l[0].til l[n].til)
  have hw1 : IntKind.i64.wrap (n : Int) = (n : Int) := IntWalk.i64_in _ (by omega)
  have CD := hid (cDown B R g c n _ _ HW1.out (by rw [swR_len]; omega) HD.out (by rw [swR_len]; omega))
  have HRS := hid (lt_of_heap hW.box)
  rw [hl] at ml ms
  have e1 : ((n + 1 : Nat) : Int) = (n : Int) + 1 := rfl
  obtain ⟨w1, hw⟩ : ∃ w1, swW w g 0 n l[0].id l[n].id l[0].til l[n].til = w1 := ⟨_, rfl⟩
  rw [hw] at CS CD HW1 HKP
  clear hw hW hH
  go_enter Tryz.func101, Tryz.ntmps101
  go_wp2_with fail
  refine (cWLen _ _ _ _).mono ?_
  rintro e w2 ⟨rfl, rfl⟩
  go_wp2_with fail
  refine CS.out.mono ?_
  rintro e w3 ⟨rfl, rfl⟩
  clear ml ms
  go_wp2_with fail
  refine CD.out.mono ?_
  rintro e w4 ⟨v4, rfl, l2, hp, ⟨hq1, hq2⟩, hwt, hk⟩
  obtain ⟨z1, z2, z3⟩ := HEND.out l2 hp hq1 hq2
  have hl2 : l2.length = n + 1 := by rw [hp.length_eq, swR_len, hl]
  have CPp := hid (cWPop B R g c n l2 w4 hwt hl2 hRB (Nat.le_trans hB (Nat.le_trans HKP.out.size hk.size)) (by omega))
  have HZ := hid (And.intro z1 (And.intro z2 z3))
  have HBL := hid ((HKP.out.below (B := R) (Nat.le_of_lt HRS.out) (fun k e => by omega)).trans (hk.below (B := R) (Nat.le_trans (Nat.le_of_lt HRS.out) HKP.out.size) (fun k e => by omega)))
  clear hp hq1 hq2 hwt hk z1 z2 z3 hl2 CD CS HD HEND HW1 HKP
  go_wp2_with fail
  refine CPp.out.mono ?_
  rintro e w5 ⟨v5, rfl, hwt5, hb5⟩
  have HF := hid (And.intro hwt5 (HBL.out.trans hb5))
  clear hwt5 hb5 CPp
  go_wp2_with fail
  go_ret
  first
    | exact ⟨_, HZ.out.1, HZ.out.2.1, HZ.out.2.2, HF.out⟩
    | exact ⟨_, rfl, _, HZ.out.1, HZ.out.2.1, HZ.out.2.2, HF.out⟩
    | exact ⟨⟨_, rfl⟩, _, HZ.out.1, HZ.out.2.1, HZ.out.2.2, HF.out⟩

end Go.Proofs.YtajlgnlifffanaaGreatDoor

namespace Go.Proofs.YtajlgnlifffanaaGreatDoor
open Go.RowKit
set_option linter.unusedVariables false
set_option linter.unusedSimpArgs false

def lenAt (R : Nat) (W : World) : Nat := match W.cell? ⟨R, 0, none⟩ with
  | some (.slice _ n _) => n
  | _ => 0

theorem lenAt_wn {W : World} {B R : Nat} {v : Value} {l : List Ro} (h : Wn W B R v l) : lenAt R W = l.length := by
  obtain ⟨a, c, e⟩ := u_own_len h.own
  unfold lenAt
  rw [u_box1c h.box, e]

theorem Wt.wn {w : World} {B R g c : Nat} {l : List Ro} (h : Wt w B R g c l) : Wn w B R (.slice (some ⟨g, 0, none⟩) l.length c) l := ⟨h.box, h.own⟩

/-- What is still of use of a heap whose root is gone. -/
theorem pop_sweep {m l r : List Ro} {now : Int} (h0 : 0 < l.length) (hp : (m ++ [l[0]]).Perm l) (h : l[0].til ≤ now) (hs : (sweepR l now).Perm r) : (sweepR m now).Perm r := by
  have e : sweepR (m ++ [l[0]]) now = sweepR m now := by
    unfold sweepR
    rw [List.filter_append, List.filter_cons_of_neg (by simpa using h)]
    simp
  rw [← e]
  exact (hp.filter _).trans hs

/-- Where the root is of use all are. -/
theorem root_sweep {l : List Ro} {now : Int} (hH : HeapF (keyF l) l.length) (h : ∀ h0 : 0 < l.length, now < l[0].til) : sweepR l now = l := by
  refine List.filter_eq_self.2 fun x hx => ?_
  obtain ⟨k, hk, rfl⟩ := List.getElem_of_mem hx
  have h1 := heap_root hH k hk
  rw [keyF_lt (by omega), keyF_lt hk] at h1
  have := h (by omega)
  simp
  omega

set_option maxRecDepth 8000 in
set_option maxHeartbeats 16000000 in
theorem cSweptI (t : Tb) (a : Option Addr) (cap : Nat) (now : Int) (w : World) (hR : RoRow w a t.rows) (hz : RoSz 1048576 t.rows) (hn : t.rows.length ≤ 1048576) :
    Calls Tryz.prog 65 #[tbV t a cap, .int .i64 now] w fun e w' => ∃ a' c', e = .returned (tbV (sweptT t now) a' c') ∧ OwnRo w' w.heap.size a' (sweptT t now).rows ∧ Below w.heap.size w w' := by
  have CO := hid (fun wx (h : Below w.heap.size w wx) => cTableOkI t a cap wx (hR.below h) hz hn)
  have CT := hid (fun wx => cTimeI now wx)
  have hM : decide (0 ≤ now ∧ now ≤ 3155759999) = utmB now := rfl
  rw [hM] at CT
  clear hM
  have HR := hid hR
  have HZ := hid hz
  have HLE := hid (fun (h : tableB t = true) => tableB_len h)
  have HUP := hid (fun (h : tableB t = true) => sweep_up (up_of (tableB_p h).2.2) now)
  have HB0 := hid (((Below.refl w.heap.size w).alloc (Nat.le_refl _) (.cells #[.int .i64 t.most, .slice a t.rows.length cap] 27)).alloc (by simp) (.cells #[.int .i64 0, .slice none 0 0] 27))
  obtain ⟨b1, b2⟩ := u_heap2 w (.cells #[.int .i64 t.most, .slice a t.rows.length cap] 27) (.cells #[.int .i64 0, .slice none 0 0] 27)
  have HEF := hid (fun h => sweptT_f (t := t) (now := now) h)
  have HET := hid (fun h => sweptT_t (t := t) (now := now) h)
  obtain ⟨RR, hRR⟩ : ∃ R, sweptT t now = R := ⟨_, rfl⟩
  rw [hRR]
  simp only [hRR] at HEF HET
  clear hRR hR hz hn
  obtain ⟨n, hnn⟩ : ∃ n, t.rows.length = n := ⟨_, rfl⟩
  have HN := hid hnn
  unfold tbV at CO ⊢
  rw [hnn] at CO b1 b2 HB0 HLE ⊢
  obtain ⟨m, hm⟩ : ∃ m, t.most = m := ⟨_, rfl⟩
  have HM := hid hm
  rw [hm] at CO b1 b2 HB0 HET ⊢
  clear hnn hm
  obtain ⟨W0, hW0⟩ : ∃ W0, ((w.alloc (.cells #[.int .i64 m, .slice a n cap] 27)).alloc (.cells #[.int .i64 0, .slice none 0 0] 27)) = W0 := ⟨_, rfl⟩
  rw [hW0] at b1 b2 HB0
  obtain ⟨B, hB⟩ : ∃ B, w.heap.size = B := ⟨_, rfl⟩
  rw [hB] at b1 b2
  have HM1 := hid b1
  have HM2 := hid b2
  clear b1 b2
  obtain ⟨⟨f0, f1⟩, _⟩ := u_box2f HM1.out
  obtain ⟨⟨f2, f3⟩, f6, f7⟩ := u_box2f HM2.out
  cases hT : tableB t with
  | false =>
    have HE := hid (HEF.out (by rw [hT]; rfl))
    rw [hT] at CO
    clear HEF HET hT HLE HUP CT
    go_enter Tryz.func65, Tryz.ntmps65
    go_wp2_with fail
    refine (CO.out _ HB0.out).mono ?_
    rintro e w1 ⟨rfl, hb1⟩
    have HB1 := hid (bb HB0.out hb1)
    have HM21 := hid (u_blk_below HM2.out hb1)
    clear hb1 CO hW0 f0 f1 f2 f3 f6 f7
    obtain ⟨⟨f2, f3⟩, f6, f7⟩ := u_box2f HM21.out
    go_wp2_with fail
    refine bodyPost_ret (v := .agg #[.int .i64 0, .slice none 0 0]) (by simp [results, Tryz.results65, go_sem, f2, f3]) rfl ⟨none, 0, by rw [HE.out]; rfl, by rw [HE.out]; exact OwnRo.nil _ _ _, ?_⟩
    iterate 2 refine Below.setCell ?_ (show w.heap.size ≤ B + 1 by omega) _
    exact HB1.out
  | true =>
    have hn20 : n ≤ 20 := HLE.out hT
    have HU := hid (HUP.out hT)
    rw [hT] at CO
    cases hU : utmB now with
    | false =>
      have HE := hid (HEF.out (by rw [hT, hU]; rfl))
      rw [hU] at CT
      clear HEF HET hT HLE HUP HU hU
      go_enter Tryz.func65, Tryz.ntmps65
      go_wp2_with fail
      refine (CO.out _ HB0.out).mono ?_
      rintro e w1 ⟨rfl, hb1⟩
      have HB1 := hid (bb HB0.out hb1)
      have HM21 := hid (u_blk_below HM2.out hb1)
      clear hb1 CO hW0 f0 f1 f2 f3 f6 f7
      go_wp2_with fail
      refine (CT.out _).mono ?_
      rintro e w1 ⟨rfl, rfl⟩
      clear CT
      obtain ⟨⟨f2, f3⟩, f6, f7⟩ := u_box2f HM21.out
      go_wp2_with fail
      refine bodyPost_ret (v := .agg #[.int .i64 0, .slice none 0 0]) (by simp [results, Tryz.results65, go_sem, f2, f3]) rfl ⟨none, 0, by rw [HE.out]; rfl, by rw [HE.out]; exact OwnRo.nil _ _ _, ?_⟩
      iterate 2 refine Below.setCell ?_ (show w.heap.size ≤ B + 1 by omega) _
      exact HB1.out
    | true =>
      have HE := hid (HET.out (by rw [hT, hU]; rfl))
      rw [hU] at CT
      clear HEF HET hT HLE HUP hU
      go_enter Tryz.func65, Tryz.ntmps65
      go_wp2_with fail
      refine (CO.out _ HB0.out).mono ?_
      rintro e w1 ⟨rfl, hb1⟩
      have HB1 := hid (bb HB0.out hb1)
      have HM11 := hid (u_blk_below HM1.out hb1)
      have HM21 := hid (u_blk_below HM2.out hb1)
      have HR1 := hid (HR.out.below (bb HB0.out hb1))
      clear hb1 CO hW0 f0 f1 f2 f3 f6 f7 HR HM1 HM2 HB0
      go_wp2_with fail
      refine (CT.out _).mono ?_
      rintro e w1 ⟨rfl, rfl⟩
      clear CT
      have HX := hid (heap_alloc_new w1 (.cells #[.slice none 0 0] 137))
      have HBn := hid ((Below.refl w1.heap.size w1).alloc (Nat.le_refl _) (.cells #[.slice none 0 0] 137))
      have HBP := hid (show B + 1 < w1.heap.size from lt_of_heap HM21.out)
      obtain ⟨W3, hW3⟩ : ∃ W, w1.alloc (.cells #[.slice none 0 0] 137) = W := ⟨_, rfl⟩
      rw [hW3] at HX HBn
      obtain ⟨P, hP⟩ : ∃ P, w1.heap.size = P := ⟨_, rfl⟩
      have HPW := hid hP
      rw [hP] at HX HBn HBP
      obtain ⟨⟨f0, f1⟩, _⟩ := u_box2f (u_blk_below HM11.out (HPW.out ▸ HBn.out))
      go_wp2_with fail
      clear hP hW3 f0 f1
      have HS := hid (Wn.mk (B := P + 1) (l := []) HX.out (World.ownsRow_nil _ _ _ _))
      clear HX
      go_loopw [20] (fun k wr => ∃ (i : Nat) (v : Value) (l : List Ro), k = .int .i64 (i : Int) ∧ i ≤ n ∧ Hid (Wn wr (P + 1) P v l) ∧ Hid (l.Perm (t.rows.take i)) ∧ Hid (HeapF (keyF l) l.length) ∧ Hid (Below P w1 wr)) (fun k _ => n - (intOf k).toNat)
      case atStart => exact ⟨0, _, [], rfl, Nat.zero_le _, HS.out, List.Perm.refl _, fun k hk _ => absurd hk (Nat.not_lt_zero k), HBn.out⟩
      case round =>
        clear HS HBn
        obtain ⟨i, v, l, rfl, hin, HW, HQ, HH, HB⟩ := hrel
        have HLI := hid (show l.length = i by rw [HQ.out.length_eq, List.length_take, HN.out]; omega)
        by_cases hlt : i < n
        case pos =>
          have his : i < t.rows.length := by rw [HN.out]; exact hlt
          obtain ⟨b, o, rfl, hbl, c1, c2⟩ := HR1.out.below (HPW.out ▸ HB.out) i his
          have hi1 : (i : Int) < (n : Int) := by omega
          have hilt : i < 20 := by omega
          have HT := hid (take_snocN his)
          have C := hid (fun wx => cCopiedRow t.rows[i].id t.rows[i].til wx (HZ.out _ (List.getElem_mem his)))
          have HRO := hid (show t.rows[i] = ⟨t.rows[i].id, t.rows[i].til⟩ from rfl)
          obtain ⟨x, hx⟩ : ∃ x, t.rows[i].id = x := ⟨_, rfl⟩
          obtain ⟨y, hy⟩ : ∃ y, t.rows[i].til = y := ⟨_, rfl⟩
          rw [hx] at c1 C HRO
          rw [hy] at c2 C HRO
          rw [HRO.out] at HT
          clear hx hy his HRO
          have HA := hid ((Below.refl wr.heap.size wr).alloc (Nat.le_refl _) (.cells #[.string x, .int .i64 y] 83))
          have HPS := hid (lt_of_heap HW.out.box)
          go_wp2_with fail
          refine (C.out _).mono ?_
          rintro e w5 ⟨rfl, hb5⟩
          have HA5 := hid (bb HA.out hb5)
          have CP := hid (cHPush (P + 1) P v l x y w5 (HW.out.below HA5.out) (Nat.le_trans HPS.out HA5.out.size) (Nat.lt_succ_self P) (by rw [HLI.out]; omega) HH.out)
          clear hb5 C HA
          go_wp2_with fail
          refine CP.out.mono ?_
          rintro e w6 ⟨rfl, v6, l6, hp6, hh6, hw6, hb6⟩
          have HF := hid (And.intro hw6 (And.intro (show l6.Perm (t.rows.take (i + 1)) from by rw [HT.out]; exact hp6.trans (HQ.out.append_right _)) (And.intro hh6 (HB.out.trans ((HA5.out.mono (Nat.le_of_lt HPS.out)).trans hb6)))))
          clear hp6 hh6 hw6 hb6 CP
          go_wp2_with fail
          go_roundw
          case rel => exact ⟨i + 1, v6, l6, by go_num, by omega, HF.out.1, HF.out.2.1, HF.out.2.2.1, HF.out.2.2.2⟩
          case measure => simp [intOf]; omega
        case neg =>
          have hie : i = n := by omega
          have HQ2 := hid (show (sweepR l now).Perm (sweepR t.rows now) from by
            have h1 := HQ.out
            rw [List.take_of_length_le (by rw [HN.out]; omega)] at h1
            exact h1.filter _)
          have HL2 := hid (show l.length ≤ 20 from by rw [HLI.out]; omega)
          clear HQ HLI
          subst hie
          go_wp2_with fail
          obtain ⟨wo, hwo⟩ : ∃ wo : World, wo = wr := ⟨wr, rfl⟩
          subst hwo
          go_loopw [] (fun wr => ∃ (v : Value) (l : List Ro), Hid (Wn wr (P + 1) P v l) ∧ Hid ((sweepR l now).Perm (sweepR t.rows now)) ∧ Hid (HeapF (keyF l) l.length) ∧ Hid (l.length ≤ 20) ∧ Hid (Below P w1 wr)) (fun wr => lenAt P wr)
          case atStart => exact ⟨v, l, HW.out, HQ2.out, HH.out, HL2.out, HB.out⟩
          case round =>
            clear HW HQ2 HH HL2 HB v l
            obtain ⟨v, l, HW, HQ, HH, HL, HB⟩ := hrel
            have HLN := hid (lenAt_wn HW.out)
            by_cases h0 : 0 < l.length
            case neg =>
              have hl0 : l.length = 0 := by omega
              have HSW := hid (root_sweep (now := now) HH.out (fun h => absurd h h0))
              obtain ⟨a7, c7, hv7⟩ := u_own_len HW.out.own
              rw [hl0] at hv7
              subst hv7
              have q0 := u_box1c HW.out.box
              have HPL := hid (show l.Perm (sweepR t.rows now) from by
                have h1 := HQ.out
                rw [HSW.out] at h1
                exact h1)
              have CS := hid (cSort (P + 1) P _ l (sweepR t.rows now) wr HW.out (Nat.lt_succ_self P) HU.out.2 HPL.out (by have := HL.out; omega))
              obtain ⟨n4, hn4⟩ : ∃ n, (sweepR t.rows now).length = n := ⟨_, rfl⟩
              have HN4 := hid hn4
              rw [hn4] at CS
              clear hn4 HQ HSW HPL HLN HH
              go_wp2_with fail
              refine CS.out.mono ?_
              rintro e w8 ⟨rfl, a8, c8, hv8, hb8, ho8, hk8⟩
              have HB8 := hid (HB.out.trans hk8)
              have HO8 := hid ho8
              have HV8 := hid hv8
              rw [hv8] at hb8
              have q8 := u_box1c hb8
              obtain ⟨⟨f0, f1⟩, _⟩ := u_box2f (u_blk_below HM11.out (HPW.out ▸ HB8.out))
              obtain ⟨⟨f2, f3⟩, f6, f7⟩ := u_box2f (u_blk_below HM21.out (HPW.out ▸ HB8.out))
              clear hb8 ho8 hk8 CS hv8 q0
              go_wp2_with fail
              refine bodyPost_ret (v := .agg #[.int .i64 m, .slice a8 n4 c8]) (by simp [results, Tryz.results65, go_sem, f2, f3]) rfl ⟨a8, c8, ?_, ?_, ?_⟩
              · rw [HE.out, HN4.out]
              · rw [HE.out]
                have hBP := HBP.out
                refine ((HO8.out.keep (u_KeepB.of_set (p := fun k => k = B + 1) _ 0 _ rfl) (fun b e => by omega)).keep (u_KeepB.of_set (p := fun k => k = B + 1) _ 1 _ rfl) (fun b e => by omega)).mono (by omega)
              · iterate 2 refine Below.setCell ?_ (show w.heap.size ≤ B + 1 by omega) _
                exact HB1.out.trans (HB8.out.mono (by have := HBP.out; omega))
            case pos =>
              obtain ⟨g, c, rfl, hWt, hBg⟩ := HW.out.wt h0
              have HWT := hid hWt
              obtain ⟨cu, hh, hcu⟩ := hWt.cells h0
              have hc1 := (hcu 0 h0).2
              simp only [Nat.zero_mul, Nat.zero_add] at hc1
              have c1 : wr.cell? ⟨g, 1, none⟩ = some (.int .i64 l[0].til) := by rw [Lib.cell_of_heap hh]; exact hc1
              have q0 := u_box1c HW.out.box
              clear hWt hh hcu hc1 hBg
              obtain ⟨q, hq⟩ : ∃ q, l.length = q + 1 := ⟨l.length - 1, by omega⟩
              obtain ⟨z, hz⟩ : ∃ z, l[0].til = z := ⟨_, rfl⟩
              rw [hz] at c1
              have HZZ := hid hz
              have HLQ := hid hq
              obtain ⟨q1, hq1⟩ : ∃ q1, q + 1 = q1 := ⟨_, rfl⟩
              rw [hq, hq1] at q0
              have HQ1 := hid hq1
              have g1 : (0 : Int) < (q1 : Int) := by omega
              have g2 : 0 < q1 := by omega
              clear hz hq hq1
              by_cases hle : z ≤ now
              case pos =>
                have CPp := hid (cHPop (P + 1) P g c q l wr HWT.out HLQ.out h0 (Nat.lt_succ_self P) (by have := HW.out.own.lt g rfl; omega) (lt_of_heap HW.out.box) (by rw [HLQ.out]; have := HL.out; rw [HLQ.out] at this; omega) HH.out)
                have HPS := hid (fun (m : List Ro) (hp : (m ++ [l[0]]).Perm l) => pop_sweep h0 hp (by rw [HZZ.out]; exact hle) HQ.out)
                have HLL := hid (show q ≤ 20 from by have := HL.out; rw [HLQ.out] at this; omega)
                have HLN2 := hid (show lenAt P wr = q + 1 from HLN.out.trans HLQ.out)
                clear HW HWT HQ HH HL HLN HZZ
                go_wp2_with fail
                refine CPp.out.mono ?_
                rintro e w5 ⟨v5, rfl, l5, hp5, hh5, hl5, hw5, hb5⟩
                have HF := hid (And.intro hw5.wn (And.intro (HPS.out l5 hp5) (And.intro hh5 (And.intro (show l5.length ≤ 20 by rw [hl5]; exact HLL.out) (HB.out.trans hb5)))))
                have HML := hid (show lenAt P w5 = q from (lenAt_wn hw5.wn).trans hl5)
                clear hp5 hh5 hl5 hw5 hb5 CPp c1 q0
                go_wp2_with fail
                go_roundw
                case rel => exact ⟨_, l5, HF.out.1, HF.out.2.1, HF.out.2.2.1, HF.out.2.2.2.1, HF.out.2.2.2.2⟩
                case measure => rw [HML.out, HLN2.out]; omega
              case neg =>
                have HSW := hid (root_sweep (now := now) HH.out (fun h => by rw [HZZ.out]; omega))
                clear HWT HZZ
                have HPL := hid (show l.Perm (sweepR t.rows now) from by
                  have h1 := HQ.out
                  rw [HSW.out] at h1
                  exact h1)
                have CS := hid (cSort (P + 1) P _ l (sweepR t.rows now) wr HW.out (Nat.lt_succ_self P) HU.out.2 HPL.out (by have := HL.out; omega))
                rw [HLQ.out, HQ1.out] at CS
                obtain ⟨n4, hn4⟩ : ∃ n, (sweepR t.rows now).length = n := ⟨_, rfl⟩
                have HN4 := hid hn4
                rw [hn4] at CS
                clear hn4 HQ HSW HPL HLN HH
                go_wp2_with fail
                refine CS.out.mono ?_
                rintro e w8 ⟨rfl, a8, c8, hv8, hb8, ho8, hk8⟩
                have HB8 := hid (HB.out.trans hk8)
                have HO8 := hid ho8
                have HV8 := hid hv8
                rw [hv8] at hb8
                have q8 := u_box1c hb8
                obtain ⟨⟨f0, f1⟩, _⟩ := u_box2f (u_blk_below HM11.out (HPW.out ▸ HB8.out))
                obtain ⟨⟨f2, f3⟩, f6, f7⟩ := u_box2f (u_blk_below HM21.out (HPW.out ▸ HB8.out))
                clear hb8 ho8 hk8 CS hv8 q0
                go_wp2_with fail
                refine bodyPost_ret (v := .agg #[.int .i64 m, .slice a8 n4 c8]) (by simp [results, Tryz.results65, go_sem, f2, f3]) rfl ⟨a8, c8, ?_, ?_, ?_⟩
                · rw [HE.out, HN4.out]
                · rw [HE.out]
                  have hBP := HBP.out
                  refine ((HO8.out.keep (u_KeepB.of_set (p := fun k => k = B + 1) _ 0 _ rfl) (fun b e => by omega)).keep (u_KeepB.of_set (p := fun k => k = B + 1) _ 1 _ rfl) (fun b e => by omega)).mono (by omega)
                · iterate 2 refine Below.setCell ?_ (show w.heap.size ≤ B + 1 by omega) _
                  exact HB1.out.trans (HB8.out.mono (by have := HBP.out; omega))

end Go.Proofs.YtajlgnlifffanaaGreatDoor
