/- Trees cut and put together: contracts of cut, rest, copiedNodes, without, with, treeAsItIs and changedTree of the program. Contract of the program's ClaimTree. Plain mathematics of reading a time: the fields of a text, their numbers, the one time of which a text is made. -/
import Derived.Test.YtcjeodgfpnecgaaGreatDoorM29
import Derived.Test.YtcjeodgfpnecgaaGreatDoorM30
import Derived.Test.YtcjeodgfpnecgaaGreatDoorM25
import Derived.Test.YtcjeodgfpnecgaaGreatDoorM26
import Derived.Test.YtcjeodgfpnecgaaGreatDoorM20
namespace Go.Proofs.YtcjeodgfpnecgaaGreatDoor
open Go.RowKit
set_option linter.unusedVariables false
set_option linter.unusedSimpArgs false

theorem shK_same (t : Tk) : shK t.kind t = t := rfl

theorem mvT_shK (k b : Int) (t : Tk) : mvT k b t = shK (if k ≤ t.kind then t.kind + b else t.kind) t := by
  unfold mvT
  split
  · rfl
  · rfl

theorem mvL_zero (ts : List Tk) : mvL 0 0 ts = ts := by
  unfold mvL
  refine (List.map_congr_left (g := id) fun t _ => ?_).trans (List.map_id _)
  rw [mvT_shK]
  split
  · show shK (t.kind + 0) t = t
    rw [Int.add_zero]
    rfl
  · rfl

/-- Nodes from there on, each by itself. -/
theorem seg_map {f : Nat → Tk → Int} {g : Tk → Tk} {ts : List Tk} {s : Nat} : ∀ m, s + m ≤ ts.length → (∀ j (h : j < ts.length), s ≤ j → j < s + m → g ts[j] = shK (f j ts[j]) ts[j]) → segN f ts s m = ((ts.drop s).take m).map g
  | 0, _, _ => by simp [segN]
  | m + 1, h, hg => by
    have hl : s + m < ts.length := by omega
    have hd : m < (ts.drop s).length := by rw [List.length_drop]; omega
    rw [segN_next (List.getElem?_eq_getElem hl), seg_map m (by omega) (fun j hj h1 h2 => hg j hj h1 (by omega)), take_snocN hd, List.map_append]
    simp only [List.map_cons, List.map_nil, List.getElem_drop]
    rw [hg (s + m) hl (by omega) (by omega)]

theorem mv_seg {k b : Int} {ts : List Tk} {s m : Nat} (h : s + m ≤ ts.length) : mvL k b ((ts.drop s).take m) = segN (fun _ t => if k ≤ t.kind then t.kind + b else t.kind) ts s m :=
  (seg_map m h (fun j hj _ _ => mvT_shK k b ts[j])).symm

theorem mvL_sz {k b : Int} {ts : List Tk} {z : Nat} (h : TksSz z ts) : TksSz z (mvL k b ts) := by
  intro t ht
  obtain ⟨u, hu, rfl⟩ := List.mem_map.1 ht
  rw [mvT_shK]
  exact h u hu

theorem sz_drop {ts : List Tk} {z : Nat} (h : TksSz z ts) (n : Nat) : TksSz z (ts.drop n) := fun t ht => h t (List.mem_of_mem_drop ht)

theorem sl_cut (b o L cap f t : Nat) (h : f ≤ t) (ht : t ≤ cap) (W : World) : (Instr.slice 26 (.slice (some ⟨b, o, none⟩) L cap) (some (.int .i64 f)) (some (.int .i64 t)) (some (.int .i64 t))).run Tryz.prog W = .ok (.slice (some (if t = f then ⟨b, o, none⟩ else ⟨b, o + f * 4, none⟩)) (t - f) (t - f)) W := by
  have h' : (f : Int) ≤ t := by omega
  have h2 : (t : Int) ≤ cap := by omega
  go_simp
  by_cases e : t = f <;> simp [e, Addr.add]

theorem tk_piece {w : World} {b o f t : Nat} {ts : List Tk} (h : TkRow w (some ⟨b, o, none⟩) ts) : TkRow w (some (if t = f then ⟨b, o, none⟩ else ⟨b, o + f * 4, none⟩)) ((ts.drop f).take (t - f)) := by
  split
  · intro j hj
    rw [List.length_take] at hj
    omega
  · exact tk_take (tk_drop h f) _

set_option maxHeartbeats 2000000 in
theorem cCut (b o L cap f t : Nat) (h : f ≤ t) (ht : t ≤ cap) (w : World) : Calls Tryz.prog 71 #[.slice (some ⟨b, o, none⟩) L cap, .int .i64 (f : Int), .int .i64 (t : Int)] w fun e w' => e = .returned (.slice (some (if t = f then ⟨b, o, none⟩ else ⟨b, o + f * 4, none⟩)) (t - f) (t - f)) ∧ w' = w := by
  have hs := sl_cut b o L cap f t h ht
  generalize (if t = f then (⟨b, o, none⟩ : Addr) else ⟨b, o + f * 4, none⟩) = A at *
  go_enter Tryz.func71, Tryz.ntmps71
  go_wp2_with fail
  go_ret
  exact ⟨rfl, rfl⟩

set_option maxHeartbeats 2000000 in
theorem cRest (b o L cap f : Nat) (h : f ≤ L) (ht : L ≤ cap) (hL : L ≤ 1048576) (w : World) : Calls Tryz.prog 72 #[.slice (some ⟨b, o, none⟩) L cap, .int .i64 (f : Int)] w fun e w' => e = .returned (.slice (some (if L = f then ⟨b, o, none⟩ else ⟨b, o + f * 4, none⟩)) (L - f) (L - f)) ∧ w' = w := by
  have C := hid (cCut b o L cap f L h ht w)
  generalize (if L = f then (⟨b, o, none⟩ : Addr) else ⟨b, o + f * 4, none⟩) = A at *
  go_enter Tryz.func72, Tryz.ntmps72
  go_wp2_with fail
  refine C.out.mono ?_
  rintro e w1 ⟨rfl, rfl⟩
  go_wp2_with fail
  go_ret
  exact ⟨rfl, rfl⟩

set_option maxHeartbeats 2000000 in
theorem cCopied (a : Option Addr) (cap : Nat) (ts : List Tk) (w : World) (hR : TkRow w a ts) (hn : ts.length ≤ 1048576) (hz : TksSz 1048576 ts) (hk : ∀ t ∈ ts, t.kind ≤ 9223372036854775807) :
    Calls Tryz.prog 51 #[.slice a ts.length cap] w fun e w' => ∃ c, e = .returned (.slice (some ⟨w.heap.size, 0, none⟩) ts.length c) ∧ RowOf w w' (.slice (some ⟨w.heap.size, 0, none⟩) ts.length c) ts := by
  have C := hid (cMoved a cap ts 0 0 w hR hn hz (fun t ht h0 => by have := hk t ht; omega))
  rw [mvL_zero] at C
  clear hR hz hk
  generalize ts.length = n at *
  go_enter Tryz.func51, Tryz.ntmps51
  go_wp2_with fail
  refine C.out.mono ?_
  rintro e w1 ⟨c, rfl, hr⟩
  have HR := hid hr
  clear hr C
  go_wp2_with fail
  go_ret
  exact ⟨c, rfl, HR.out⟩

/-- Small Parents. -/
def KSm (ts : List Tk) : Prop := ∀ t ∈ ts, -1 ≤ t.kind ∧ t.kind ≤ 1000

theorem KSm.tree {ts : List Tk} (h : TreeP ts) : KSm ts := by
  intro t ht
  obtain ⟨i, hi, rfl⟩ := List.getElem_of_mem ht
  have := tree_kind h (List.getElem?_eq_getElem hi)
  omega

theorem KSm.take {ts : List Tk} (h : KSm ts) (n : Nat) : KSm (ts.take n) := fun t ht => h t (List.mem_of_mem_take ht)

theorem KSm.drop {ts : List Tk} (h : KSm ts) (n : Nat) : KSm (ts.drop n) := fun t ht => h t (List.mem_of_mem_drop ht)

/-- Two rows, the second made behind the first, put together. -/
theorem cConcat2 {w w2 w4 : World} {v1 v2 : Value} {L1 L2 : List Tk} (h1 : RowOf w w2 v1 L1) (h2 : RowOf w2 w4 v2 L2) (hn : L1.length + L2.length ≤ 1048576) :
    Calls Tryz.prog 70 #[.slice (some ⟨w4.heap.size, 0, none⟩) 2 2] (w4.alloc (.cells #[v1, v2] 26)) fun e w' => ∃ v, e = .returned v ∧ RowOf w w' v (L1 ++ L2) := by
  obtain ⟨es, a1, c1, rfl, hr1, hm1, hl1⟩ := h1.open
  obtain ⟨fs, a2, c2, rfl, hr2, hm2, hl2⟩ := h2.open
  have hA := (Below.refl w4.heap.size w4).alloc (Nat.le_refl _) (.cells #[.slice a1 es.length c1, .slice a2 fs.length c2] 26)
  have hB := bb (bb h1.bel h2.bel) hA
  have hR : RowsIn (w4.alloc (.cells #[.slice a1 es.length c1, .slice a2 fs.length c2] 26)) w.heap.size [⟨a1, c1, es⟩, ⟨a2, c2, fs⟩] := by
    refine ⟨fun r hr => ?_, fun i j hi hj hij e he f hf => ?_⟩
    · simp only [List.mem_cons, List.not_mem_nil, or_false] at hr
      rcases hr with rfl | rfl
      · exact (hr1.below h2.bel).below hA
      · exact (hr2.mono h1.bel.size).below hA
    · match i, j, hi, hj, hij with
      | 0, 1, _, _, _ => exact (hr1.apart_later hr2 (Nat.le_refl _)).1 e he f hf
      | 0, j + 2, _, hj, _ => simp at hj; omega
      | i + 1, j + 2, _, hj, _ => simp at hj; omega
  have hF : flatR [⟨a1, c1, es⟩, ⟨a2, c2, fs⟩] = es ++ fs := by simp [flatR]
  refine (cConcat w.heap.size w4.heap.size [⟨a1, c1, es⟩, ⟨a2, c2, fs⟩] _ hB.size (heap_alloc_new _ _) hR (by simp) (by rw [hF, List.length_append]; omega)).mono ?_
  rintro e w' ⟨v, rfl, hr, hb⟩
  rw [hF] at hr
  obtain ⟨a', c', rfl⟩ := hr.slice
  exact ⟨_, rfl, ⟨_, a', c', rfl, hr, by rw [List.map_append, hm1, hm2]⟩, bb hB hb⟩

/-- Three rows, the one in the middle made ahead of the others. -/
theorem cConcat3 {w0 w w2 w4 : World} {v1 v2 v3 : Value} {L1 L2 L3 : List Tk} (h2 : RowOf w0 w v2 L2) (h1 : RowOf w w2 v1 L1) (h3 : RowOf w2 w4 v3 L3) (hn : L1.length + L2.length + L3.length ≤ 1048576) :
    Calls Tryz.prog 70 #[.slice (some ⟨w4.heap.size, 0, none⟩) 3 3] (w4.alloc (.cells #[v1, v2, v3] 26)) fun e w' => ∃ v, e = .returned v ∧ RowOf w0 w' v (L1 ++ L2 ++ L3) := by
  obtain ⟨es, a1, c1, rfl, hr1, hm1, hl1⟩ := h1.open
  obtain ⟨fs, a2, c2, rfl, hr2, hm2, hl2⟩ := h2.open
  obtain ⟨gs, a3, c3, rfl, hr3, hm3, hl3⟩ := h3.open
  have hA := (Below.refl w4.heap.size w4).alloc (Nat.le_refl _) (.cells #[.slice a1 es.length c1, .slice a2 fs.length c2, .slice a3 gs.length c3] 26)
  have hB4 := bb (bb h2.bel h1.bel) h3.bel
  have hB := bb hB4 hA
  have sym : ∀ e f : Nd.E, Nd.Apart e f → Nd.Apart f e := fun e f h hl hl' g o g' o' e1 e2 e3 => h hl' hl g' o' g o e2 e1 e3.symm
  have hR : RowsIn (w4.alloc (.cells #[.slice a1 es.length c1, .slice a2 fs.length c2, .slice a3 gs.length c3] 26)) w0.heap.size [⟨a1, c1, es⟩, ⟨a2, c2, fs⟩, ⟨a3, c3, gs⟩] := by
    refine ⟨fun r hr => ?_, fun i j hi hj hij e he f hf => ?_⟩
    · simp only [List.mem_cons, List.not_mem_nil, or_false] at hr
      rcases hr with rfl | rfl | rfl
      · exact ((hr1.mono h2.bel.size).below h3.bel).below hA
      · exact ((hr2.below h1.bel).below h3.bel).below hA
      · exact (hr3.mono (Nat.le_trans h2.bel.size h1.bel.size)).below hA
    · match i, j, hi, hj, hij with
      | 0, 1, _, _, _ => exact sym _ _ ((hr2.apart_later hr1 (Nat.le_refl _)).1 f hf e he)
      | 0, 2, _, _, _ => exact (hr1.apart_later hr3 (Nat.le_refl _)).1 e he f hf
      | 1, 2, _, _, _ => exact ((hr2.below h1.bel).apart_later hr3 (Nat.le_refl _)).1 e he f hf
      | i, j + 3, _, hj, _ => simp at hj; omega
      | i + 2, 2, _, _, h => omega
  have hF : flatR [⟨a1, c1, es⟩, ⟨a2, c2, fs⟩, ⟨a3, c3, gs⟩] = es ++ fs ++ gs := by simp [flatR]
  refine (cConcat w0.heap.size w4.heap.size [⟨a1, c1, es⟩, ⟨a2, c2, fs⟩, ⟨a3, c3, gs⟩] _ hB.size (heap_alloc_new _ _) hR (by simp) (by rw [hF, List.length_append, List.length_append]; omega)).mono ?_
  rintro e w' ⟨v, rfl, hr, hb⟩
  rw [hF] at hr
  obtain ⟨a', c', rfl⟩ := hr.slice
  exact ⟨_, rfl, ⟨_, a', c', rfl, hr, by rw [List.map_append, List.map_append, hm1, hm2, hm3]⟩, bb hB hb⟩

set_option maxRecDepth 4000 in
set_option maxHeartbeats 4000000 in
theorem cWith (w0 : World) (b o cap : Nat) (ts : List Tk) (f : Nat) (v2 : Value) (L2 : List Tk) (w : World) (h2 : RowOf w0 w v2 L2) (hR : TkRow w (some ⟨b, o, none⟩) ts) (hc : ts.length ≤ cap) (hf : f ≤ ts.length) (hn : ts.length ≤ 1000) (hl2 : L2.length ≤ 1000) (hz : TksSz 1048576 ts) (hk : KSm ts) :
    Calls Tryz.prog 46 #[.slice (some ⟨b, o, none⟩) ts.length cap, .int .i64 (f : Int), v2] w fun e w' => ∃ v, e = .returned v ∧ RowOf w0 w' v (ts.take f ++ L2 ++ mvL f (L2.length : Int) (ts.drop f)) := by
  have HP1 := hid (show TkRow w (some (if f = 0 then ⟨b, o, none⟩ else ⟨b, o + 0 * 4, none⟩)) (ts.take f) by
    have h := tk_piece (f := 0) (t := f) hR
    rw [Nat.sub_zero, List.drop_zero] at h
    exact h)
  have HP2 := hid (show TkRow w (some (if ts.length = f then ⟨b, o, none⟩ else ⟨b, o + f * 4, none⟩)) (ts.drop f) by
    have h := tk_piece (f := f) (t := ts.length) hR
    rw [List.take_of_length_le (by rw [List.length_drop]; exact Nat.le_refl _)] at h
    exact h)
  have CC := hid (cCut b o ts.length cap 0 f (Nat.zero_le _) (by omega) w)
  rw [Nat.sub_zero] at CC
  have CR := hid (fun wx => cRest b o ts.length cap f hf hc (by omega) wx)
  have hl1 : (ts.take f).length = f := by rw [List.length_take]; omega
  have hl3 : (ts.drop f).length = ts.length - f := List.length_drop ..
  have CP := hid (fun (a : Option Addr) wx (h : TkRow wx a (ts.take f)) => cCopied a f (ts.take f) wx h (by omega) (sz_take hz f) (fun u hu => by have := (hk.take f) u hu; omega))
  have CM := hid (fun (a : Option Addr) wx (h : TkRow wx a (ts.drop f)) => cMoved a (ts.length - f) (ts.drop f) (f : Int) (L2.length : Int) wx h (by omega) (sz_drop hz f) (fun u hu _ => by have := (hk.drop f) u hu; omega))
  rw [hl1] at CP
  rw [hl3] at CM
  have HL := hid (show (ts.take f).length + L2.length + (mvL f (L2.length : Int) (ts.drop f)).length ≤ 1048576 by rw [mvL_len, hl1, hl3]; omega)
  obtain ⟨es, a2, c2, hv2, _, _, hle⟩ := h2.open
  rw [hle] at hv2
  subst hv2
  have H2 := hid h2
  generalize (if f = 0 then (⟨b, o, none⟩ : Addr) else ⟨b, o + 0 * 4, none⟩) = A1 at *
  generalize (if ts.length = f then (⟨b, o, none⟩ : Addr) else ⟨b, o + f * 4, none⟩) = A2 at *
  clear hz hk hl1 hl3 hR h2 hle
  generalize mvL f (L2.length : Int) (ts.drop f) = L3 at *
  generalize ts.take f = L1 at *
  generalize ts.drop f = D3 at *
  obtain ⟨n2, hn2⟩ : ∃ n2, L2.length = n2 := ⟨_, rfl⟩
  have HN2 := hid hn2
  rw [hn2] at CM hl2 H2 ⊢
  clear hn2
  generalize ts.length = n at *
  go_enter Tryz.func46, Tryz.ntmps46
  go_wp2_with fail
  refine CC.out.mono ?_
  rintro e w1 ⟨rfl, e1⟩
  subst e1
  go_wp2_with fail
  refine (CP.out _ _ HP1.out).mono ?_
  rintro e w2 ⟨c3, rfl, hr2⟩
  have HR2 := hid hr2
  have HP3 := hid (HP2.out.below hr2.bel)
  clear hr2 CC HP1 HP2 CP
  go_wp2_with fail
  refine (CR.out _).mono ?_
  rintro e w3 ⟨rfl, e3⟩
  subst e3
  go_wp2_with fail
  refine (CM.out _ _ HP3.out).mono ?_
  rintro e w4 ⟨c4, rfl, hr4⟩
  have HR4 := hid hr4
  have CK := hid (cConcat3 H2.out HR2.out HR4.out HL.out)
  clear hr4 CR CM HP3 HR2 HR4 HL
  go_wp2_with fail
  refine CK.out.mono ?_
  rintro e w5 ⟨v5, rfl, hr5⟩
  have HR5 := hid hr5
  clear hr5 CK
  go_wp2_with fail
  go_ret
  exact ⟨_, rfl, HR5.out⟩

/-- As it is, and refused; nothing, where it is no tree. -/
noncomputable def asIs (ts : List Tk) : List Tk := if treeB ts then ts else []

set_option maxHeartbeats 2000000 in
theorem cAsIs (a : Option Addr) (cap : Nat) (ts : List Tk) (w : World) (hR : TkRow w a ts) (hn : ts.length ≤ 1048576) (hz : TksSz 1048576 ts) :
    Calls Tryz.prog 42 #[.slice a ts.length cap] w (TreeAns w (asIs ts) false) := by
  have C := hid (cTreeOkI a cap ts w hR hn hz)
  have HR := hid hR
  cases hT : treeB ts with
  | false =>
    have HE := hid (show asIs ts = [] by unfold asIs; rw [hT]; rfl)
    rw [HE.out]
    rw [hT] at C
    clear hT HE hR hz HR
    generalize ts.length = n at *
    go_enter Tryz.func42, Tryz.ntmps42
    go_wp2_with fail
    refine C.out.mono ?_
    rintro e w1 ⟨rfl, hb1⟩
    have HB1 := hid hb1
    clear hb1 C
    go_wp2_with fail
    go_ret2
    exact ⟨_, rfl, ⟨[], none, 0, rfl, Nd.Row.start0 _ _, rfl⟩, HB1.out⟩
  | true =>
    have HE := hid (show asIs ts = ts by unfold asIs; rw [hT]; rfl)
    rw [HE.out]
    rw [hT] at C
    have hT2 : TreeP ts := by unfold treeB at hT; simpa using hT
    have CC := hid (fun wx (h : TkRow wx a ts) => cCopied a cap ts wx h hn hz (fun u hu => by have := (KSm.tree hT2) u hu; omega))
    clear hT HE hR hz hT2
    generalize ts.length = n at *
    go_enter Tryz.func42, Tryz.ntmps42
    go_wp2_with fail
    refine C.out.mono ?_
    rintro e w1 ⟨rfl, hb1⟩
    have HB1 := hid hb1
    have HR1 := hid (HR.out.below hb1)
    clear hb1 C HR
    go_wp2_with fail
    refine (CC.out _ HR1.out).mono ?_
    rintro e w2 ⟨c2, rfl, hr2⟩
    have HR2 := hid (RowOf.later HB1.out hr2)
    clear hr2
    go_wp2_with fail
    go_ret2
    exact ⟨_, rfl, HR2.out⟩

set_option maxHeartbeats 2000000 in
theorem cChanged (w0 : World) (a : Option Addr) (cap : Nat) (ts : List Tk) (v2 : Value) (L2 : List Tk) (w : World) (h2 : RowOf w0 w v2 L2) (hR : TkRow w a ts) (hn : ts.length ≤ 1048576) (hz : TksSz 1048576 ts) (hn2 : L2.length ≤ 1048576) (hz2 : TksSz 1048576 L2) :
    Calls Tryz.prog 45 #[.slice a ts.length cap, v2] w (TreeAns w0 (if treeB L2 then L2 else asIs ts) (treeB L2)) := by
  have H2 := hid h2
  obtain ⟨a2, c2, hv2, ht2⟩ := h2.tk
  subst hv2
  have C := hid (cTreeOkI a2 c2 L2 w ht2 hn2 hz2)
  have CA := hid (fun wx (hb : Below w.heap.size w wx) => cAsIs a cap ts wx (hR.below hb) hn hz)
  clear h2 ht2 hz hz2 hR hn2
  cases hT : treeB L2 with
  | false =>
    rw [if_neg Bool.false_ne_true]
    rw [hT] at C
    clear hT
    generalize asIs ts = R at *
    generalize L2.length = n2 at *
    generalize ts.length = n at *
    go_enter Tryz.func45, Tryz.ntmps45
    go_wp2_with fail
    refine C.out.mono ?_
    rintro e w1 ⟨rfl, hb1⟩
    have HB1 := hid (bb H2.out.bel hb1)
    have CA1 := hid (CA.out _ hb1)
    clear hb1 C CA
    go_wp2_with fail
    refine CA1.out.mono ?_
    rintro e w3 ⟨v3, rfl, hr3⟩
    have HR3 := hid (RowOf.later HB1.out hr3)
    clear hr3
    go_wp2_with fail
    go_ret2
    exact ⟨_, rfl, HR3.out⟩
  | true =>
    rw [if_pos rfl]
    rw [hT] at C
    clear hT CA
    generalize L2.length = n2 at *
    generalize ts.length = n at *
    go_enter Tryz.func45, Tryz.ntmps45
    go_wp2_with fail
    refine C.out.mono ?_
    rintro e w1 ⟨rfl, hb1⟩
    have HR3 := hid (H2.out.below hb1)
    clear hb1 C
    go_wp2_with fail
    go_ret2
    exact ⟨_, rfl, HR3.out⟩

end Go.Proofs.YtcjeodgfpnecgaaGreatDoor

namespace Go.Proofs.YtcjeodgfpnecgaaGreatDoor
open Go.RowKit
set_option linter.unusedVariables false
set_option linter.unusedSimpArgs false

/-- The table, apart from the row that is being made. -/
structure KindsV (w : World) (v : Value) (B g b0 b1 b3 b4 : Nat) : Prop where
  ks : Kinds w B g b0 b1 b3 b4
  ng : ¬ v.ownBlock = some g
  n0 : ¬ v.ownBlock = some b0
  n1 : ¬ v.ownBlock = some b1
  n3 : ¬ v.ownBlock = some b3
  n4 : ¬ v.ownBlock = some b4

theorem KindsV.kept {w w' : World} {v v' : Value} {B g b0 b1 b3 b4 : Nat} (h : KindsV w v B g b0 b1 b3 b4) (k : Kept v w v' w') : KindsV w' v' B g b0 b1 b3 b4 :=
  ⟨⟨h.ks.gB, h.ks.B0, h.ks.B1, h.ks.B3, h.ks.B4, (k _ _ h.ks.tab h.ng).1, (k _ _ h.ks.v0 h.n0).1, (k _ _ h.ks.v1 h.n1).1, (k _ _ h.ks.v3 h.n3).1, (k _ _ h.ks.v4 h.n4).1⟩, (k _ _ h.ks.tab h.ng).2, (k _ _ h.ks.v0 h.n0).2, (k _ _ h.ks.v1 h.n1).2, (k _ _ h.ks.v3 h.n3).2, (k _ _ h.ks.v4 h.n4).2⟩

/-- Sayings, apart from the row that is being made. -/
def SayK (w : World) (v : Value) (a : Option Addr) (l : List Say) : Prop := 0 < l.length → ∃ b cu, a = some ⟨b, 0, none⟩ ∧ w.heap[b]? = some (.cells cu 85 (0, 0)) ∧ (¬ v.ownBlock = some b) ∧ ∀ j (h : j < l.length), ∃ aj cj, cu[j * 2]? = some (.slice aj l[j].attrs.length cj) ∧ cu[j * 2 + 1]? = some (.string l[j].text) ∧ KAts w v aj l[j].attrs

theorem SayK.kept {w w' : World} {v v' : Value} {a : Option Addr} {l : List Say} (h : SayK w v a l) (k : Kept v w v' w') : SayK w' v' a l := fun hl => by
  obtain ⟨b, cu, e1, e2, e3, e4⟩ := h hl
  refine ⟨b, cu, e1, (k _ _ e2 e3).1, (k _ _ e2 e3).2, fun j hj => ?_⟩
  obtain ⟨aj, cj, f1, f2, f3⟩ := e4 j hj
  exact ⟨aj, cj, f1, f2, f3.kept k⟩

theorem SayK.of {w w0 : World} {B : Nat} {v : Value} {L : List Tk} {a : Option Addr} {l : List Say} (hr : KRow B w0 v L) (h : SayR w w0.heap.size a l) : SayK w v a l := fun hl => by
  obtain ⟨b, cu, e1, e0, e2, e3⟩ := h hl
  refine ⟨b, cu, e1, e2, hr.other (.inl e0), fun j hj => ?_⟩
  obtain ⟨aj, cj, f1, f2, f3⟩ := e3 j hj
  refine ⟨aj, cj, f1, f2, fun hl => ?_⟩
  obtain ⟨g, o, cu', k1, k2, k3, k4⟩ := f3 hl
  exact ⟨g, o, cu', k1, k3, k4, hr.other (.inl k2)⟩

theorem cName_kid : ∀ k, k < 6 → cName (localN k) = kidN k
  | 0, _ => rfl
  | 1, _ => rfl
  | 2, _ => rfl
  | 3, _ => rfl
  | 4, _ => rfl
  | 5, _ => rfl

theorem localN_sz : ∀ k, (localN k).size ≤ 1000
  | 0 => by decide
  | 1 => by decide
  | 2 => by decide
  | 3 => by decide
  | 4 => by decide
  | k + 5 => by show (4 : Nat) ≤ 1000; decide

/-- The first node, alone. -/
theorem krow_head {B : Nat} {W : World} {c : Cm} {g g2 : Nat} (hb : B ≤ W.heap.size) (hg : B ≤ g) (hg2 : B ≤ g2) (hne : ¬ g2 = g) (h1 : W.heap[g]? = some (.cells #[.string nsCS, .string claimS, .string idS, .string c.id] 58 (0, 0)))
    (h2 : W.heap[g2]? = some (.cells #[.int .i64 (-1), .string cClaimS, .slice (some ⟨g, 0, none⟩) 2 2, .string nE] 44 (0, 0))) : KRow B W (.slice (some ⟨g2, 0, none⟩) 1 1) [headT c] :=
  ⟨⟨[⟨headT c, some ⟨g, 0, none⟩, 2⟩], (Nd.Row.one (e := ⟨headT c, some ⟨g, 0, none⟩, 2⟩) hg2 h2 (own_of hg h1 (cells_two _ _ _ _)) (fun g' o h e => by cases e; exact fun e2 => hne e2.symm)).own, rfl, fun e he => by
    rw [List.mem_singleton] at he
    subst he
    exact kats_of h1 (cells_two _ _ _ _) (fun e2 => hne (Option.some.inj e2))⟩, hb⟩

/-- What the tree is made of is short. -/
theorem addN_all {P : Tk → Prop} {L : List Tk} {name : ByteArray} {x : Say} (h : ∀ t ∈ L, P t) (h1 : P ⟨0, name, x.attrs, nE⟩) (h2 : P ⟨(L.length : Int), nE, [], x.text⟩) : ∀ t ∈ addN L name x, P t := by
  unfold addN
  split
  · intro t ht
    rcases List.mem_append.1 ht with h' | h'
    · exact h t h'
    · rw [List.mem_singleton] at h'
      subst h'
      exact h1
  · intro t ht
    rcases List.mem_append.1 ht with h' | h'
    · rcases List.mem_append.1 h' with h' | h'
      · exact h t h'
      · rw [List.mem_singleton] at h'
        subst h'
        exact h1
    · rw [List.mem_singleton] at h'
      subst h'
      exact h2

def TkOk (m : Nat) (t : Tk) : Prop := TkSz m t ∧ t.kind ≤ (m : Int)

theorem addAll_all {m : Nat} {name : ByteArray} (hn : name.size ≤ m) : ∀ (l : List Say) (L : List Tk), (∀ t ∈ L, TkOk m t) → L.length + 2 * l.length ≤ m → (∀ x ∈ l, x.text.size ≤ m ∧ x.attrs.length ≤ m ∧ AtSz m x.attrs) → ∀ t ∈ addAll L name l, TkOk m t
  | [], L, h, _, _ => h
  | x :: l, L, h, hl, hx => by
    have hq := addN_len L name x
    have hx1 := hx x (by simp)
    show ∀ t ∈ addAll (addN L name x) name l, TkOk m t
    refine addAll_all hn l _ (addN_all h ⟨⟨hn, hx1.2.1, hx1.2.2, Nat.zero_le _⟩, by show (0 : Int) ≤ m; omega⟩ ⟨⟨Nat.zero_le _, Nat.zero_le _, fun y hy => absurd hy List.not_mem_nil, hx1.1⟩, ?_⟩) ?_ (fun y hy => hx y (by simp [hy]))
    · show (L.length : Int) ≤ m
      simp only [List.length_cons] at hl
      omega
    · simp only [List.length_cons] at hl
      omega

theorem kidN_sz : ∀ k, (kidN k).size ≤ 1048576
  | 0 => by decide
  | 1 => by decide
  | 2 => by decide
  | 3 => by decide
  | 4 => by decide
  | k + 5 => by show (6 : Nat) ≤ 1048576; decide

theorem txtL_all {s : ByteArray} (h : s.size ≤ 1048576) : ∀ x ∈ txtL s, x.text.size ≤ 1048576 ∧ x.attrs.length ≤ 1048576 ∧ AtSz 1048576 x.attrs := by
  unfold txtL
  split
  · exact fun x hx => absurd hx List.not_mem_nil
  · intro x hx
    rw [List.mem_singleton] at hx
    subst hx
    exact ⟨h, Nat.zero_le _, fun y hy => absurd hy List.not_mem_nil⟩

theorem saysL_all {c : Cm} (hz : CmSz 1048576 c) {u v : ByteArray} (hu : u.size ≤ 1048576) (hv : v.size ≤ 1048576) (k : Nat) : ∀ x ∈ saysL c u v k, x.text.size ≤ 1048576 ∧ x.attrs.length ≤ 1048576 ∧ AtSz 1048576 x.attrs := by
  obtain ⟨z1, z2, z3, z4, z5, z6, z7⟩ := hz
  match k with
  | 0 => exact txtL_all z2
  | 1 => exact txtL_all z3
  | 2 =>
    intro x hx
    have hx' : x = ⟨[⟨fromS, u⟩, ⟨toS, v⟩], nE⟩ := List.mem_singleton.1 hx
    subst hx'
    refine ⟨Nat.zero_le _, by show (2 : Nat) ≤ _; decide, fun y hy => ?_⟩
    have hy' : y = ⟨fromS, u⟩ ∨ y = ⟨toS, v⟩ := by simpa using hy
    rcases hy' with rfl | rfl
    · exact ⟨by show (4 : Nat) ≤ _; decide, hu⟩
    · exact ⟨by show (2 : Nat) ≤ _; decide, hv⟩
  | 3 => exact txtL_all z4
  | 4 => exact txtL_all z5
  | k + 5 =>
    intro x hx
    have hx' : x ∈ factL c.facts := hx
    unfold factL at hx'
    obtain ⟨f, hf, rfl⟩ := List.mem_map.1 hx'
    refine ⟨(z7 f hf).2, by show (1 : Nat) ≤ _; decide, fun y hy => ?_⟩
    have hy' : y = ⟨nameS, f.name⟩ := by simpa using hy
    subst hy'
    exact ⟨by show (4 : Nat) ≤ _; decide, (z7 f hf).1⟩

theorem treeTo_all {c : Cm} (hz : CmSz 1048576 c) (h4 : c.facts.length ≤ 1000) {u v : ByteArray} (hu : u.size ≤ 1048576) (hv : v.size ≤ 1048576) : ∀ k, k ≤ 6 → ∀ t ∈ treeTo c u v k, TkOk 1048576 t
  | 0, _ => fun t ht => by
    have ht' : t = headT c := List.mem_singleton.1 ht
    subst ht'
    refine ⟨⟨by show (7 : Nat) ≤ _; decide, by show (2 : Nat) ≤ _; decide, fun y hy => ?_, Nat.zero_le _⟩, by show (-1 : Int) ≤ _; omega⟩
    have hy' : y = ⟨nsCS, claimS⟩ ∨ y = ⟨idS, c.id⟩ := by simpa [headT] using hy
    rcases hy' with rfl | rfl
    · exact ⟨by show (4 : Nat) ≤ _; decide, by show (5 : Nat) ≤ _; decide⟩
    · exact ⟨by show (2 : Nat) ≤ _; decide, hz.1⟩
  | k + 1, hk => by
    have h1 := treeTo_len c u v h4 k
    have h2 := saysL_len c u v k h4
    exact addAll_all (kidN_sz k) _ _ (treeTo_all hz h4 hu hv k (by omega)) (by omega) (saysL_all hz hu hv k)

end Go.Proofs.YtcjeodgfpnecgaaGreatDoor

namespace Go.Proofs.YtcjeodgfpnecgaaGreatDoor

def isDig (c : UInt8) : Bool := decide (48 ≤ c.toNat) && decide (c.toNat ≤ 57)

def valD (l : List UInt8) : Nat := l.foldl (fun n c => 10 * n + (c.toNat - 48)) 0

/-- The number that digits tell; -1 of others. -/
def rdI (l : List UInt8) : Int := if l.all isDig = true then (valD l : Int) else -1

theorem valD_snoc (l : List UInt8) (c : UInt8) : valD (l ++ [c]) = 10 * valD l + (c.toNat - 48) := by
  unfold valD
  rw [List.foldl_append]
  rfl

theorem fold_lt : ∀ (l : List UInt8) (n : Nat), l.all isDig = true → l.foldl (fun n c => 10 * n + (c.toNat - 48)) n < (n + 1) * 10 ^ l.length
  | [], n, _ => by simp
  | c :: l, n, h => by
    simp only [List.all_cons, Bool.and_eq_true] at h
    have hc : c.toNat - 48 ≤ 9 := by
      have := h.1
      unfold isDig at this
      simp at this
      omega
    have ih := fold_lt l (10 * n + (c.toNat - 48)) h.2
    rw [List.foldl_cons, List.length_cons, Nat.pow_succ]
    have : (10 * n + (c.toNat - 48) + 1) * 10 ^ l.length ≤ (10 * n + 10) * 10 ^ l.length := Nat.mul_le_mul_right _ (by omega)
    have e : (n + 1) * (10 ^ l.length * 10) = (10 * n + 10) * 10 ^ l.length := by
      rw [Nat.mul_comm (10 ^ l.length) 10, ← Nat.mul_assoc]
      congr 1
      omega
    omega

theorem valD_lt (l : List UInt8) (h : l.all isDig = true) : valD l < 10 ^ l.length := by
  have := fold_lt l 0 h
  unfold valD
  simpa using this

theorem rdI_bounds (l : List UInt8) : -1 ≤ rdI l ∧ rdI l < 10 ^ l.length := by
  unfold rdI
  split
  · rename_i h
    have := valD_lt l h
    refine ⟨by omega, ?_⟩
    exact_mod_cast this
  · have : (0 : Int) < 10 ^ l.length := Int.pow_pos (by decide)
    omega

theorem dig_dgt {n : Nat} (h : n < 10) : isDig (dgt n) = true := by
  unfold isDig
  rw [dgt_toNat n h]
  simp
  omega

theorem rdI_two {n : Nat} (h : n < 100) : rdI (two n) = n := by
  have h1 : n / 10 < 10 := by omega
  have h2 : n % 10 < 10 := by omega
  unfold rdI
  rw [if_pos (by simp only [two, List.all_cons, List.all_nil, dig_dgt h1, dig_dgt h2]; rfl)]
  simp only [valD, two, List.foldl_cons, List.foldl_nil, dgt_toNat _ h1, dgt_toNat _ h2]
  omega

theorem rdI_year {k : Nat} (h : k < 100) : rdI ([50, 48] ++ two k) = 2000 + k := by
  have h1 : k / 10 < 10 := by omega
  have h2 : k % 10 < 10 := by omega
  have a : isDig 50 = true := by decide
  have b : isDig 48 = true := by decide
  unfold rdI
  rw [if_pos (by simp only [two, List.cons_append, List.nil_append, List.all_cons, List.all_nil, dig_dgt h1, dig_dgt h2, a, b]; rfl)]
  simp only [valD, two, List.cons_append, List.nil_append, List.foldl_cons, List.foldl_nil, dgt_toNat _ h1, dgt_toNat _ h2]
  have c : (50 : UInt8).toNat = 50 := rfl
  have d : (48 : UInt8).toNat = 48 := rfl
  rw [c, d]
  omega

/-- Where field q begins, and how wide it is. -/
def off (q : Nat) : Nat := if q = 0 then 0 else 3 * q + 2
def wid (q : Nat) : Nat := if q = 0 then 4 else 2
def fieldL (l : List UInt8) (q : Nat) : List UInt8 := (l.drop (off q)).take (wid q)

/-- The time of these six numbers, if there is one. -/
def cand (k m : Nat) (n2 n3 n4 n5 : Int) : Int := ((yb k + mb (lp k) m : Nat) + n2 - 1) * 86400 + n3 * 3600 + n4 * 60 + n5

theorem text_fields {t : Nat} {l : List UInt8} (ht : t ≤ 3155759999) (h : textOf t = l) :
    ∃ k m dd : Nat, IsDate (t / 86400) k m dd ∧ rdI (fieldL l 0) = 2000 + k ∧ rdI (fieldL l 1) = m ∧ rdI (fieldL l 2) = dd ∧ 0 ≤ rdI (fieldL l 3) ∧ 0 ≤ rdI (fieldL l 4) ∧ 0 ≤ rdI (fieldL l 5) ∧
      cand k m (rdI (fieldL l 2)) (rdI (fieldL l 3)) (rdI (fieldL l 4)) (rdI (fieldL l 5)) = t := by
  obtain ⟨k, m, dd, a, e⟩ := textOf_is ht
  obtain ⟨b1, b2, b3⟩ := date_bounds a
  rw [h] at e
  have f0 : fieldL l 0 = [50, 48] ++ two k := by rw [e]; rfl
  have f1 : fieldL l 1 = two m := by rw [e]; rfl
  have f2 : fieldL l 2 = two dd := by rw [e]; rfl
  have f3 : fieldL l 3 = two (t % 86400 / 3600) := by rw [e]; rfl
  have f4 : fieldL l 4 = two (t % 3600 / 60) := by rw [e]; rfl
  have f5 : fieldL l 5 = two (t % 60) := by rw [e]; rfl
  have g2 := rdI_two b3
  have g3 := rdI_two (show t % 86400 / 3600 < 100 by omega)
  have g4 := rdI_two (show t % 3600 / 60 < 100 by omega)
  have g5 := rdI_two (show t % 60 < 100 by omega)
  refine ⟨k, m, dd, a, by rw [f0]; exact rdI_year b1, by rw [f1]; exact rdI_two b2, by rw [f2]; exact g2, by rw [f3, g3]; omega, by rw [f4, g4]; omega, by rw [f5, g5]; omega, ?_⟩
  rw [f2, f3, f4, f5, g2, g3, g4, g5]
  unfold cand
  have := a.eq
  omega

open Classical in
/-- The time of which the text is made, and true; 0 and false of none. -/
noncomputable def timeOf (l : List UInt8) : Int × Bool := if h : ∃ t : Nat, t ≤ 3155759999 ∧ textOf t = l then ((h.choose : Nat), true) else (0, false)

theorem textOf_inj {t t' : Nat} (h : t ≤ 3155759999) (h' : t' ≤ 3155759999) (e : textOf t = textOf t') : t = t' := by
  have a := textOf_is h
  have b := textOf_is h'
  rw [e] at a
  exact isText_inj a b

theorem timeOf_yes {l : List UInt8} {t : Nat} (ht : t ≤ 3155759999) (h : textOf t = l) : timeOf l = ((t : Int), true) := by
  have hx : ∃ t : Nat, t ≤ 3155759999 ∧ textOf t = l := ⟨t, ht, h⟩
  unfold timeOf
  rw [dif_pos hx]
  have := textOf_inj hx.choose_spec.1 ht (hx.choose_spec.2.trans h.symm)
  rw [this]

theorem timeOf_no {l : List UInt8} (h : ∀ t : Nat, t ≤ 3155759999 → textOf t ≠ l) : timeOf l = (0, false) := by
  unfold timeOf
  rw [dif_neg]
  rintro ⟨t, ht, e⟩
  exact h t ht e

theorem timeOf_len {l : List UInt8} (h : l.length ≠ 20) : timeOf l = (0, false) :=
  timeOf_no fun t ht e => h (by rw [← e]; exact isText_length (textOf_is ht))

/-- A field that is wrong. -/
theorem timeOf_bad {l : List UInt8} (h : ¬ ((∃ k m : Nat, k < 100 ∧ 1 ≤ m ∧ m ≤ 12 ∧ rdI (fieldL l 0) = 2000 + k ∧ rdI (fieldL l 1) = m ∧ 1 ≤ rdI (fieldL l 2) ∧ rdI (fieldL l 2) ≤ dm (lp k) m) ∧ 0 ≤ rdI (fieldL l 3) ∧ 0 ≤ rdI (fieldL l 4) ∧ 0 ≤ rdI (fieldL l 5))) : timeOf l = (0, false) :=
  timeOf_no fun t ht e => by
    obtain ⟨k, m, dd, a, h0, h1, h2, h3, h4, h5, _⟩ := text_fields ht e
    exact h ⟨⟨k, m, a.k1, a.m0, a.m1, h0, h1, by have := a.d0; omega, by have := a.d1; omega⟩, h3, h4, h5⟩

/-- The candidate decides. -/
theorem timeOf_cand {l : List UInt8} {k m : Nat} {n2 n3 n4 n5 : Int} (hk : k < 100) (h0 : rdI (fieldL l 0) = 2000 + k) (h1 : rdI (fieldL l 1) = m) (e2 : rdI (fieldL l 2) = n2) (e3 : rdI (fieldL l 3) = n3) (e4 : rdI (fieldL l 4) = n4) (e5 : rdI (fieldL l 5) = n5) (hl : l.length = 20) :
    timeOf l = if textOf (cand k m n2 n3 n4 n5) = l then (cand k m n2 n3 n4 n5, true) else (0, false) := by
  subst e2 e3 e4 e5
  by_cases hc : textOf (cand k m (rdI (fieldL l 2)) (rdI (fieldL l 3)) (rdI (fieldL l 4)) (rdI (fieldL l 5))) = l
  · rw [if_pos hc]
    generalize cand k m (rdI (fieldL l 2)) (rdI (fieldL l 3)) (rdI (fieldL l 4)) (rdI (fieldL l 5)) = c at *
    by_cases hr : 0 ≤ c ∧ c ≤ 3155759999
    · obtain ⟨n, rfl⟩ : ∃ n : Nat, c = n := ⟨c.toNat, by omega⟩
      exact timeOf_yes (by omega) hc
    · rw [textOf_out hr] at hc
      rw [← hc] at hl
      simp at hl
  · rw [if_neg hc]
    refine timeOf_no fun t ht e => hc ?_
    obtain ⟨k', m', dd, a, g0, g1, g2, g3, g4, g5, gc⟩ := text_fields ht e
    have : k' = k := by omega
    subst this
    have : m' = m := by omega
    subst this
    rw [gc]
    exact e

end Go.Proofs.YtcjeodgfpnecgaaGreatDoor
