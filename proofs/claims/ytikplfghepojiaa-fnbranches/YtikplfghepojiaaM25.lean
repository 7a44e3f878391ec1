/- Trees cut and put together: contracts of cut, rest, copiedNodes, without, with, treeAsItIs and changedTree of the program. What was put in is there (mathematics alone). Contract of the specification's Wrapped. -/
import Derived.Test.YtikplfghepojiaaM23
import Derived.Test.YtikplfghepojiaaM24
import Derived.Test.YtikplfghepojiaaM19
import Derived.Test.YtikplfghepojiaaM20
import Derived.Test.YtikplfghepojiaaM18
namespace Go.Proofs.Ytikplfghepojiaa
open Go.RowKit
set_option linter.unusedVariables false
set_option linter.unusedSimpArgs false

theorem shK_same (t : Tk) : shK t.kind t = t := rfl

theorem mvT_shK (k b : Int) (t : Tk) : mvT k b t = shK (if k ≤ t.kind then t.kind + b else t.kind) t := by
  unfold mvT
  split
  · rfl
  · rfl

theorem mvL_zero (ts : List Tk) : mvL 0 0 ts = ts := by
  unfold mvL
  refine (List.map_congr_left (g := id) fun t _ => ?_).trans (List.map_id _)
  rw [mvT_shK]
  split
  · show shK (t.kind + 0) t = t
    rw [Int.add_zero]
    rfl
  · rfl

/-- Nodes from there on, each by itself. -/
theorem seg_map {f : Nat → Tk → Int} {g : Tk → Tk} {ts : List Tk} {s : Nat} : ∀ m, s + m ≤ ts.length → (∀ j (h : j < ts.length), s ≤ j → j < s + m → g ts[j] = shK (f j ts[j]) ts[j]) → segN f ts s m = ((ts.drop s).take m).map g
  | 0, _, _ => by simp [segN]
  | m + 1, h, hg => by
    have hl : s + m < ts.length := by omega
    have hd : m < (ts.drop s).length := by rw [List.length_drop]; omega
    rw [segN_next (List.getElem?_eq_getElem hl), seg_map m (by omega) (fun j hj h1 h2 => hg j hj h1 (by omega)), take_snocN hd, List.map_append]
    simp only [List.map_cons, List.map_nil, List.getElem_drop]
    rw [hg (s + m) hl (by omega) (by omega)]

theorem mv_seg {k b : Int} {ts : List Tk} {s m : Nat} (h : s + m ≤ ts.length) : mvL k b ((ts.drop s).take m) = segN (fun _ t => if k ≤ t.kind then t.kind + b else t.kind) ts s m :=
  (seg_map m h (fun j hj _ _ => mvT_shK k b ts[j])).symm

theorem mvL_sz {k b : Int} {ts : List Tk} {z : Nat} (h : TksSz z ts) : TksSz z (mvL k b ts) := by
  intro t ht
  obtain ⟨u, hu, rfl⟩ := List.mem_map.1 ht
  rw [mvT_shK]
  exact h u hu

theorem sz_drop {ts : List Tk} {z : Nat} (h : TksSz z ts) (n : Nat) : TksSz z (ts.drop n) := fun t ht => h t (List.mem_of_mem_drop ht)

theorem sl_cut (b o L cap f t : Nat) (h : f ≤ t) (ht : t ≤ cap) (W : World) : (Instr.slice 24 (.slice (some ⟨b, o, none⟩) L cap) (some (.int .i64 f)) (some (.int .i64 t)) (some (.int .i64 t))).run Try.prog W = .ok (.slice (some (if t = f then ⟨b, o, none⟩ else ⟨b, o + f * 4, none⟩)) (t - f) (t - f)) W := by
  have h' : (f : Int) ≤ t := by omega
  have h2 : (t : Int) ≤ cap := by omega
  go_simp
  by_cases e : t = f <;> simp [e, Addr.add]

theorem tk_piece {w : World} {b o f t : Nat} {ts : List Tk} (h : TkRow w (some ⟨b, o, none⟩) ts) : TkRow w (some (if t = f then ⟨b, o, none⟩ else ⟨b, o + f * 4, none⟩)) ((ts.drop f).take (t - f)) := by
  split
  · intro j hj
    rw [List.length_take] at hj
    omega
  · exact tk_take (tk_drop h f) _

set_option maxHeartbeats 2000000 in
theorem cCut (b o L cap f t : Nat) (h : f ≤ t) (ht : t ≤ cap) (w : World) : Calls Try.prog 40 #[.slice (some ⟨b, o, none⟩) L cap, .int .i64 (f : Int), .int .i64 (t : Int)] w fun e w' => e = .returned (.slice (some (if t = f then ⟨b, o, none⟩ else ⟨b, o + f * 4, none⟩)) (t - f) (t - f)) ∧ w' = w := by
  have hs := sl_cut b o L cap f t h ht
  generalize (if t = f then (⟨b, o, none⟩ : Addr) else ⟨b, o + f * 4, none⟩) = A at *
  go_enter Try.func40, Try.ntmps40
  go_wp2_with fail
  go_ret
  exact ⟨rfl, rfl⟩

set_option maxHeartbeats 2000000 in
theorem cRest (b o L cap f : Nat) (h : f ≤ L) (ht : L ≤ cap) (hL : L ≤ 1048576) (w : World) : Calls Try.prog 73 #[.slice (some ⟨b, o, none⟩) L cap, .int .i64 (f : Int)] w fun e w' => e = .returned (.slice (some (if L = f then ⟨b, o, none⟩ else ⟨b, o + f * 4, none⟩)) (L - f) (L - f)) ∧ w' = w := by
  have C := hid (cCut b o L cap f L h ht w)
  generalize (if L = f then (⟨b, o, none⟩ : Addr) else ⟨b, o + f * 4, none⟩) = A at *
  go_enter Try.func73, Try.ntmps73
  go_wp2_with fail
  refine C.out.mono ?_
  rintro e w1 ⟨rfl, rfl⟩
  go_wp2_with fail
  go_ret
  exact ⟨rfl, rfl⟩

set_option maxHeartbeats 2000000 in
theorem cCopied (a : Option Addr) (cap : Nat) (ts : List Tk) (w : World) (hR : TkRow w a ts) (hn : ts.length ≤ 1048576) (hz : TksSz 1048576 ts) (hk : ∀ t ∈ ts, t.kind ≤ 9223372036854775807) :
    Calls Try.prog 70 #[.slice a ts.length cap] w fun e w' => ∃ c, e = .returned (.slice (some ⟨w.heap.size, 0, none⟩) ts.length c) ∧ RowOf w w' (.slice (some ⟨w.heap.size, 0, none⟩) ts.length c) ts := by
  have C := hid (cMoved a cap ts 0 0 w hR hn hz (fun t ht h0 => by have := hk t ht; omega))
  rw [mvL_zero] at C
  clear hR hz hk
  generalize ts.length = n at *
  go_enter Try.func70, Try.ntmps70
  go_wp2_with fail
  refine C.out.mono ?_
  rintro e w1 ⟨c, rfl, hr⟩
  have HR := hid hr
  clear hr C
  go_wp2_with fail
  go_ret
  exact ⟨c, rfl, HR.out⟩

/-- Small Parents. -/
def KSm (ts : List Tk) : Prop := ∀ t ∈ ts, -1 ≤ t.kind ∧ t.kind ≤ 1000

theorem KSm.tree {ts : List Tk} (h : TreeP ts) : KSm ts := by
  intro t ht
  obtain ⟨i, hi, rfl⟩ := List.getElem_of_mem ht
  have := tree_kind h (List.getElem?_eq_getElem hi)
  omega

theorem KSm.take {ts : List Tk} (h : KSm ts) (n : Nat) : KSm (ts.take n) := fun t ht => h t (List.mem_of_mem_take ht)

theorem KSm.drop {ts : List Tk} (h : KSm ts) (n : Nat) : KSm (ts.drop n) := fun t ht => h t (List.mem_of_mem_drop ht)

/-- Two rows, the second made behind the first, put together. -/
theorem cConcat2 {w w2 w4 : World} {v1 v2 : Value} {L1 L2 : List Tk} (h1 : RowOf w w2 v1 L1) (h2 : RowOf w2 w4 v2 L2) (hn : L1.length + L2.length ≤ 1048576) :
    Calls Try.prog 72 #[.slice (some ⟨w4.heap.size, 0, none⟩) 2 2] (w4.alloc (.cells #[v1, v2] 24)) fun e w' => ∃ v, e = .returned v ∧ RowOf w w' v (L1 ++ L2) := by
  obtain ⟨es, a1, c1, rfl, hr1, hm1, hl1⟩ := h1.open
  obtain ⟨fs, a2, c2, rfl, hr2, hm2, hl2⟩ := h2.open
  have hA := (Below.refl w4.heap.size w4).alloc (Nat.le_refl _) (.cells #[.slice a1 es.length c1, .slice a2 fs.length c2] 24)
  have hB := bb (bb h1.bel h2.bel) hA
  have hR : RowsIn (w4.alloc (.cells #[.slice a1 es.length c1, .slice a2 fs.length c2] 24)) w.heap.size [⟨a1, c1, es⟩, ⟨a2, c2, fs⟩] := by
    refine ⟨fun r hr => ?_, fun i j hi hj hij e he f hf => ?_⟩
    · simp only [List.mem_cons, List.not_mem_nil, or_false] at hr
      rcases hr with rfl | rfl
      · exact (hr1.below h2.bel).below hA
      · exact (hr2.mono h1.bel.size).below hA
    · match i, j, hi, hj, hij with
      | 0, 1, _, _, _ => exact (hr1.apart_later hr2 (Nat.le_refl _)).1 e he f hf
      | 0, j + 2, _, hj, _ => simp at hj; omega
      | i + 1, j + 2, _, hj, _ => simp at hj; omega
  have hF : flatR [⟨a1, c1, es⟩, ⟨a2, c2, fs⟩] = es ++ fs := by simp [flatR]
  refine (cConcat w.heap.size w4.heap.size [⟨a1, c1, es⟩, ⟨a2, c2, fs⟩] _ hB.size (heap_alloc_new _ _) hR (by simp) (by rw [hF, List.length_append]; omega)).mono ?_
  rintro e w' ⟨v, rfl, hr, hb⟩
  rw [hF] at hr
  obtain ⟨a', c', rfl⟩ := hr.slice
  exact ⟨_, rfl, ⟨_, a', c', rfl, hr, by rw [List.map_append, hm1, hm2]⟩, bb hB hb⟩

/-- Three rows, the one in the middle made ahead of the others. -/
theorem cConcat3 {w0 w w2 w4 : World} {v1 v2 v3 : Value} {L1 L2 L3 : List Tk} (h2 : RowOf w0 w v2 L2) (h1 : RowOf w w2 v1 L1) (h3 : RowOf w2 w4 v3 L3) (hn : L1.length + L2.length + L3.length ≤ 1048576) :
    Calls Try.prog 72 #[.slice (some ⟨w4.heap.size, 0, none⟩) 3 3] (w4.alloc (.cells #[v1, v2, v3] 24)) fun e w' => ∃ v, e = .returned v ∧ RowOf w0 w' v (L1 ++ L2 ++ L3) := by
  obtain ⟨es, a1, c1, rfl, hr1, hm1, hl1⟩ := h1.open
  obtain ⟨fs, a2, c2, rfl, hr2, hm2, hl2⟩ := h2.open
  obtain ⟨gs, a3, c3, rfl, hr3, hm3, hl3⟩ := h3.open
  have hA := (Below.refl w4.heap.size w4).alloc (Nat.le_refl _) (.cells #[.slice a1 es.length c1, .slice a2 fs.length c2, .slice a3 gs.length c3] 24)
  have hB4 := bb (bb h2.bel h1.bel) h3.bel
  have hB := bb hB4 hA
  have sym : ∀ e f : Nd.E, Nd.Apart e f → Nd.Apart f e := fun e f h hl hl' g o g' o' e1 e2 e3 => h hl' hl g' o' g o e2 e1 e3.symm
  have hR : RowsIn (w4.alloc (.cells #[.slice a1 es.length c1, .slice a2 fs.length c2, .slice a3 gs.length c3] 24)) w0.heap.size [⟨a1, c1, es⟩, ⟨a2, c2, fs⟩, ⟨a3, c3, gs⟩] := by
    refine ⟨fun r hr => ?_, fun i j hi hj hij e he f hf => ?_⟩
    · simp only [List.mem_cons, List.not_mem_nil, or_false] at hr
      rcases hr with rfl | rfl | rfl
      · exact ((hr1.mono h2.bel.size).below h3.bel).below hA
      · exact ((hr2.below h1.bel).below h3.bel).below hA
      · exact (hr3.mono (Nat.le_trans h2.bel.size h1.bel.size)).below hA
    · match i, j, hi, hj, hij with
      | 0, 1, _, _, _ => exact sym _ _ ((hr2.apart_later hr1 (Nat.le_refl _)).1 f hf e he)
      | 0, 2, _, _, _ => exact (hr1.apart_later hr3 (Nat.le_refl _)).1 e he f hf
      | 1, 2, _, _, _ => exact ((hr2.below h1.bel).apart_later hr3 (Nat.le_refl _)).1 e he f hf
      | i, j + 3, _, hj, _ => simp at hj; omega
      | i + 2, 2, _, _, h => omega
  have hF : flatR [⟨a1, c1, es⟩, ⟨a2, c2, fs⟩, ⟨a3, c3, gs⟩] = es ++ fs ++ gs := by simp [flatR]
  refine (cConcat w0.heap.size w4.heap.size [⟨a1, c1, es⟩, ⟨a2, c2, fs⟩, ⟨a3, c3, gs⟩] _ hB.size (heap_alloc_new _ _) hR (by simp) (by rw [hF, List.length_append, List.length_append]; omega)).mono ?_
  rintro e w' ⟨v, rfl, hr, hb⟩
  rw [hF] at hr
  obtain ⟨a', c', rfl⟩ := hr.slice
  exact ⟨_, rfl, ⟨_, a', c', rfl, hr, by rw [List.map_append, List.map_append, hm1, hm2, hm3]⟩, bb hB hb⟩

set_option maxRecDepth 4000 in
set_option maxHeartbeats 4000000 in
theorem cWithout (b o cap : Nat) (ts : List Tk) (f t : Nat) (w : World) (hR : TkRow w (some ⟨b, o, none⟩) ts) (hc : ts.length ≤ cap) (hft : f ≤ t) (ht : t ≤ ts.length) (hn : ts.length ≤ 1048576) (hz : TksSz 1048576 ts) (hk : KSm ts) :
    Calls Try.prog 36 #[.slice (some ⟨b, o, none⟩) ts.length cap, .int .i64 (f : Int), .int .i64 (t : Int)] w fun e w' => ∃ v, e = .returned v ∧ RowOf w w' v (ts.take f ++ mvL t ((f : Int) - (t : Int)) (ts.drop t)) := by
  have HP1 := hid (show TkRow w (some (if f = 0 then ⟨b, o, none⟩ else ⟨b, o + 0 * 4, none⟩)) (ts.take f) by
    have h := tk_piece (f := 0) (t := f) hR
    rw [Nat.sub_zero, List.drop_zero] at h
    exact h)
  have HP2 := hid (show TkRow w (some (if ts.length = t then ⟨b, o, none⟩ else ⟨b, o + t * 4, none⟩)) (ts.drop t) by
    have h := tk_piece (f := t) (t := ts.length) hR
    rw [List.take_of_length_le (by rw [List.length_drop]; exact Nat.le_refl _)] at h
    exact h)
  have CC := hid (cCut b o ts.length cap 0 f (Nat.zero_le _) (by omega) w)
  rw [Nat.sub_zero] at CC
  have CR := hid (fun wx => cRest b o ts.length cap t ht hc hn wx)
  have hl1 : (ts.take f).length = f := by rw [List.length_take]; omega
  have hl2 : (ts.drop t).length = ts.length - t := List.length_drop ..
  have CP := hid (fun (a : Option Addr) wx (h : TkRow wx a (ts.take f)) => cCopied a f (ts.take f) wx h (by omega) (sz_take hz f) (fun u hu => by have := (hk.take f) u hu; omega))
  have CM := hid (fun (a : Option Addr) wx (h : TkRow wx a (ts.drop t)) => cMoved a (ts.length - t) (ts.drop t) (t : Int) ((f : Int) - (t : Int)) wx h (by omega) (sz_drop hz t) (fun u hu _ => by have := (hk.drop t) u hu; omega))
  rw [hl1] at CP
  rw [hl2] at CM
  have HL := hid (show (ts.take f).length + (mvL t ((f : Int) - (t : Int)) (ts.drop t)).length ≤ 1048576 by rw [mvL_len, hl1, hl2]; omega)
  generalize (if f = 0 then (⟨b, o, none⟩ : Addr) else ⟨b, o + 0 * 4, none⟩) = A1 at *
  generalize (if ts.length = t then (⟨b, o, none⟩ : Addr) else ⟨b, o + t * 4, none⟩) = A2 at *
  clear hz hk hl1 hl2 hR
  generalize mvL t ((f : Int) - (t : Int)) (ts.drop t) = L2 at *
  generalize ts.take f = L1 at *
  generalize ts.drop t = D2 at *
  have hw1 : -9223372036854775808 ≤ (f : Int) - (t : Int) ∧ (f : Int) - (t : Int) ≤ 9223372036854775807 := by omega
  generalize ts.length = n at *
  go_enter Try.func36, Try.ntmps36
  go_wp2_with fail
  refine CC.out.mono ?_
  rintro e w1 ⟨rfl, e1⟩
  subst e1
  go_wp2_with fail
  refine (CP.out _ _ HP1.out).mono ?_
  rintro e w2 ⟨c2, rfl, hr2⟩
  have HR2 := hid hr2
  have HP3 := hid (HP2.out.below hr2.bel)
  clear hr2 CC HP1 HP2 CP
  go_wp2_with fail
  refine (CR.out _).mono ?_
  rintro e w3 ⟨rfl, e3⟩
  subst e3
  go_wp2_with fail
  refine (CM.out _ _ HP3.out).mono ?_
  rintro e w4 ⟨c4, rfl, hr4⟩
  have HR4 := hid hr4
  have CK := hid (cConcat2 HR2.out HR4.out HL.out)
  clear hr4 CR CM HP3 HR2 HR4 HL
  go_wp2_with fail
  refine CK.out.mono ?_
  rintro e w5 ⟨v5, rfl, hr5⟩
  have HR5 := hid hr5
  clear hr5 CK
  go_wp2_with fail
  go_ret
  exact ⟨_, rfl, HR5.out⟩

set_option maxRecDepth 4000 in
set_option maxHeartbeats 4000000 in
theorem cWith (w0 : World) (b o cap : Nat) (ts : List Tk) (f : Nat) (v2 : Value) (L2 : List Tk) (w : World) (h2 : RowOf w0 w v2 L2) (hR : TkRow w (some ⟨b, o, none⟩) ts) (hc : ts.length ≤ cap) (hf : f ≤ ts.length) (hn : ts.length ≤ 1000) (hl2 : L2.length ≤ 1000) (hz : TksSz 1048576 ts) (hk : KSm ts) :
    Calls Try.prog 58 #[.slice (some ⟨b, o, none⟩) ts.length cap, .int .i64 (f : Int), v2] w fun e w' => ∃ v, e = .returned v ∧ RowOf w0 w' v (ts.take f ++ L2 ++ mvL f (L2.length : Int) (ts.drop f)) := by
  have HP1 := hid (show TkRow w (some (if f = 0 then ⟨b, o, none⟩ else ⟨b, o + 0 * 4, none⟩)) (ts.take f) by
    have h := tk_piece (f := 0) (t := f) hR
    rw [Nat.sub_zero, List.drop_zero] at h
    exact h)
  have HP2 := hid (show TkRow w (some (if ts.length = f then ⟨b, o, none⟩ else ⟨b, o + f * 4, none⟩)) (ts.drop f) by
    have h := tk_piece (f := f) (t := ts.length) hR
    rw [List.take_of_length_le (by rw [List.length_drop]; exact Nat.le_refl _)] at h
    exact h)
  have CC := hid (cCut b o ts.length cap 0 f (Nat.zero_le _) (by omega) w)
  rw [Nat.sub_zero] at CC
  have CR := hid (fun wx => cRest b o ts.length cap f hf hc (by omega) wx)
  have hl1 : (ts.take f).length = f := by rw [List.length_take]; omega
  have hl3 : (ts.drop f).length = ts.length - f := List.length_drop ..
  have CP := hid (fun (a : Option Addr) wx (h : TkRow wx a (ts.take f)) => cCopied a f (ts.take f) wx h (by omega) (sz_take hz f) (fun u hu => by have := (hk.take f) u hu; omega))
  have CM := hid (fun (a : Option Addr) wx (h : TkRow wx a (ts.drop f)) => cMoved a (ts.length - f) (ts.drop f) (f : Int) (L2.length : Int) wx h (by omega) (sz_drop hz f) (fun u hu _ => by have := (hk.drop f) u hu; omega))
  rw [hl1] at CP
  rw [hl3] at CM
  have HL := hid (show (ts.take f).length + L2.length + (mvL f (L2.length : Int) (ts.drop f)).length ≤ 1048576 by rw [mvL_len, hl1, hl3]; omega)
  obtain ⟨es, a2, c2, hv2, _, _, hle⟩ := h2.open
  rw [hle] at hv2
  subst hv2
  have H2 := hid h2
  generalize (if f = 0 then (⟨b, o, none⟩ : Addr) else ⟨b, o + 0 * 4, none⟩) = A1 at *
  generalize (if ts.length = f then (⟨b, o, none⟩ : Addr) else ⟨b, o + f * 4, none⟩) = A2 at *
  clear hz hk hl1 hl3 hR h2 hle
  generalize mvL f (L2.length : Int) (ts.drop f) = L3 at *
  generalize ts.take f = L1 at *
  generalize ts.drop f = D3 at *
  obtain ⟨n2, hn2⟩ : ∃ n2, L2.length = n2 := ⟨_, rfl⟩
  have HN2 := hid hn2
  rw [hn2] at CM hl2 H2 ⊢
  clear hn2
  generalize ts.length = n at *
  go_enter Try.func58, Try.ntmps58
  go_wp2_with fail
  refine CC.out.mono ?_
  rintro e w1 ⟨rfl, e1⟩
  subst e1
  go_wp2_with fail
  refine (CP.out _ _ HP1.out).mono ?_
  rintro e w2 ⟨c3, rfl, hr2⟩
  have HR2 := hid hr2
  have HP3 := hid (HP2.out.below hr2.bel)
  clear hr2 CC HP1 HP2 CP
  go_wp2_with fail
  refine (CR.out _).mono ?_
  rintro e w3 ⟨rfl, e3⟩
  subst e3
  go_wp2_with fail
  refine (CM.out _ _ HP3.out).mono ?_
  rintro e w4 ⟨c4, rfl, hr4⟩
  have HR4 := hid hr4
  have CK := hid (cConcat3 H2.out HR2.out HR4.out HL.out)
  clear hr4 CR CM HP3 HR2 HR4 HL
  go_wp2_with fail
  refine CK.out.mono ?_
  rintro e w5 ⟨v5, rfl, hr5⟩
  have HR5 := hid hr5
  clear hr5 CK
  go_wp2_with fail
  go_ret
  exact ⟨_, rfl, HR5.out⟩

/-- As it is, and refused; nothing, where it is no tree. -/
noncomputable def asIs (ts : List Tk) : List Tk := if treeB ts then ts else []

set_option maxHeartbeats 2000000 in
theorem cAsIs (a : Option Addr) (cap : Nat) (ts : List Tk) (w : World) (hR : TkRow w a ts) (hn : ts.length ≤ 1048576) (hz : TksSz 1048576 ts) :
    Calls Try.prog 33 #[.slice a ts.length cap] w (TreeAns w (asIs ts) false) := by
  have C := hid (cTreeOkI a cap ts w hR hn hz)
  have HR := hid hR
  cases hT : treeB ts with
  | false =>
    have HE := hid (show asIs ts = [] by unfold asIs; rw [hT]; rfl)
    rw [HE.out]
    rw [hT] at C
    clear hT HE hR hz HR
    generalize ts.length = n at *
    go_enter Try.func33, Try.ntmps33
    go_wp2_with fail
    refine C.out.mono ?_
    rintro e w1 ⟨rfl, hb1⟩
    have HB1 := hid hb1
    clear hb1 C
    go_wp2_with fail
    go_ret2
    exact ⟨_, rfl, ⟨[], none, 0, rfl, Nd.Row.start0 _ _, rfl⟩, HB1.out⟩
  | true =>
    have HE := hid (show asIs ts = ts by unfold asIs; rw [hT]; rfl)
    rw [HE.out]
    rw [hT] at C
    have hT2 : TreeP ts := by unfold treeB at hT; simpa using hT
    have CC := hid (fun wx (h : TkRow wx a ts) => cCopied a cap ts wx h hn hz (fun u hu => by have := (KSm.tree hT2) u hu; omega))
    clear hT HE hR hz hT2
    generalize ts.length = n at *
    go_enter Try.func33, Try.ntmps33
    go_wp2_with fail
    refine C.out.mono ?_
    rintro e w1 ⟨rfl, hb1⟩
    have HB1 := hid hb1
    have HR1 := hid (HR.out.below hb1)
    clear hb1 C HR
    go_wp2_with fail
    refine (CC.out _ HR1.out).mono ?_
    rintro e w2 ⟨c2, rfl, hr2⟩
    have HR2 := hid (RowOf.later HB1.out hr2)
    clear hr2
    go_wp2_with fail
    go_ret2
    exact ⟨_, rfl, HR2.out⟩

set_option maxHeartbeats 2000000 in
theorem cChanged (w0 : World) (a : Option Addr) (cap : Nat) (ts : List Tk) (v2 : Value) (L2 : List Tk) (w : World) (h2 : RowOf w0 w v2 L2) (hR : TkRow w a ts) (hn : ts.length ≤ 1048576) (hz : TksSz 1048576 ts) (hn2 : L2.length ≤ 1048576) (hz2 : TksSz 1048576 L2) :
    Calls Try.prog 34 #[.slice a ts.length cap, v2] w (TreeAns w0 (if treeB L2 then L2 else asIs ts) (treeB L2)) := by
  have H2 := hid h2
  obtain ⟨a2, c2, hv2, ht2⟩ := h2.tk
  subst hv2
  have C := hid (cTreeOkI a2 c2 L2 w ht2 hn2 hz2)
  have CA := hid (fun wx (hb : Below w.heap.size w wx) => cAsIs a cap ts wx (hR.below hb) hn hz)
  clear h2 ht2 hz hz2 hR hn2
  cases hT : treeB L2 with
  | false =>
    rw [if_neg Bool.false_ne_true]
    rw [hT] at C
    clear hT
    generalize asIs ts = R at *
    generalize L2.length = n2 at *
    generalize ts.length = n at *
    go_enter Try.func34, Try.ntmps34
    go_wp2_with fail
    refine C.out.mono ?_
    rintro e w1 ⟨rfl, hb1⟩
    have HB1 := hid (bb H2.out.bel hb1)
    have CA1 := hid (CA.out _ hb1)
    clear hb1 C CA
    go_wp2_with fail
    refine CA1.out.mono ?_
    rintro e w3 ⟨v3, rfl, hr3⟩
    have HR3 := hid (RowOf.later HB1.out hr3)
    clear hr3
    go_wp2_with fail
    go_ret2
    exact ⟨_, rfl, HR3.out⟩
  | true =>
    rw [if_pos rfl]
    rw [hT] at C
    clear hT CA
    generalize L2.length = n2 at *
    generalize ts.length = n at *
    go_enter Try.func34, Try.ntmps34
    go_wp2_with fail
    refine C.out.mono ?_
    rintro e w1 ⟨rfl, hb1⟩
    have HR3 := hid (H2.out.below hb1)
    clear hb1 C
    go_wp2_with fail
    go_ret2
    exact ⟨_, rfl, HR3.out⟩

end Go.Proofs.Ytikplfghepojiaa

namespace Go.Proofs.Ytikplfghepojiaa
open Go.RowKit
set_option linter.unusedVariables false

section
variable {ts br : List Tk} {e : Nat} {par : Int}

/-- Who is whose parent, in what is put in. -/
def inF (e : Nat) (par : Int) (i : Nat) (t : Tk) : Int := if i = 0 then par else t.kind + (e : Int)

/-- .. and behind it. -/
def outF (e m : Nat) (t : Tk) : Int := if (e : Int) ≤ t.kind then t.kind + (m : Int) else t.kind

theorem put_low (he : e ≤ ts.length) {i : Nat} (hi : i < e) {t : Tk} (ht : ts[i]? = some t) : (putL ts e par br)[i]? = some t := by
  unfold putL
  have h1 : (segN (fun _ t => t.kind) ts 0 e).length = e := segN_len _ (by omega)
  rw [List.append_assoc, List.getElem?_append_left (by rw [h1]; exact hi), segN_get _ (by omega) i hi t (by rw [Nat.zero_add]; exact ht)]
  rfl

theorem put_mid (he : e ≤ ts.length) {i : Nat} (hi : i < br.length) {t : Tk} (ht : br[i]? = some t) : (putL ts e par br)[e + i]? = some (shK (inF e par i t) t) := by
  unfold putL
  have h1 : (segN (fun _ t => t.kind) ts 0 e).length = e := segN_len _ (by omega)
  have h2 : (segN (fun i t => if i = 0 then par else t.kind + (e : Int)) br 0 br.length).length = br.length := segN_len _ (by omega)
  rw [List.getElem?_append_left (by rw [List.length_append, h1, h2]; omega), List.getElem?_append_right (by rw [h1]; omega), h1, show e + i - e = i by omega, segN_get _ (by omega) i hi t (by rw [Nat.zero_add]; exact ht), Nat.zero_add]
  rfl

theorem put_high (he : e ≤ ts.length) {i : Nat} (hi : e ≤ i) (hn : i < ts.length) {t : Tk} (ht : ts[i]? = some t) : (putL ts e par br)[i + br.length]? = some (shK (outF e br.length t) t) := by
  unfold putL
  have h1 : (segN (fun _ t => t.kind) ts 0 e).length = e := segN_len _ (by omega)
  have h2 : (segN (fun i t => if i = 0 then par else t.kind + (e : Int)) br 0 br.length).length = br.length := segN_len _ (by omega)
  rw [List.getElem?_append_right (by rw [List.length_append, h1, h2]; omega), List.length_append, h1, h2, show i + br.length - (e + br.length) = i - e by omega, segN_get _ (by omega) (i - e) (by omega) t (by rw [show e + (i - e) = i by omega]; exact ht)]
  rfl

/-- What was put in ends where it ended. -/
theorem put_end (he : e ≤ ts.length) (hB : TreeP br) (hn : ∀ t, ts[e]? = some t → t.kind < (e : Int)) : endN (putL ts e par br) e = e + br.length := by
  have hl : (putL ts e par br).length = ts.length + br.length := putL_len he
  have hb1 := hB.1
  refine endN_is (by omega) (by omega) (fun j h1 h2 => ?_) ?_
  · obtain ⟨i, rfl⟩ : ∃ i, j = e + i := ⟨j - e, by omega⟩
    have hi : i < br.length := by omega
    have ht := List.getElem?_eq_getElem hi
    unfold parI
    rw [put_mid he hi ht]
    show (e : Int) ≤ inF e par i br[i]
    unfold inF
    rw [if_neg (by omega)]
    rcases (hB.2.2.2.2 i hi).2.1 with h0 | ⟨p, _, hp, _⟩
    · omega
    · rw [parI_at hi] at hp
      omega
  · by_cases h : e = ts.length
    · left; omega
    · right
      have ht := List.getElem?_eq_getElem (show e < ts.length by omega)
      unfold parI
      rw [put_high he (Nat.le_refl _) (by omega) ht]
      have := hn _ ht
      show outF e br.length ts[e] < (e : Int)
      unfold outF
      rw [if_neg (by omega)]
      exact this

/-- What was put in is there. -/
theorem put_branch (he : e ≤ ts.length) (hB : TreeP br) (hn : ∀ t, ts[e]? = some t → t.kind < (e : Int)) : branchL (putL ts e par br) e = br := by
  have hl : (putL ts e par br).length = ts.length + br.length := putL_len he
  have hb1 := hB.1
  have hek : e < (putL ts e par br).length := by omega
  have hend := put_end (par := par) he hB hn
  have hlen := branchL_len hek
  rw [hend] at hlen
  apply List.ext_getElem?
  intro j
  by_cases hj : j < br.length
  · have ht := List.getElem?_eq_getElem hj
    rw [branch_at hek (j := j) (by rw [hend]; omega) (put_mid he hj ht), ht]
    congr 1
    unfold shK inF
    by_cases h0 : j = 0
    · subst h0
      rw [if_pos rfl]
      have := hB.2.2.1
      rw [parI_at hj] at this
      rw [← this]
    · rw [if_neg h0, if_neg h0]
      have e1 : br[j].kind + (e : Int) - (e : Int) = br[j].kind := by omega
      show (⟨br[j].kind + (e : Int) - (e : Int), br[j].name, br[j].attrs, br[j].text⟩ : Tk) = br[j]
      rw [e1]
  · rw [List.getElem?_eq_none (by omega), List.getElem?_eq_none (by omega)]

end

end Go.Proofs.Ytikplfghepojiaa

namespace Go.Proofs.Ytikplfghepojiaa
open Go.RowKit
set_option linter.unusedVariables false
set_option linter.unusedSimpArgs false

/-- The one that wraps. -/
def wrapN (name : ByteArray) : Tk := ⟨0, name, [], ⟨#[]⟩⟩

/-- A tree with one wrapped. -/
def wrapL (ts : List Tk) (k : Nat) (name : ByteArray) : List Tk := match ts[k]? with
  | some t => (putL ts k t.kind [wrapN name]).set (k + 1) (shK (k : Int) t)
  | none => ts

noncomputable def wrapB (ts : List Tk) (x : Int) (name : ByteArray) : Bool := decide (1 ≤ x) && (elemB ts x && (nameL name.data.toList && treeB (wrapL ts x.toNat name)))

noncomputable def wrapT (ts : List Tk) (x : Int) (name : ByteArray) : List Tk := if treeB ts then (if wrapB ts x name then wrapL ts x.toNat name else ts) else []

theorem wrapL_len {ts : List Tk} {k : Nat} {name : ByteArray} (hk : k < ts.length) : (wrapL ts k name).length = ts.length + 1 := by
  unfold wrapL
  rw [List.getElem?_eq_getElem hk]
  simp only
  rw [List.length_set, putL_len (by omega)]
  rfl

theorem wrapL_sz {ts : List Tk} {k : Nat} {name : ByteArray} (hk : k < ts.length) (hz : TksSz 1048576 ts) (hn : name.size ≤ 1048576) : TksSz 1048576 (wrapL ts k name) := by
  unfold wrapL
  rw [List.getElem?_eq_getElem hk]
  simp only
  intro t ht
  rcases List.mem_or_eq_of_mem_set ht with h' | h'
  · refine put_sz hz (fun u hu => ?_) t h'
    rw [List.mem_singleton] at hu
    subst hu
    exact ⟨hn, Nat.zero_le _, fun y hy => absurd hy List.not_mem_nil, Nat.zero_le _⟩
  · subst h'
    exact hz ts[k] (List.getElem_mem hk)

theorem wrap_row {w : World} {g : Nat} {name : ByteArray} (h : w.heap[g]? = some (.cells #[.int .i64 0, .string name, .slice none 0 0, .string ⟨#[]⟩] 34 (0, 0))) : TkRow w (some ⟨g, 0, none⟩) [wrapN name] := by
  intro j hj
  have hj0 : j = 0 := by simpa using hj
  subst hj0
  obtain ⟨⟨x0, x1, x2, x3⟩, _⟩ := box4 h
  exact ⟨g, 0, none, 0, rfl, lt_of_heap h, x0, x1, x2, x3, fun i hi => absurd hi (Nat.not_lt_zero _)⟩

set_option maxRecDepth 4000 in
set_option maxHeartbeats 4000000 in
theorem cWrappedS (a : Option Addr) (cap : Nat) (ts : List Tk) (x : Int) (name : ByteArray) (w : World) (hR : TkRow w a ts) (hc : ts.length ≤ cap) (hcm : cap ≤ maxLen) (hn : ts.length ≤ 1048576) (hz : TksSz 1048576 ts) (hnm : name.size ≤ 1048576) :
    Calls Try.prog 25 #[.slice a ts.length cap, .int .i64 x, .string name] w (TreeAns w (wrapT ts x name) (wrapB ts x name)) := by
  have C := hid (cTreeOkS a cap ts w hR hn hz)
  have HR := hid hR
  have CC := hid (fun wx (h : TkRow wx a ts) => cCopyT a cap ts wx h hn hz)
  cases hT : treeB ts with
  | false =>
    have HE := hid (And.intro (show wrapT ts x name = [] by unfold wrapT; rw [hT]; rfl) (show wrapB ts x name = false by unfold wrapB; rw [elemB_tree hT, Bool.false_and, Bool.and_false]))
    rw [HE.out.1, HE.out.2]
    rw [hT] at C
    clear hT HE hR hz
    generalize ts.length = n at *
    go_enter Try.func25, Try.ntmps25
    go_wp2_with fail
    refine C.out.mono ?_
    rintro e w1 ⟨rfl, hb1⟩
    have HB1 := hid hb1
    clear hb1 C
    go_wp2_with fail
    go_ret2
    exact TreeAns.none HB1.out
  | true =>
    have CE := hid (fun wx (h : TkRow wx a ts) => c_spec_l9Element a cap ts x wx h hn hz)
    have CN := hid (fun wx => c_spec_NameOk name wx hnm)
    have HG := hid (show wrapT ts x name = if wrapB ts x name then wrapL ts x.toNat name else ts by unfold wrapT; rw [hT]; rfl)
    rw [HG.out]
    rw [hT] at C
    cases h1 : decide (1 ≤ x) with
    | false =>
      have HV := hid (show wrapB ts x name = false by unfold wrapB; rw [h1]; rfl)
      rw [HV.out]
      show Calls _ _ _ _ (TreeAns w ts false)
      have hx1 : decide (x < 1) = true := decide_eq_true (by have := of_decide_eq_false h1; omega)
      clear hT HG HV hR hz CN CE h1
      generalize ts.length = n at *
      go_enter Try.func25, Try.ntmps25
      go_wp2_with fail
      refine C.out.mono ?_
      rintro e w1 ⟨rfl, hb1⟩
      have HB1 := hid hb1
      clear hb1 C
      go_wp2_with fail
      refine (CC.out _ (HR.out.below HB1.out)).mono ?_
      rintro e w3 ⟨v3, rfl, hr3⟩
      have HR3 := hid (RowOf.later HB1.out hr3)
      clear hr3 CC
      go_wp2_with fail
      go_ret2
      exact ⟨_, rfl, HR3.out⟩
    | true =>
      have hx1 : decide (x < 1) = false := decide_eq_false (by have := of_decide_eq_true h1; omega)
      cases hE : elemB ts x with
      | false =>
        have HV := hid (show wrapB ts x name = false by unfold wrapB; rw [hE, Bool.false_and, Bool.and_false])
        rw [HV.out]
        rw [hE] at CE
        show Calls _ _ _ _ (TreeAns w ts false)
        clear hT HG HV hR hz CN h1 hE
        generalize ts.length = n at *
        go_enter Try.func25, Try.ntmps25
        go_wp2_with fail
        refine C.out.mono ?_
        rintro e w1 ⟨rfl, hb1⟩
        have HB1 := hid hb1
        clear hb1 C
        go_wp2_with fail
        refine (CE.out _ (HR.out.below HB1.out)).mono ?_
        rintro e w2 ⟨rfl, hb2⟩
        have HB2 := hid (bb HB1.out hb2)
        clear hb2 CE
        go_wp2_with fail
        refine (CC.out _ (HR.out.below HB2.out)).mono ?_
        rintro e w3 ⟨v3, rfl, hr3⟩
        have HR3 := hid (RowOf.later HB2.out hr3)
        clear hr3 CC
        go_wp2_with fail
        go_ret2
        exact ⟨_, rfl, HR3.out⟩
      | true =>
        rw [hE] at CE
        cases hB : nameL name.data.toList with
        | false =>
          have HV := hid (show wrapB ts x name = false by unfold wrapB; rw [hB, Bool.false_and, Bool.and_false, Bool.and_false])
          rw [HV.out]
          rw [hB] at CN
          show Calls _ _ _ _ (TreeAns w ts false)
          clear hT HG HV hR hz h1 hE hB
          generalize ts.length = n at *
          go_enter Try.func25, Try.ntmps25
          go_wp2_with fail
          refine C.out.mono ?_
          rintro e w1 ⟨rfl, hb1⟩
          have HB1 := hid hb1
          clear hb1 C
          go_wp2_with fail
          refine (CE.out _ (HR.out.below HB1.out)).mono ?_
          rintro e w2 ⟨rfl, hb2⟩
          have HB2 := hid (bb HB1.out hb2)
          clear hb2 CE
          go_wp2_with fail
          refine (CN.out _).mono ?_
          rintro e w3 ⟨rfl, hb3⟩
          have HB3 := hid (bb HB2.out hb3)
          clear hb3 CN
          go_wp2_with fail
          refine (CC.out _ (HR.out.below HB3.out)).mono ?_
          rintro e w4 ⟨v4, rfl, hr4⟩
          have HR4 := hid (RowOf.later HB3.out hr4)
          clear hr4 CC
          go_wp2_with fail
          go_ret2
          exact ⟨_, rfl, HR4.out⟩
        | true =>
          rw [hB] at CN
          obtain ⟨hTP, k, rfl, hk⟩ := elemB_t hE
          have hk1 : 1 ≤ k := by have := of_decide_eq_true h1; omega
          have htk := seg_of hk
          have hkb := tree_kind hTP htk
          have CP := hid (fun wx g (h : TkRow wx a ts) (h2 : TkRow wx (some ⟨g, 0, none⟩) [wrapN name]) => cPutL a (some ⟨g, 0, none⟩) cap 1 ts [wrapN name] k ts[k].kind wx h h2 (tree_kindB hTP) (fun u hu => by rw [List.mem_singleton] at hu; subst hu; exact ⟨(by show (-1 : Int) ≤ 0; decide), (by show (0 : Int) < 50; decide)⟩) (by omega) hc hcm hTP.2.1 (by simp) hz (fun u hu => by rw [List.mem_singleton] at hu; subst hu; exact ⟨hnm, Nat.zero_le _, fun y hy => absurd hy List.not_mem_nil, Nat.zero_le _⟩))
          have HPK := hid (put_high (ts := ts) (br := [wrapN name]) (e := k) (par := ts[k].kind) (by omega) (Nat.le_refl _) hk htk)
          have HPN := hid (putL_len (ts := ts) (place := k) (parent := ts[k].kind) (br := [wrapN name]) (by omega))
          have HWL := hid (show wrapL ts k name = (putL ts k ts[k].kind [wrapN name]).set (k + 1) (shK (k : Int) ts[k]) by unfold wrapL; rw [htk])
          have HGB := hid (show wrapB ts (k : Int) name = treeB (wrapL ts k name) by unfold wrapB; rw [h1, hE, hB]; rfl)
          have HWN := hid (show (wrapL ts k name).length ≤ 1048576 by rw [wrapL_len hk]; have := hTP.2.1; omega)
          have HWZ := hid (wrapL_sz hk hz hnm)
          rw [HGB.out]
          show Calls _ _ _ _ (TreeAns w (if treeB (wrapL ts k name) then wrapL ts k name else ts) _)
          obtain ⟨P, hP⟩ : ∃ P, wrapL ts k name = P := ⟨_, rfl⟩
          rw [hP] at HWN HWZ HWL ⊢
          have CQ := hid (fun wx aP cP (h : TkRow wx aP P) => cTreeOkS aP cP P wx h HWN.out HWZ.out)
          obtain ⟨B, hBB⟩ : ∃ B, treeB P = B := ⟨_, rfl⟩
          rw [hBB] at CQ ⊢
          have HROW := hid (fun wx (hb : Below w.heap.size w wx) => (HR.out.below hb).kindAt k hk)
          obtain ⟨b, o, ea, -⟩ := HR.out.kindAt k hk
          subst ea
          have HLEN := hid (show (putL ts k ts[k].kind [wrapN name]).length = ts.length + 1 from HPN.out)
          obtain ⟨Q0, hQ0⟩ : ∃ Q0, putL ts k ts[k].kind [wrapN name] = Q0 := ⟨_, rfl⟩
          rw [hQ0] at CP HPK HWL HLEN
          have e0 : parI ts k = ts[k].kind := parI_at hk
          rw [e0] at HROW
          obtain ⟨t, ht⟩ : ∃ t, ts[k] = t := ⟨_, rfl⟩
          rw [ht] at CP HPK HWL HROW hkb
          have hkn : (k : Int) < (ts.length : Int) := by omega
          have h50 : ts.length ≤ 50 := hTP.2.1
          clear hT HG HGB hR hz hP hBB hE hB hTP htk ht hQ0 h1 HPN e0 hc hcm hn
          obtain ⟨n, hnn⟩ : ∃ n, ts.length = n := ⟨_, rfl⟩
          rw [hnn] at C CE CC CP HLEN hkn h50 hk ⊢
          clear hnn
          obtain ⟨R, hRR⟩ : ∃ R, (if B = true then P else ts) = R := ⟨_, rfl⟩
          have HRR := hid hRR
          rw [hRR]
          clear hRR
          obtain ⟨K, hK⟩ : ∃ K, t.kind = K := ⟨_, rfl⟩
          rw [hK] at CP HROW hkb
          obtain ⟨hkb1, hkb2⟩ := hkb
          have CP1 := hid (fun wx g h h2 => CP.out wx g h h2)
          have hone : ([wrapN name] : List Tk).length = 1 := rfl
          rw [hone] at CP1
          go_enter Try.func25, Try.ntmps25
          go_wp2_with fail
          refine C.out.mono ?_
          rintro e w1 ⟨rfl, hb1⟩
          have HB1 := hid hb1
          clear hb1 C
          go_wp2_with fail
          refine (CE.out _ (HR.out.below HB1.out)).mono ?_
          rintro e w2 ⟨rfl, hb2⟩
          have HB2 := hid (bb HB1.out hb2)
          clear hb2 CE
          go_wp2_with fail
          refine (CN.out _).mono ?_
          rintro e w3 ⟨rfl, hb3⟩
          have HB3 := hid (bb HB2.out hb3)
          clear hb3 CN
          obtain ⟨b', o', e', c0, _⟩ := HROW.out _ HB3.out
          obtain ⟨rfl, rfl⟩ : b = b' ∧ o = o' := by cases e'; exact ⟨rfl, rfl⟩
          have HB4 := hid (HB3.out.alloc HB3.out.size (.cells #[.int .i64 0, .string name, .slice none 0 0, .string ⟨#[]⟩] 34))
          have HW4 := hid (wrap_row (heap_alloc_new w3 (.cells #[.int .i64 0, .string name, .slice none 0 0, .string ⟨#[]⟩] 34)))
          clear e'
          go_wp2_with fail
          refine (CP1.out _ _ (HR.out.below HB4.out) HW4.out).mono ?_
          rintro e w5 ⟨v5, rfl, hr5⟩
          have HR5 := hid (RowOf.later HB4.out hr5)
          obtain ⟨g, c5, hv5, hg5, ⟨aa, ca, d0, d1, d2, d3⟩, hfz, hset, _⟩ := HR5.out.put HPK.out
          subst hv5
          have f0 := hfz ((k + 1) * 4)
          have HS := hid (hset (k : Int))
          have hone2 : k + ([wrapN name] : List Tk).length = k + 1 := rfl
          rw [hone2] at d0 HS
          have HS2 := hid (show RowOf w (w5.setCell ⟨g, (k + 1) * 4, none⟩ (.int .i64 (k : Int))) (.slice (some ⟨g, 0, none⟩) Q0.length c5) P by rw [HWL.out]; exact HS.out)
          rw [HLEN.out] at HS2 ⊢
          clear hr5 CP CP1 d1 d2 d3 hfz hset HS HB4 HW4 c0
          obtain ⟨w6, hw6⟩ : ∃ w6, w5.setCell ⟨g, (k + 1) * 4, none⟩ (.int .i64 (k : Int)) = w6 := ⟨_, rfl⟩
          rw [hw6] at HS2
          obtain ⟨a6, c6, hv6, ht6⟩ := HS2.out.tk
          obtain ⟨rfl, hpl, rfl⟩ : some ⟨g, 0, none⟩ = a6 ∧ n + 1 = P.length ∧ c5 = c6 := by injection hv6 with h1 h2 h3; exact ⟨h1, h2, h3⟩
          rw [← hpl] at CQ
          have HT6 := hid ht6
          clear hv6 ht6 hpl
          have hk2 : (k : Int) + 1 < (n : Int) + 1 := by omega
          go_wp2_with fail
          refine (CQ.out _ _ _ HT6.out).mono ?_
          rintro e w7 ⟨rfl, hb7⟩
          have HB7 := hid (bb HS2.out.bel hb7)
          have HR7 := hid (HS2.out.below hb7)
          clear hb7 CQ d0 f0 hw6
          cases B with
          | false =>
            have HF := hid (show R = ts from HRR.out.symm)
            go_wp2_with fail
            refine (CC.out _ (HR.out.below HB7.out)).mono ?_
            rintro e w8 ⟨v8, rfl, hr8⟩
            have HR8 := hid (RowOf.later HB7.out hr8)
            clear hr8 CC
            go_wp2_with fail
            go_ret2
            exact ⟨_, rfl, by rw [HF.out]; exact HR8.out⟩
          | true =>
            have HF := hid (show R = P from HRR.out.symm)
            go_wp2_with fail
            go_ret2
            exact ⟨_, rfl, by rw [HF.out]; exact HR7.out⟩

end Go.Proofs.Ytikplfghepojiaa
