/- Trees cut and put together: contracts of cut, rest, copiedNodes, without, with, treeAsItIs and changedTree of the program. What the program cuts and puts together is what the document says (mathematics alone). Contracts of Branch, Grafted and Wrapped of the program. -/
import Derived.Test.YtkejmifkjgpdjaaM21
import Derived.Test.YtkejmifkjgpdjaaM22
import Derived.Test.YtkejmifkjgpdjaaM14
import Derived.Test.YtkejmifkjgpdjaaM15
import Derived.Test.YtkejmifkjgpdjaaM16
import Derived.Test.YtkejmifkjgpdjaaM13
namespace Go.Proofs.Ytkejmifkjgpdjaa
open Go.RowKit
set_option linter.unusedVariables false
set_option linter.unusedSimpArgs false

theorem shK_same (t : Tk) : shK t.kind t = t := rfl

theorem mvT_shK (k b : Int) (t : Tk) : mvT k b t = shK (if k ≤ t.kind then t.kind + b else t.kind) t := by
  unfold mvT
  split
  · rfl
  · rfl

theorem mvL_zero (ts : List Tk) : mvL 0 0 ts = ts := by
  unfold mvL
  refine (List.map_congr_left (g := id) fun t _ => ?_).trans (List.map_id _)
  rw [mvT_shK]
  split
  · show shK (t.kind + 0) t = t
    rw [Int.add_zero]
    rfl
  · rfl

/-- Nodes from there on, each by itself. -/
theorem seg_map {f : Nat → Tk → Int} {g : Tk → Tk} {ts : List Tk} {s : Nat} : ∀ m, s + m ≤ ts.length → (∀ j (h : j < ts.length), s ≤ j → j < s + m → g ts[j] = shK (f j ts[j]) ts[j]) → segN f ts s m = ((ts.drop s).take m).map g
  | 0, _, _ => by simp [segN]
  | m + 1, h, hg => by
    have hl : s + m < ts.length := by omega
    have hd : m < (ts.drop s).length := by rw [List.length_drop]; omega
    rw [segN_next (List.getElem?_eq_getElem hl), seg_map m (by omega) (fun j hj h1 h2 => hg j hj h1 (by omega)), take_snocN hd, List.map_append]
    simp only [List.map_cons, List.map_nil, List.getElem_drop]
    rw [hg (s + m) hl (by omega) (by omega)]

theorem mv_seg {k b : Int} {ts : List Tk} {s m : Nat} (h : s + m ≤ ts.length) : mvL k b ((ts.drop s).take m) = segN (fun _ t => if k ≤ t.kind then t.kind + b else t.kind) ts s m :=
  (seg_map m h (fun j hj _ _ => mvT_shK k b ts[j])).symm

theorem mvL_sz {k b : Int} {ts : List Tk} {z : Nat} (h : TksSz z ts) : TksSz z (mvL k b ts) := by
  intro t ht
  obtain ⟨u, hu, rfl⟩ := List.mem_map.1 ht
  rw [mvT_shK]
  exact h u hu

theorem sz_drop {ts : List Tk} {z : Nat} (h : TksSz z ts) (n : Nat) : TksSz z (ts.drop n) := fun t ht => h t (List.mem_of_mem_drop ht)

theorem sl_cut (b o L cap f t : Nat) (h : f ≤ t) (ht : t ≤ cap) (W : World) : (Instr.slice 26 (.slice (some ⟨b, o, none⟩) L cap) (some (.int .i64 f)) (some (.int .i64 t)) (some (.int .i64 t))).run Try.prog W = .ok (.slice (some (if t = f then ⟨b, o, none⟩ else ⟨b, o + f * 4, none⟩)) (t - f) (t - f)) W := by
  have h' : (f : Int) ≤ t := by omega
  have h2 : (t : Int) ≤ cap := by omega
  go_simp
  by_cases e : t = f <;> simp [e, Addr.add]

theorem tk_piece {w : World} {b o f t : Nat} {ts : List Tk} (h : TkRow w (some ⟨b, o, none⟩) ts) : TkRow w (some (if t = f then ⟨b, o, none⟩ else ⟨b, o + f * 4, none⟩)) ((ts.drop f).take (t - f)) := by
  split
  · intro j hj
    rw [List.length_take] at hj
    omega
  · exact tk_take (tk_drop h f) _

set_option maxHeartbeats 2000000 in
theorem cCut (b o L cap f t : Nat) (h : f ≤ t) (ht : t ≤ cap) (w : World) : Calls Try.prog 90 #[.slice (some ⟨b, o, none⟩) L cap, .int .i64 (f : Int), .int .i64 (t : Int)] w fun e w' => e = .returned (.slice (some (if t = f then ⟨b, o, none⟩ else ⟨b, o + f * 4, none⟩)) (t - f) (t - f)) ∧ w' = w := by
  have hs := sl_cut b o L cap f t h ht
  generalize (if t = f then (⟨b, o, none⟩ : Addr) else ⟨b, o + f * 4, none⟩) = A at *
  go_enter Try.func90, Try.ntmps90
  go_wp2_with fail
  go_ret
  exact ⟨rfl, rfl⟩

set_option maxHeartbeats 2000000 in
theorem cRest (b o L cap f : Nat) (h : f ≤ L) (ht : L ≤ cap) (hL : L ≤ 1048576) (w : World) : Calls Try.prog 91 #[.slice (some ⟨b, o, none⟩) L cap, .int .i64 (f : Int)] w fun e w' => e = .returned (.slice (some (if L = f then ⟨b, o, none⟩ else ⟨b, o + f * 4, none⟩)) (L - f) (L - f)) ∧ w' = w := by
  have C := hid (cCut b o L cap f L h ht w)
  generalize (if L = f then (⟨b, o, none⟩ : Addr) else ⟨b, o + f * 4, none⟩) = A at *
  go_enter Try.func91, Try.ntmps91
  go_wp2_with fail
  refine C.out.mono ?_
  rintro e w1 ⟨rfl, rfl⟩
  go_wp2_with fail
  go_ret
  exact ⟨rfl, rfl⟩

set_option maxHeartbeats 2000000 in
theorem cCopied (a : Option Addr) (cap : Nat) (ts : List Tk) (w : World) (hR : TkRow w a ts) (hn : ts.length ≤ 1048576) (hz : TksSz 1048576 ts) (hk : ∀ t ∈ ts, t.kind ≤ 9223372036854775807) :
    Calls Try.prog 23 #[.slice a ts.length cap] w fun e w' => ∃ c, e = .returned (.slice (some ⟨w.heap.size, 0, none⟩) ts.length c) ∧ RowOf w w' (.slice (some ⟨w.heap.size, 0, none⟩) ts.length c) ts := by
  have C := hid (cMoved a cap ts 0 0 w hR hn hz (fun t ht h0 => by have := hk t ht; omega))
  rw [mvL_zero] at C
  clear hR hz hk
  generalize ts.length = n at *
  go_enter Try.func23, Try.ntmps23
  go_wp2_with fail
  refine C.out.mono ?_
  rintro e w1 ⟨c, rfl, hr⟩
  have HR := hid hr
  clear hr C
  go_wp2_with fail
  go_ret
  exact ⟨c, rfl, HR.out⟩

/-- Small Parents. -/
def KSm (ts : List Tk) : Prop := ∀ t ∈ ts, -1 ≤ t.kind ∧ t.kind ≤ 1000

theorem KSm.tree {ts : List Tk} (h : TreeP ts) : KSm ts := by
  intro t ht
  obtain ⟨i, hi, rfl⟩ := List.getElem_of_mem ht
  have := tree_kind h (List.getElem?_eq_getElem hi)
  omega

theorem KSm.take {ts : List Tk} (h : KSm ts) (n : Nat) : KSm (ts.take n) := fun t ht => h t (List.mem_of_mem_take ht)

theorem KSm.drop {ts : List Tk} (h : KSm ts) (n : Nat) : KSm (ts.drop n) := fun t ht => h t (List.mem_of_mem_drop ht)

/-- Two rows, the second made behind the first, put together. -/
theorem cConcat2 {w w2 w4 : World} {v1 v2 : Value} {L1 L2 : List Tk} (h1 : RowOf w w2 v1 L1) (h2 : RowOf w2 w4 v2 L2) (hn : L1.length + L2.length ≤ 1048576) :
    Calls Try.prog 89 #[.slice (some ⟨w4.heap.size, 0, none⟩) 2 2] (w4.alloc (.cells #[v1, v2] 26)) fun e w' => ∃ v, e = .returned v ∧ RowOf w w' v (L1 ++ L2) := by
  obtain ⟨es, a1, c1, rfl, hr1, hm1, hl1⟩ := h1.open
  obtain ⟨fs, a2, c2, rfl, hr2, hm2, hl2⟩ := h2.open
  have hA := (Below.refl w4.heap.size w4).alloc (Nat.le_refl _) (.cells #[.slice a1 es.length c1, .slice a2 fs.length c2] 26)
  have hB := bb (bb h1.bel h2.bel) hA
  have hR : RowsIn (w4.alloc (.cells #[.slice a1 es.length c1, .slice a2 fs.length c2] 26)) w.heap.size [⟨a1, c1, es⟩, ⟨a2, c2, fs⟩] := by
    refine ⟨fun r hr => ?_, fun i j hi hj hij e he f hf => ?_⟩
    · simp only [List.mem_cons, List.not_mem_nil, or_false] at hr
      rcases hr with rfl | rfl
      · exact (hr1.below h2.bel).below hA
      · exact (hr2.mono h1.bel.size).below hA
    · match i, j, hi, hj, hij with
      | 0, 1, _, _, _ => exact (hr1.apart_later hr2 (Nat.le_refl _)).1 e he f hf
      | 0, j + 2, _, hj, _ => simp at hj; omega
      | i + 1, j + 2, _, hj, _ => simp at hj; omega
  have hF : flatR [⟨a1, c1, es⟩, ⟨a2, c2, fs⟩] = es ++ fs := by simp [flatR]
  refine (cConcat w.heap.size w4.heap.size [⟨a1, c1, es⟩, ⟨a2, c2, fs⟩] _ hB.size (heap_alloc_new _ _) hR (by simp) (by rw [hF, List.length_append]; omega)).mono ?_
  rintro e w' ⟨v, rfl, hr, hb⟩
  rw [hF] at hr
  obtain ⟨a', c', rfl⟩ := hr.slice
  exact ⟨_, rfl, ⟨_, a', c', rfl, hr, by rw [List.map_append, hm1, hm2]⟩, bb hB hb⟩

/-- Three rows, the one in the middle made ahead of the others. -/
theorem cConcat3 {w0 w w2 w4 : World} {v1 v2 v3 : Value} {L1 L2 L3 : List Tk} (h2 : RowOf w0 w v2 L2) (h1 : RowOf w w2 v1 L1) (h3 : RowOf w2 w4 v3 L3) (hn : L1.length + L2.length + L3.length ≤ 1048576) :
    Calls Try.prog 89 #[.slice (some ⟨w4.heap.size, 0, none⟩) 3 3] (w4.alloc (.cells #[v1, v2, v3] 26)) fun e w' => ∃ v, e = .returned v ∧ RowOf w0 w' v (L1 ++ L2 ++ L3) := by
  obtain ⟨es, a1, c1, rfl, hr1, hm1, hl1⟩ := h1.open
  obtain ⟨fs, a2, c2, rfl, hr2, hm2, hl2⟩ := h2.open
  obtain ⟨gs, a3, c3, rfl, hr3, hm3, hl3⟩ := h3.open
  have hA := (Below.refl w4.heap.size w4).alloc (Nat.le_refl _) (.cells #[.slice a1 es.length c1, .slice a2 fs.length c2, .slice a3 gs.length c3] 26)
  have hB4 := bb (bb h2.bel h1.bel) h3.bel
  have hB := bb hB4 hA
  have sym : ∀ e f : Nd.E, Nd.Apart e f → Nd.Apart f e := fun e f h hl hl' g o g' o' e1 e2 e3 => h hl' hl g' o' g o e2 e1 e3.symm
  have hR : RowsIn (w4.alloc (.cells #[.slice a1 es.length c1, .slice a2 fs.length c2, .slice a3 gs.length c3] 26)) w0.heap.size [⟨a1, c1, es⟩, ⟨a2, c2, fs⟩, ⟨a3, c3, gs⟩] := by
    refine ⟨fun r hr => ?_, fun i j hi hj hij e he f hf => ?_⟩
    · simp only [List.mem_cons, List.not_mem_nil, or_false] at hr
      rcases hr with rfl | rfl | rfl
      · exact ((hr1.mono h2.bel.size).below h3.bel).below hA
      · exact ((hr2.below h1.bel).below h3.bel).below hA
      · exact (hr3.mono (Nat.le_trans h2.bel.size h1.bel.size)).below hA
    · match i, j, hi, hj, hij with
      | 0, 1, _, _, _ => exact sym _ _ ((hr2.apart_later hr1 (Nat.le_refl _)).1 f hf e he)
      | 0, 2, _, _, _ => exact (hr1.apart_later hr3 (Nat.le_refl _)).1 e he f hf
      | 1, 2, _, _, _ => exact ((hr2.below h1.bel).apart_later hr3 (Nat.le_refl _)).1 e he f hf
      | i, j + 3, _, hj, _ => simp at hj; omega
      | i + 2, 2, _, _, h => omega
  have hF : flatR [⟨a1, c1, es⟩, ⟨a2, c2, fs⟩, ⟨a3, c3, gs⟩] = es ++ fs ++ gs := by simp [flatR]
  refine (cConcat w0.heap.size w4.heap.size [⟨a1, c1, es⟩, ⟨a2, c2, fs⟩, ⟨a3, c3, gs⟩] _ hB.size (heap_alloc_new _ _) hR (by simp) (by rw [hF, List.length_append, List.length_append]; omega)).mono ?_
  rintro e w' ⟨v, rfl, hr, hb⟩
  rw [hF] at hr
  obtain ⟨a', c', rfl⟩ := hr.slice
  exact ⟨_, rfl, ⟨_, a', c', rfl, hr, by rw [List.map_append, List.map_append, hm1, hm2, hm3]⟩, bb hB hb⟩

set_option maxRecDepth 4000 in
set_option maxHeartbeats 4000000 in
theorem cWithout (b o cap : Nat) (ts : List Tk) (f t : Nat) (w : World) (hR : TkRow w (some ⟨b, o, none⟩) ts) (hc : ts.length ≤ cap) (hft : f ≤ t) (ht : t ≤ ts.length) (hn : ts.length ≤ 1048576) (hz : TksSz 1048576 ts) (hk : KSm ts) :
    Calls Try.prog 76 #[.slice (some ⟨b, o, none⟩) ts.length cap, .int .i64 (f : Int), .int .i64 (t : Int)] w fun e w' => ∃ v, e = .returned v ∧ RowOf w w' v (ts.take f ++ mvL t ((f : Int) - (t : Int)) (ts.drop t)) := by
  have HP1 := hid (show TkRow w (some (if f = 0 then ⟨b, o, none⟩ else ⟨b, o + 0 * 4, none⟩)) (ts.take f) by
    have h := tk_piece (f := 0) (t := f) hR
    rw [Nat.sub_zero, List.drop_zero] at h
    exact h)
  have HP2 := hid (show TkRow w (some (if ts.length = t then ⟨b, o, none⟩ else ⟨b, o + t * 4, none⟩)) (ts.drop t) by
    have h := tk_piece (f := t) (t := ts.length) hR
    rw [List.take_of_length_le (by rw [List.length_drop]; exact Nat.le_refl _)] at h
    exact h)
  have CC := hid (cCut b o ts.length cap 0 f (Nat.zero_le _) (by omega) w)
  rw [Nat.sub_zero] at CC
  have CR := hid (fun wx => cRest b o ts.length cap t ht hc hn wx)
  have hl1 : (ts.take f).length = f := by rw [List.length_take]; omega
  have hl2 : (ts.drop t).length = ts.length - t := List.length_drop ..
  have CP := hid (fun (a : Option Addr) wx (h : TkRow wx a (ts.take f)) => cCopied a f (ts.take f) wx h (by omega) (sz_take hz f) (fun u hu => by have := (hk.take f) u hu; omega))
  have CM := hid (fun (a : Option Addr) wx (h : TkRow wx a (ts.drop t)) => cMoved a (ts.length - t) (ts.drop t) (t : Int) ((f : Int) - (t : Int)) wx h (by omega) (sz_drop hz t) (fun u hu _ => by have := (hk.drop t) u hu; omega))
  rw [hl1] at CP
  rw [hl2] at CM
  have HL := hid (show (ts.take f).length + (mvL t ((f : Int) - (t : Int)) (ts.drop t)).length ≤ 1048576 by rw [mvL_len, hl1, hl2]; omega)
  generalize (if f = 0 then (⟨b, o, none⟩ : Addr) else ⟨b, o + 0 * 4, none⟩) = A1 at *
  generalize (if ts.length = t then (⟨b, o, none⟩ : Addr) else ⟨b, o + t * 4, none⟩) = A2 at *
  clear hz hk hl1 hl2 hR
  generalize mvL t ((f : Int) - (t : Int)) (ts.drop t) = L2 at *
  generalize ts.take f = L1 at *
  generalize ts.drop t = D2 at *
  have hw1 : -9223372036854775808 ≤ (f : Int) - (t : Int) ∧ (f : Int) - (t : Int) ≤ 9223372036854775807 := by omega
  generalize ts.length = n at *
  go_enter Try.func76, Try.ntmps76
  go_wp2_with fail
  refine CC.out.mono ?_
  rintro e w1 ⟨rfl, e1⟩
  subst e1
  go_wp2_with fail
  refine (CP.out _ _ HP1.out).mono ?_
  rintro e w2 ⟨c2, rfl, hr2⟩
  have HR2 := hid hr2
  have HP3 := hid (HP2.out.below hr2.bel)
  clear hr2 CC HP1 HP2 CP
  go_wp2_with fail
  refine (CR.out _).mono ?_
  rintro e w3 ⟨rfl, e3⟩
  subst e3
  go_wp2_with fail
  refine (CM.out _ _ HP3.out).mono ?_
  rintro e w4 ⟨c4, rfl, hr4⟩
  have HR4 := hid hr4
  have CK := hid (cConcat2 HR2.out HR4.out HL.out)
  clear hr4 CR CM HP3 HR2 HR4 HL
  go_wp2_with fail
  refine CK.out.mono ?_
  rintro e w5 ⟨v5, rfl, hr5⟩
  have HR5 := hid hr5
  clear hr5 CK
  go_wp2_with fail
  go_ret
  exact ⟨_, rfl, HR5.out⟩

set_option maxRecDepth 4000 in
set_option maxHeartbeats 4000000 in
theorem cWith (w0 : World) (b o cap : Nat) (ts : List Tk) (f : Nat) (v2 : Value) (L2 : List Tk) (w : World) (h2 : RowOf w0 w v2 L2) (hR : TkRow w (some ⟨b, o, none⟩) ts) (hc : ts.length ≤ cap) (hf : f ≤ ts.length) (hn : ts.length ≤ 1000) (hl2 : L2.length ≤ 1000) (hz : TksSz 1048576 ts) (hk : KSm ts) :
    Calls Try.prog 81 #[.slice (some ⟨b, o, none⟩) ts.length cap, .int .i64 (f : Int), v2] w fun e w' => ∃ v, e = .returned v ∧ RowOf w0 w' v (ts.take f ++ L2 ++ mvL f (L2.length : Int) (ts.drop f)) := by
  have HP1 := hid (show TkRow w (some (if f = 0 then ⟨b, o, none⟩ else ⟨b, o + 0 * 4, none⟩)) (ts.take f) by
    have h := tk_piece (f := 0) (t := f) hR
    rw [Nat.sub_zero, List.drop_zero] at h
    exact h)
  have HP2 := hid (show TkRow w (some (if ts.length = f then ⟨b, o, none⟩ else ⟨b, o + f * 4, none⟩)) (ts.drop f) by
    have h := tk_piece (f := f) (t := ts.length) hR
    rw [List.take_of_length_le (by rw [List.length_drop]; exact Nat.le_refl _)] at h
    exact h)
  have CC := hid (cCut b o ts.length cap 0 f (Nat.zero_le _) (by omega) w)
  rw [Nat.sub_zero] at CC
  have CR := hid (fun wx => cRest b o ts.length cap f hf hc (by omega) wx)
  have hl1 : (ts.take f).length = f := by rw [List.length_take]; omega
  have hl3 : (ts.drop f).length = ts.length - f := List.length_drop ..
  have CP := hid (fun (a : Option Addr) wx (h : TkRow wx a (ts.take f)) => cCopied a f (ts.take f) wx h (by omega) (sz_take hz f) (fun u hu => by have := (hk.take f) u hu; omega))
  have CM := hid (fun (a : Option Addr) wx (h : TkRow wx a (ts.drop f)) => cMoved a (ts.length - f) (ts.drop f) (f : Int) (L2.length : Int) wx h (by omega) (sz_drop hz f) (fun u hu _ => by have := (hk.drop f) u hu; omega))
  rw [hl1] at CP
  rw [hl3] at CM
  have HL := hid (show (ts.take f).length + L2.length + (mvL f (L2.length : Int) (ts.drop f)).length ≤ 1048576 by rw [mvL_len, hl1, hl3]; omega)
  obtain ⟨es, a2, c2, hv2, _, _, hle⟩ := h2.open
  rw [hle] at hv2
  subst hv2
  have H2 := hid h2
  generalize (if f = 0 then (⟨b, o, none⟩ : Addr) else ⟨b, o + 0 * 4, none⟩) = A1 at *
  generalize (if ts.length = f then (⟨b, o, none⟩ : Addr) else ⟨b, o + f * 4, none⟩) = A2 at *
  clear hz hk hl1 hl3 hR h2 hle
  generalize mvL f (L2.length : Int) (ts.drop f) = L3 at *
  generalize ts.take f = L1 at *
  generalize ts.drop f = D3 at *
  obtain ⟨n2, hn2⟩ : ∃ n2, L2.length = n2 := ⟨_, rfl⟩
  have HN2 := hid hn2
  rw [hn2] at CM hl2 H2 ⊢
  clear hn2
  generalize ts.length = n at *
  go_enter Try.func81, Try.ntmps81
  go_wp2_with fail
  refine CC.out.mono ?_
  rintro e w1 ⟨rfl, e1⟩
  subst e1
  go_wp2_with fail
  refine (CP.out _ _ HP1.out).mono ?_
  rintro e w2 ⟨c3, rfl, hr2⟩
  have HR2 := hid hr2
  have HP3 := hid (HP2.out.below hr2.bel)
  clear hr2 CC HP1 HP2 CP
  go_wp2_with fail
  refine (CR.out _).mono ?_
  rintro e w3 ⟨rfl, e3⟩
  subst e3
  go_wp2_with fail
  refine (CM.out _ _ HP3.out).mono ?_
  rintro e w4 ⟨c4, rfl, hr4⟩
  have HR4 := hid hr4
  have CK := hid (cConcat3 H2.out HR2.out HR4.out HL.out)
  clear hr4 CR CM HP3 HR2 HR4 HL
  go_wp2_with fail
  refine CK.out.mono ?_
  rintro e w5 ⟨v5, rfl, hr5⟩
  have HR5 := hid hr5
  clear hr5 CK
  go_wp2_with fail
  go_ret
  exact ⟨_, rfl, HR5.out⟩

/-- As it is, and refused; nothing, where it is no tree. -/
noncomputable def asIs (ts : List Tk) : List Tk := if treeB ts then ts else []

set_option maxHeartbeats 2000000 in
theorem cAsIs (a : Option Addr) (cap : Nat) (ts : List Tk) (w : World) (hR : TkRow w a ts) (hn : ts.length ≤ 1048576) (hz : TksSz 1048576 ts) :
    Calls Try.prog 54 #[.slice a ts.length cap] w (TreeAns w (asIs ts) false) := by
  have C := hid (cTreeOkI a cap ts w hR hn hz)
  have HR := hid hR
  cases hT : treeB ts with
  | false =>
    have HE := hid (show asIs ts = [] by unfold asIs; rw [hT]; rfl)
    rw [HE.out]
    rw [hT] at C
    clear hT HE hR hz HR
    generalize ts.length = n at *
    go_enter Try.func54, Try.ntmps54
    go_wp2_with fail
    refine C.out.mono ?_
    rintro e w1 ⟨rfl, hb1⟩
    have HB1 := hid hb1
    clear hb1 C
    go_wp2_with fail
    go_ret2
    exact ⟨_, rfl, ⟨[], none, 0, rfl, Nd.Row.start0 _ _, rfl⟩, HB1.out⟩
  | true =>
    have HE := hid (show asIs ts = ts by unfold asIs; rw [hT]; rfl)
    rw [HE.out]
    rw [hT] at C
    have hT2 : TreeP ts := by unfold treeB at hT; simpa using hT
    have CC := hid (fun wx (h : TkRow wx a ts) => cCopied a cap ts wx h hn hz (fun u hu => by have := (KSm.tree hT2) u hu; omega))
    clear hT HE hR hz hT2
    generalize ts.length = n at *
    go_enter Try.func54, Try.ntmps54
    go_wp2_with fail
    refine C.out.mono ?_
    rintro e w1 ⟨rfl, hb1⟩
    have HB1 := hid hb1
    have HR1 := hid (HR.out.below hb1)
    clear hb1 C HR
    go_wp2_with fail
    refine (CC.out _ HR1.out).mono ?_
    rintro e w2 ⟨c2, rfl, hr2⟩
    have HR2 := hid (RowOf.later HB1.out hr2)
    clear hr2
    go_wp2_with fail
    go_ret2
    exact ⟨_, rfl, HR2.out⟩

set_option maxHeartbeats 2000000 in
theorem cChanged (w0 : World) (a : Option Addr) (cap : Nat) (ts : List Tk) (v2 : Value) (L2 : List Tk) (w : World) (h2 : RowOf w0 w v2 L2) (hR : TkRow w a ts) (hn : ts.length ≤ 1048576) (hz : TksSz 1048576 ts) (hn2 : L2.length ≤ 1048576) (hz2 : TksSz 1048576 L2) :
    Calls Try.prog 74 #[.slice a ts.length cap, v2] w (TreeAns w0 (if treeB L2 then L2 else asIs ts) (treeB L2)) := by
  have H2 := hid h2
  obtain ⟨a2, c2, hv2, ht2⟩ := h2.tk
  subst hv2
  have C := hid (cTreeOkI a2 c2 L2 w ht2 hn2 hz2)
  have CA := hid (fun wx (hb : Below w.heap.size w wx) => cAsIs a cap ts wx (hR.below hb) hn hz)
  clear h2 ht2 hz hz2 hR hn2
  cases hT : treeB L2 with
  | false =>
    rw [if_neg Bool.false_ne_true]
    rw [hT] at C
    clear hT
    generalize asIs ts = R at *
    generalize L2.length = n2 at *
    generalize ts.length = n at *
    go_enter Try.func74, Try.ntmps74
    go_wp2_with fail
    refine C.out.mono ?_
    rintro e w1 ⟨rfl, hb1⟩
    have HB1 := hid (bb H2.out.bel hb1)
    have CA1 := hid (CA.out _ hb1)
    clear hb1 C CA
    go_wp2_with fail
    refine CA1.out.mono ?_
    rintro e w3 ⟨v3, rfl, hr3⟩
    have HR3 := hid (RowOf.later HB1.out hr3)
    clear hr3
    go_wp2_with fail
    go_ret2
    exact ⟨_, rfl, HR3.out⟩
  | true =>
    rw [if_pos rfl]
    rw [hT] at C
    clear hT CA
    generalize L2.length = n2 at *
    generalize ts.length = n at *
    go_enter Try.func74, Try.ntmps74
    go_wp2_with fail
    refine C.out.mono ?_
    rintro e w1 ⟨rfl, hb1⟩
    have HR3 := hid (H2.out.below hb1)
    clear hb1 C
    go_wp2_with fail
    go_ret2
    exact ⟨_, rfl, HR3.out⟩

end Go.Proofs.Ytkejmifkjgpdjaa

namespace Go.Proofs.Ytkejmifkjgpdjaa
open Go.RowKit
set_option linter.unusedVariables false

theorem getSet {α : Type} {l : List α} {i : Nat} {x : α} (h : i < l.length) (j : Nat) : (l.set i x)[j]? = if i = j then some x else l[j]? := by
  rw [List.getElem?_set]
  split
  · rename_i e
    first
      | rfl
      | rw [if_pos (by omega)]
  · rfl

/-- A branch. -/
theorem branch_mv {ts : List Tk} {k : Nat} (hk : k < ts.length) : ∃ t0, (mvL (k : Int) (-(k : Int)) ((ts.drop k).take (endN ts k - k)))[0]? = some t0 ∧ (mvL (k : Int) (-(k : Int)) ((ts.drop k).take (endN ts k - k))).set 0 (shK (-1) t0) = branchL ts k := by
  have hle := endN_le hk
  have h1 : k + (endN ts k - k) ≤ ts.length := by omega
  rw [mv_seg h1]
  have e0 := segN_get (f := fun _ t => if (k : Int) ≤ t.kind then t.kind + -(k : Int) else t.kind) (endN ts k - k) h1 0 (by omega) ts[k] (List.getElem?_eq_getElem hk)
  refine ⟨_, e0, ?_⟩
  have hl := segN_len (f := fun _ t => if (k : Int) ≤ t.kind then t.kind + -(k : Int) else t.kind) (ts := ts) (k := k) (endN ts k - k) h1
  refine List.ext_getElem? fun j => ?_
  rw [getSet (by rw [hl]; omega)]
  unfold branchL
  by_cases hj : j < endN ts k - k
  · have hkj : k + j < ts.length := by omega
    rw [segN_get (f := brF k) _ h1 j hj ts[k + j] (List.getElem?_eq_getElem hkj)]
    split
    · rename_i e
      subst e
      have hb : brF k (k + 0) ts[k + 0] = -1 := if_pos rfl
      rw [hb]
      rfl
    · rename_i e
      rw [segN_get _ h1 j hj ts[k + j] (List.getElem?_eq_getElem hkj)]
      have h2 := endN_in hk (show k < k + j by omega) (by omega)
      rw [parI_at hkj] at h2
      have hb : brF k (k + j) ts[k + j] = ts[k + j].kind - (k : Int) := if_neg (by omega)
      rw [hb]
      simp only [if_pos h2]
      rfl
  · rw [if_neg (by omega), List.getElem?_eq_none (by rw [hl]; omega), List.getElem?_eq_none (by rw [segN_len _ h1]; omega)]

theorem drop_seg {k b : Int} {ts : List Tk} {e : Nat} (h : e ≤ ts.length) : mvL k b (ts.drop e) = segN (fun _ t => if k ≤ t.kind then t.kind + b else t.kind) ts e (ts.length - e) := by
  rw [← mv_seg (by omega), List.take_of_length_le (by rw [List.length_drop]; exact Nat.le_refl _)]

/-- A tree put in. -/
theorem put_mv {ts br : List Tk} {e : Nat} {par : Int} {M : List Tk} (he : e ≤ ts.length) (hM : M = segN (fun i t => if i = 0 then par else t.kind + (e : Int)) br 0 br.length) : ts.take e ++ M ++ mvL (e : Int) (br.length : Int) (ts.drop e) = putL ts e par br := by
  unfold putL
  rw [segN_same e he, hM, drop_seg he]

theorem graft_mv {br : List Tk} (hB : TreeP br) (e : Nat) (par : Int) : ∃ t0, (mvL 0 (e : Int) br)[0]? = some t0 ∧ (mvL 0 (e : Int) br).set 0 (shK par t0) = segN (fun i t => if i = 0 then par else t.kind + (e : Int)) br 0 br.length := by
  have h0 : 0 < br.length := hB.1
  have hd : mvL 0 (e : Int) br = mvL 0 (e : Int) (br.drop 0) := by rw [List.drop_zero]
  rw [hd, drop_seg (Nat.zero_le _), Nat.sub_zero]
  have h1 : 0 + br.length ≤ br.length := by omega
  have e0 := segN_get (f := fun _ t => if (0 : Int) ≤ t.kind then t.kind + (e : Int) else t.kind) br.length h1 0 h0 br[0] (by rw [Nat.zero_add]; exact List.getElem?_eq_getElem h0)
  refine ⟨_, e0, ?_⟩
  have hl := segN_len (f := fun _ t => if (0 : Int) ≤ t.kind then t.kind + (e : Int) else t.kind) (ts := br) (k := 0) br.length h1
  refine List.ext_getElem? fun j => ?_
  rw [getSet (by rw [hl]; exact h0)]
  by_cases hj : j < br.length
  · have ej : br[0 + j]? = some br[j] := by rw [Nat.zero_add]; exact List.getElem?_eq_getElem hj
    rw [segN_get (f := fun i t => if i = 0 then par else t.kind + (e : Int)) _ h1 j hj br[j] ej]
    split
    · rename_i e1
      subst e1
      rw [if_pos rfl]
      rfl
    · rename_i e1
      rw [segN_get _ h1 j hj br[j] ej]
      have h2 : 0 ≤ br[j].kind := by
        rcases hB.up j hj with h' | ⟨p, _, ep, _⟩
        · omega
        · rw [parI_at hj] at ep
          omega
      have hb : (if 0 + j = 0 then par else br[j].kind + (e : Int)) = br[j].kind + (e : Int) := if_neg (by omega)
      simp only [if_pos h2, hb]
  · rw [if_neg (by omega), List.getElem?_eq_none (by rw [hl]; omega), List.getElem?_eq_none (by rw [segN_len _ h1]; omega)]

/-- One wrapped. -/
theorem wrap_mv {ts : List Tk} {k : Nat} (hk : k < ts.length) (name : ByteArray) : ∃ t1, (ts.take k ++ [(⟨ts[k].kind, name, [], ⟨#[]⟩⟩ : Tk)] ++ mvL (k : Int) 1 (ts.drop k))[k + 1]? = some t1 ∧ (ts.take k ++ [(⟨ts[k].kind, name, [], ⟨#[]⟩⟩ : Tk)] ++ mvL (k : Int) 1 (ts.drop k)).set (k + 1) (shK (k : Int) t1) = wrapL ts k name := by
  have e : ts.take k ++ [(⟨ts[k].kind, name, [], ⟨#[]⟩⟩ : Tk)] ++ mvL (k : Int) 1 (ts.drop k) = putL ts k ts[k].kind [wrapN name] := put_mv (br := [wrapN name]) (par := ts[k].kind) (Nat.le_of_lt hk) rfl
  rw [e]
  have h1 := put_high (ts := ts) (e := k) (par := ts[k].kind) (br := [wrapN name]) (Nat.le_of_lt hk) (Nat.le_refl k) hk (List.getElem?_eq_getElem hk)
  refine ⟨_, h1, ?_⟩
  unfold wrapL
  rw [List.getElem?_eq_getElem hk]
  rfl

/-- Without some. -/
theorem out_mv {ts : List Tk} {a e : Nat} (hae : a ≤ e) (he : e ≤ ts.length) : ts.take a ++ mvL (e : Int) ((a : Int) - (e : Int)) (ts.drop e) = outC ts a e ts.length := by
  unfold outC
  rw [Nat.min_eq_right (by omega), drop_seg he]
  congr 2
  funext _ t
  unfold cutF
  split <;> omega

theorem outL_len {ts : List Tk} {a e : Nat} (hae : a ≤ e) (he : e ≤ ts.length) : (outC ts a e ts.length).length = a + (ts.length - e) := by
  rw [outC_len hae he (Nat.le_refl _)]
  omega

theorem out_low {ts : List Tk} {a e i : Nat} (hae : a ≤ e) (he : e ≤ ts.length) (hi : i < a) : (outC ts a e ts.length)[i]? = ts[i]? := by
  unfold outC
  rw [Nat.min_eq_right (by omega), List.getElem?_append_left (by rw [List.length_take]; omega), List.getElem?_take, if_pos hi]

theorem out_high {ts : List Tk} {a e i : Nat} (hae : a ≤ e) (he : e ≤ ts.length) (hi : e + i < ts.length) : (outC ts a e ts.length)[a + i]? = some (shK (cutF a e ts[e + i]) ts[e + i]) := by
  unfold outC
  have hl : (ts.take (min ts.length a)).length = a := by rw [List.length_take]; omega
  rw [List.getElem?_append_right (by rw [hl]; omega), hl, show a + i - a = i by omega]
  exact segN_get (f := fun _ t => cutF a e t) _ (by omega) i (by omega) ts[e + i] (List.getElem?_eq_getElem hi)

theorem out_small {ts : List Tk} {a e : Nat} (hae : a ≤ e) (he : e ≤ ts.length) (h50 : ts.length ≤ 50) (h : KSm ts) : KSm (outC ts a e ts.length) := by
  intro t ht
  obtain ⟨j, hj, rfl⟩ := List.getElem_of_mem ht
  rw [outL_len hae he] at hj
  by_cases hja : j < a
  · have e1 := out_low hae he hja
    rw [List.getElem?_eq_getElem (by rw [outL_len hae he]; exact hj), List.getElem?_eq_getElem (by omega)] at e1
    rw [Option.some.inj e1]
    exact h _ (List.getElem_mem _)
  · have e1 := out_high hae he (i := j - a) (by omega)
    rw [show a + (j - a) = j by omega, List.getElem?_eq_getElem (by rw [outL_len hae he]; exact hj)] at e1
    rw [Option.some.inj e1]
    have h2 := h ts[e + (j - a)] (List.getElem_mem _)
    show -1 ≤ cutF a e _ ∧ cutF a e _ ≤ 1000
    unfold cutF
    split <;> omega

/-- Two texts come to stand side by side. -/
theorem twin_side {ts : List Tk} {a e : Nat} (ha : 1 ≤ a) (hae : a ≤ e) (he : e < ts.length) : twinB (outC ts a e ts.length) a = sideB ts a e := by
  have hl := outL_len hae (Nat.le_of_lt he)
  have h1 := out_low (i := a - 1) hae (Nat.le_of_lt he) (by omega)
  have h2 := out_high (i := 0) hae (Nat.le_of_lt he) (by omega)
  have ha1 : a - 1 < ts.length := by omega
  rw [List.getElem?_eq_getElem (by omega), List.getElem?_eq_getElem ha1] at h1
  rw [Nat.add_zero, List.getElem?_eq_getElem (by omega)] at h2
  have g1 := Option.some.inj h1
  have g2 := Option.some.inj h2
  unfold twinB sideB
  rw [List.getElem?_eq_getElem ha1, List.getElem?_eq_getElem he]
  rw [Bool.eq_iff_iff]
  simp only [decide_eq_true_eq, Bool.and_eq_true]
  constructor
  · rintro ⟨h, h0, k1, k2, k3⟩
    rw [g2] at k1 k3
    rw [g1] at k2 k3
    exact ⟨k1, k2, k3⟩
  · rintro ⟨k1, k2, k3⟩
    refine ⟨by omega, by omega, ?_⟩
    rw [g2, g1]
    exact ⟨k1, k2, k3⟩

theorem side_none {ts : List Tk} {a e : Nat} (he : e = ts.length) : sideB ts a e = false := by
  unfold sideB
  rw [show ts[e]? = none from List.getElem?_eq_none (by omega)]
  cases ts[a - 1]? <;> rfl

/-- They are one. -/
theorem join_mv {ts : List Tk} (hT : TreeP ts) {a : Nat} (ha : 1 ≤ a) (hal : a < ts.length) (he : endN ts a < ts.length) (hs : sideB ts a (endN ts a) = true) :
    ∃ t u, (outC ts a (endN ts a) ts.length)[a]? = some u ∧ ((outC ts a (endN ts a) ts.length).take a ++ mvL ((a + 1 : Nat) : Int) ((a : Int) - ((a + 1 : Nat) : Int)) ((outC ts a (endN ts a) ts.length).drop (a + 1)))[a - 1]? = some t
      ∧ ((outC ts a (endN ts a) ts.length).take a ++ mvL ((a + 1 : Nat) : Int) ((a : Int) - ((a + 1 : Nat) : Int)) ((outC ts a (endN ts a) ts.length).drop (a + 1))).set (a - 1) ⟨t.kind, t.name, t.attrs, t.text ++ u.text⟩ = cutL ts a (endN ts a)
      ∧ t.text.size ≤ 60 ∧ u.text.size ≤ 60 := by
  have hle := endN_le hal
  obtain ⟨e, hE⟩ : ∃ e, endN ts a = e := ⟨_, rfl⟩
  have hout := fun i (h1 : endN ts a ≤ i) (h2 : i < ts.length) => out_kind hT hal (i := i) h1 h2
  rw [hE] at hle he hs hout ⊢
  have hae : a ≤ e := by omega
  have hel : e ≤ ts.length := by omega
  have ha1 : a - 1 < ts.length := by omega
  have et : ts[a - 1]? = some ts[a - 1] := List.getElem?_eq_getElem ha1
  have eu : ts[e]? = some ts[e] := List.getElem?_eq_getElem he
  have hout0 := out_high (i := 0) hae hel (by omega)
  rw [Nat.add_zero] at hout0
  have htake : (outC ts a e ts.length).take a = ts.take a := by
    unfold outC
    rw [Nat.min_eq_right (by omega), List.take_append_of_le_length (by rw [List.length_take]; omega), List.take_take, Nat.min_self]
  have hu0 : ts[e].name.size = 0 := by
    unfold sideB at hs
    rw [et, eu] at hs
    simp only [Bool.and_eq_true, decide_eq_true_eq] at hs
    exact hs.1
  have hdrop : mvL ((a + 1 : Nat) : Int) ((a : Int) - ((a + 1 : Nat) : Int)) ((outC ts a e ts.length).drop (a + 1)) = segN (fun _ r => if (e : Int) < r.kind then r.kind - ((e : Int) - (a : Int)) - 1 else r.kind) ts (e + 1) (ts.length - (e + 1)) := by
    refine List.ext_getElem? fun j => ?_
    unfold mvL
    rw [List.getElem?_map, List.getElem?_drop]
    by_cases hj : e + (1 + j) < ts.length
    · rw [show a + 1 + j = a + (1 + j) by omega, out_high hae hel hj, segN_get _ (by omega) j (by omega) ts[e + (1 + j)] (by rw [show e + 1 + j = e + (1 + j) by omega]; exact List.getElem?_eq_getElem hj)]
      simp only [Option.map_some]
      rw [mvT_shK]
      have k1 := hout (e + (1 + j)) (by omega) hj
      rw [parI_at hj] at k1
      have k2 : ¬ ts[e + (1 + j)].kind = (e : Int) := by
        intro h
        rcases hT.up (e + (1 + j)) hj with h' | ⟨p, _, ep, hel'⟩
        · omega
        · rw [parI_at hj, h] at ep
          have : p = e := by omega
          subst this
          obtain ⟨_, hne⟩ := hel'
          exact hne hu0
      congr 1
      show shK (if ((a + 1 : Nat) : Int) ≤ cutF a e ts[e + (1 + j)] then cutF a e ts[e + (1 + j)] + ((a : Int) - ((a + 1 : Nat) : Int)) else cutF a e ts[e + (1 + j)]) ts[e + (1 + j)] = _
      congr 1
      unfold cutF
      split <;> split <;> split <;> omega
    · rw [List.getElem?_eq_none (by rw [outL_len hae hel]; omega), List.getElem?_eq_none (by rw [segN_len _ (by omega)]; omega)]
      rfl
  have hz1 := text_of hT et
  have hz2 := text_of hT eu
  refine ⟨ts[a - 1], _, hout0, ?_, ?_, hz1, hz2⟩
  · rw [htake, List.getElem?_append_left (by rw [List.length_take]; omega), List.getElem?_take, if_pos (by omega)]
    exact et
  · rw [htake, hdrop, cutL_yes hs et eu]
    unfold joinC
    rw [List.set_append, if_pos (by rw [List.length_take]; omega)]
    rfl

end Go.Proofs.Ytkejmifkjgpdjaa

namespace Go.Proofs.Ytkejmifkjgpdjaa
open Go.RowKit
set_option linter.unusedVariables false
set_option linter.unusedSimpArgs false

theorem ans_nil {w w1 : World} (hb : Below w.heap.size w w1) : TreeAns w [] false (.returned (.tuple #[.slice none 0 0, .bool false])) w1 :=
  ⟨_, rfl, ⟨[], none, 0, rfl, Nd.Row.start0 _ _, rfl⟩, hb⟩

theorem row_adr {w : World} {a : Option Addr} {ts : List Tk} (h : TkRow w a ts) (h0 : 0 < ts.length) : ∃ b o, a = some ⟨b, o, none⟩ := by
  obtain ⟨b, o, _, _, e, _⟩ := h 0 h0
  exact ⟨b, o, e⟩

set_option maxRecDepth 4000 in
set_option maxHeartbeats 4000000 in
theorem cBranchI (a : Option Addr) (cap : Nat) (ts : List Tk) (x : Int) (w : World) (hR : TkRow w a ts) (hc : ts.length ≤ cap) (hn : ts.length ≤ 1048576) (hz : TksSz 1048576 ts) :
    Calls Try.prog 78 #[.slice a ts.length cap, .int .i64 x] w (TreeAns w (branchI ts x) (elemB ts x)) := by
  have C := hid (g_elemThere a cap ts x w hR hn hz)
  cases hh : elemB ts x with
  | false =>
    have HE := hid (show branchI ts x = [] by unfold branchI; rw [hh]; rfl)
    rw [HE.out]
    rw [hh] at C
    clear hh HE hR hz hc
    generalize ts.length = n at *
    go_enter Try.func78, Try.ntmps78
    go_wp2_with fail
    refine C.out.mono ?_
    rintro e w1 ⟨rfl, hb1⟩
    have HB1 := hid hb1
    clear hb1 C
    go_wp2_with fail
    go_ret2
    exact ans_nil HB1.out
  | true =>
    have hB : hasB ts x = true := by unfold elemB at hh; rw [Bool.and_eq_true] at hh; exact hh.1
    obtain ⟨hT, k, rfl, hk⟩ := elemB_t hh
    have h50 : ts.length ≤ 50 := hT.2.1
    obtain ⟨b, o, rfl⟩ := row_adr hR (by omega)
    have HE := hid (show branchI ts (k : Int) = branchL ts k by unfold branchI; rw [hh]; rfl)
    rw [HE.out]
    rw [hh] at C
    have hEI : endI ts (k : Int) = (endN ts k : Int) := by unfold endI; rw [hB]; rfl
    have CE := hid (fun wx (h : TkRow wx (some ⟨b, o, none⟩) ts) => cEndOfI (some ⟨b, o, none⟩) cap ts (k : Int) wx h hn hz)
    rw [hEI] at CE
    obtain ⟨t0, ht0, hset⟩ := branch_mv hk
    have HT0 := hid ht0
    have HSET := hid hset
    have hle := endN_le hk
    have HR := hid hR
    have hsz := sz_take (sz_drop hz k) (endN ts k - k)
    have hsm := ((KSm.tree hT).drop k).take (endN ts k - k)
    have HPC := hid (fun wx (h : TkRow wx (some ⟨b, o, none⟩) ts) => tk_piece (f := k) (t := endN ts k) h)
    have CC := hid (fun wx => cCut b o ts.length cap k (endN ts k) (by omega) (by omega) wx)
    have hpl : ((ts.drop k).take (endN ts k - k)).length = endN ts k - k := by rw [List.length_take, List.length_drop]; omega
    have CM := hid (fun (ax : Option Addr) wx (h : TkRow wx ax ((ts.drop k).take (endN ts k - k))) => cMoved ax (endN ts k - k) ((ts.drop k).take (endN ts k - k)) (k : Int) (-(k : Int)) wx h (by omega) hsz (fun u hu _ => by have := hsm u hu; omega))
    rw [hpl] at CM
    have HLL := hid (show (mvL (k : Int) (-(k : Int)) ((ts.drop k).take (endN ts k - k))).length = endN ts k - k by rw [mvL_len, hpl])
    clear hh HE hR hz hT hB hEI ht0 hset hsz hsm hpl
    generalize mvL (k : Int) (-(k : Int)) ((ts.drop k).take (endN ts k - k)) = L at *
    generalize (ts.drop k).take (endN ts k - k) = D at *
    generalize branchL ts k = R at *
    generalize (if endN ts k = k then (⟨b, o, none⟩ : Addr) else ⟨b, o + k * 4, none⟩) = A1 at *
    obtain ⟨E, hEE⟩ : ∃ E, endN ts k = E := ⟨_, rfl⟩
    rw [hEE] at CE hle CC CM HLL
    obtain ⟨m, hm⟩ : ∃ m, E - k = m := ⟨_, rfl⟩
    have hm0 : 0 < m := by omega
    have hmm : (0 : Int) < (m : Int) := by omega
    rw [hm] at CC CM HLL
    clear hm hEE
    have hk50 : k < 50 := by omega
    have hE50 : E ≤ 50 := by omega
    clear hle
    generalize ts.length = n at *
    go_enter Try.func78, Try.ntmps78
    go_wp2_with fail
    refine C.out.mono ?_
    rintro e w1 ⟨rfl, hb1⟩
    have HB1 := hid hb1
    have HR1 := hid (HR.out.below hb1)
    clear hb1 C
    go_wp2_with fail
    refine (CE.out _ HR1.out).mono ?_
    rintro e w2 ⟨rfl, hb2⟩
    have HB2 := hid (bb HB1.out hb2)
    have HR2 := hid (HR1.out.below hb2)
    clear hb2 CE HR1 HB1
    go_wp2_with fail
    refine (CC.out _).mono ?_
    rintro e w3 ⟨rfl, e3⟩
    subst e3
    have HP3 := hid (HPC.out _ HR2.out)
    clear CC HPC
    go_wp2_with fail
    refine (CM.out _ _ HP3.out).mono ?_
    rintro e w4 ⟨c4, rfl, hr4⟩
    obtain ⟨g, c, ev, hg, ⟨aa, ca, q0, q1, q2, q3⟩, hfz, hks, _⟩ := hr4.put HT0.out
    obtain ⟨rfl, rfl⟩ : w3.heap.size = g ∧ c4 = c := by cases ev; exact ⟨rfl, rfl⟩
    have HKS := hid (RowOf.later HB2.out (hks (-1)))
    rw [HSET.out] at HKS
    have f0 := hfz (0 * 4)
    rw [Nat.zero_mul] at q0 f0 HKS
    clear hks hr4 CM HP3 q1 q2 q3 ev hfz
    go_wp2_with fail
    go_ret2
    exact ⟨_, rfl, HKS.out⟩

/-- Refused. -/
theorem graft_no {ts br : List Tk} {x : Int} (h : graftB ts br x = false) : graftL ts br x = asIs ts := by
  unfold graftL asIs
  rw [h]
  rfl

set_option maxRecDepth 4000 in
set_option maxHeartbeats 4000000 in
theorem cGraftedI (a a2 : Option Addr) (cap cap2 : Nat) (ts br : List Tk) (x : Int) (w : World) (hR : TkRow w a ts) (hR2 : TkRow w a2 br) (hc : ts.length ≤ cap) (hn : ts.length ≤ 1048576) (hn2 : br.length ≤ 1048576) (hz : TksSz 1048576 ts) (hz2 : TksSz 1048576 br) :
    Calls Try.prog 79 #[.slice a ts.length cap, .int .i64 x, .slice a2 br.length cap2] w (TreeAns w (graftL ts br x) (graftB ts br x)) := by
  have C := hid (g_elemThere a cap ts x w hR hn hz)
  have CA := hid (fun wx (h : TkRow wx a ts) => cAsIs a cap ts wx h hn hz)
  have CT := hid (fun wx (h : TkRow wx a2 br) => cTreeOkI a2 cap2 br wx h hn2 hz2)
  have HR := hid hR
  have HR2 := hid hR2
  cases hE : elemB ts x with
  | false =>
    have HV := hid (show graftB ts br x = false by unfold graftB; rw [hE]; rfl)
    rw [graft_no HV.out, HV.out]
    rw [hE] at C
    clear hE HV hR hR2 hz hz2 hc CT
    generalize asIs ts = R at *
    generalize ts.length = n at *
    generalize br.length = n2 at *
    go_enter Try.func79, Try.ntmps79
    go_wp2_with fail
    refine C.out.mono ?_
    rintro e w1 ⟨rfl, hb1⟩
    have HB1 := hid hb1
    have CA1 := hid (CA.out _ (HR.out.below hb1))
    clear hb1 C CA
    go_wp2_with fail
    refine CA1.out.mono ?_
    rintro e w3 ⟨v3, rfl, hr3⟩
    have HR3 := hid (RowOf.later HB1.out hr3)
    clear hr3
    go_wp2_with fail
    go_ret2
    exact ⟨_, rfl, HR3.out⟩
  | true =>
    rw [hE] at C
    cases hB : treeB br with
    | false =>
      have HV := hid (show graftB ts br x = false by unfold graftB; rw [hB, Bool.false_and, Bool.and_false])
      rw [graft_no HV.out, HV.out]
      rw [hB] at CT
      clear hE HV hR hR2 hz hz2 hc hB
      generalize asIs ts = R at *
      generalize ts.length = n at *
      generalize br.length = n2 at *
      go_enter Try.func79, Try.ntmps79
      go_wp2_with fail
      refine C.out.mono ?_
      rintro e w1 ⟨rfl, hb1⟩
      have HB1 := hid hb1
      have CT1 := hid (CT.out _ (HR2.out.below hb1))
      clear hb1 C CT
      go_wp2_with fail
      refine CT1.out.mono ?_
      rintro e w2 ⟨rfl, hb2⟩
      have HB2 := hid (bb HB1.out hb2)
      have CA1 := hid (CA.out _ (HR.out.below HB2.out))
      clear hb2 CA CT1
      go_wp2_with fail
      refine CA1.out.mono ?_
      rintro e w3 ⟨v3, rfl, hr3⟩
      have HR3 := hid (RowOf.later HB2.out hr3)
      clear hr3
      go_wp2_with fail
      go_ret2
      exact ⟨_, rfl, HR3.out⟩
    | true =>
      rw [hB] at CT
      have hH : hasB ts x = true := by
        have h := hE
        unfold elemB at h
        rw [Bool.and_eq_true] at h
        exact h.1
      obtain ⟨hT, k, rfl, hk⟩ := elemB_t hE
      have hTB : TreeP br := by unfold treeB at hB; simpa using hB
      have h50 : ts.length ≤ 50 := hT.2.1
      have hb50 : br.length ≤ 50 := hTB.2.1
      have hb0 : 0 < br.length := hTB.1
      have hbb : (0 : Int) < (br.length : Int) := by omega
      obtain ⟨b, o, rfl⟩ := row_adr hR (by omega)
      have hle := endN_le hk
      obtain ⟨t0, ht0, hset⟩ := graft_mv hTB (endN ts k) (k : Int)
      have HT0 := hid ht0
      have HSET := hid (put_mv (ts := ts) hle.2 hset)
      have hEI : endI ts (k : Int) = (endN ts k : Int) := by unfold endI; rw [hH]; rfl
      have CE := hid (fun wx (h : TkRow wx (some ⟨b, o, none⟩) ts) => cEndOfI (some ⟨b, o, none⟩) cap ts (k : Int) wx h hn hz)
      rw [hEI] at CE
      have CM := hid (fun wx (h : TkRow wx a2 br) => cMoved a2 cap2 br 0 (endN ts k : Int) wx h hn2 hz2 (fun u hu _ => by have := (KSm.tree hTB) u hu; omega))
      have hpz := put_sz (e := endN ts k) (par := (k : Int)) hz hz2
      have hpl := putL_len (parent := (k : Int)) (br := br) hle.2
      have CW := hid (fun (w0 wx : World) (v : Value) (L2 : List Tk) (h2 : RowOf w0 wx v L2) (h : TkRow wx (some ⟨b, o, none⟩) ts) (hl : L2.length ≤ 1000) => cWith w0 b o cap ts (endN ts k) v L2 wx h2 h hc hle.2 (by omega) hl hz (KSm.tree hT))
      have CX := hid (fun (w0 wx : World) (v : Value) (h2 : RowOf w0 wx v (putL ts (endN ts k) (k : Int) br)) (h : TkRow wx (some ⟨b, o, none⟩) ts) => cChanged w0 (some ⟨b, o, none⟩) cap ts v _ wx h2 h hn hz (by rw [hpl]; omega) hpz)
      have HG := hid (show graftB ts br (k : Int) = treeB (putL ts (endN ts k) (k : Int) br) by unfold graftB; rw [hE, hB]; rfl)
      have HG2 := hid (show graftL ts br (k : Int) = if treeB (putL ts (endN ts k) (k : Int) br) then putL ts (endN ts k) (k : Int) br else asIs ts by
        unfold graftL asIs
        rw [HG.out, treeB_t hT]
        rfl)
      rw [HG2.out, HG.out]
      have HML := hid (show ((mvL 0 (endN ts k : Int) br).set 0 (shK (k : Int) t0)).length = br.length by rw [List.length_set, mvL_len])
      have HMS := hid (mvL_len 0 (endN ts k : Int) br)
      clear hE hB hH hT hTB hR hR2 hz hz2 ht0 hset hEI hpz hpl HG HG2 CA
      generalize treeB (putL ts (endN ts k) (k : Int) br) = B at *
      generalize (if B = true then putL ts (endN ts k) (k : Int) br else asIs ts) = R at *
      generalize putL ts (endN ts k) (k : Int) br = P at *
      generalize mvL 0 (endN ts k : Int) br = L at *
      obtain ⟨E, hEE⟩ : ∃ E, endN ts k = E := ⟨_, rfl⟩
      rw [hEE] at CE hle CM CW HSET
      clear hEE
      have hk50 : k < 50 := by omega
      have hE50 : E ≤ 50 := by omega
      obtain ⟨n2, hn2e⟩ : ∃ n2, br.length = n2 := ⟨_, rfl⟩
      rw [hn2e] at CT CM HML HMS HSET hbb hb50 ⊢
      clear hle hn2 hn2e hb0
      generalize ts.length = n at *
      go_enter Try.func79, Try.ntmps79
      go_wp2_with fail
      refine C.out.mono ?_
      rintro e w1 ⟨rfl, hb1⟩
      have HB1 := hid hb1
      have CT1 := hid (CT.out _ (HR2.out.below hb1))
      clear hb1 C CT
      go_wp2_with fail
      refine CT1.out.mono ?_
      rintro e w2 ⟨rfl, hb2⟩
      have HB2 := hid (bb HB1.out hb2)
      clear hb2 CT1 HB1
      go_wp2_with fail
      refine (CE.out _ (HR.out.below HB2.out)).mono ?_
      rintro e w3 ⟨rfl, hb3⟩
      have HB3 := hid (bb HB2.out hb3)
      clear hb3 CE HB2
      go_wp2_with fail
      refine (CM.out _ (HR2.out.below HB3.out)).mono ?_
      rintro e w4 ⟨c4, rfl, hr4⟩
      have HB4 := hid hr4.bel
      obtain ⟨g, c, ev, hg, ⟨aa, ca, q0, q1, q2, q3⟩, hfz, hks, _⟩ := hr4.put HT0.out
      obtain ⟨rfl, rfl⟩ : w3.heap.size = g ∧ c4 = c := by cases ev; exact ⟨rfl, rfl⟩
      have HKS := hid (RowOf.later HB3.out (hks (k : Int)))
      have f0 := hfz (0 * 4)
      rw [Nat.zero_mul] at q0 f0 HKS
      have HR5 := hid (HR.out.below HKS.out.bel)
      clear hks hr4 CM q1 q2 q3 ev hfz HB3 HB4
      go_wp2_with fail
      refine (CW.out _ _ _ _ HKS.out HR5.out (by rw [HML.out]; omega)).mono ?_
      rintro e w6 ⟨v6, rfl, hr6⟩
      have HR6 := hid hr6
      rw [HML.out, HSET.out] at HR6
      have CX6 := hid (CX.out _ _ _ HR6.out (HR.out.below HR6.out.bel))
      clear hr6 CW CX HR5 HKS
      go_wp2_with fail
      refine CX6.out.mono ?_
      rintro e w7 ⟨v7, rfl, hr7⟩
      have HR7 := hid hr7
      clear hr7 CX6
      go_wp2_with fail
      go_ret2
      exact ⟨_, rfl, HR7.out⟩

/-- Refused. -/
theorem wrap_no {ts : List Tk} {x : Int} {name : ByteArray} (h : wrapB ts x name = false) : wrapT ts x name = asIs ts := by
  unfold wrapT asIs
  rw [h]
  rfl

theorem elemB_zero {k : Nat} (h : ¬ (k : Int) = 0) : decide (1 ≤ (k : Int)) = true := by simp; omega

/-- The one that wraps, as a row of one's own. -/
theorem wrap_own {w w1 : World} (hb : Below w.heap.size w w1) (K : Int) (name : ByteArray) : RowOf w (w1.alloc (.cells #[.int .i64 K, .string name, .slice none 0 0, .string ⟨#[]⟩] 50)) (.slice (some ⟨w1.heap.size, 0, none⟩) 1 1) [⟨K, name, [], ⟨#[]⟩⟩] :=
  ⟨⟨[⟨⟨K, name, [], ⟨#[]⟩⟩, none, 0⟩], _, 1, rfl, Nd.Row.one (e := ⟨⟨K, name, [], ⟨#[]⟩⟩, none, 0⟩) hb.size (heap_alloc_new _ _) (fun h => absurd h (Nat.not_lt_zero _)) (fun g o h => absurd h (Nat.not_lt_zero _)), rfl⟩, hb.alloc hb.size _⟩

set_option maxRecDepth 4000 in
set_option maxHeartbeats 4000000 in
theorem cWrappedI (a : Option Addr) (cap : Nat) (ts : List Tk) (x : Int) (name : ByteArray) (w : World) (hR : TkRow w a ts) (hc : ts.length ≤ cap) (hn : ts.length ≤ 1048576) (hz : TksSz 1048576 ts) (hnm : name.size ≤ 1048576) :
    Calls Try.prog 53 #[.slice a ts.length cap, .int .i64 x, .string name] w (TreeAns w (wrapT ts x name) (wrapB ts x name)) := by
  have C := hid (g_elemThere a cap ts x w hR hn hz)
  have CA := hid (fun wx (h : TkRow wx a ts) => cAsIs a cap ts wx h hn hz)
  have CN := hid (fun wx => c_impl_NameOk name wx hnm)
  have CL := hid (fun wx => c_strings_Clone name wx hnm)
  have HR := hid hR
  by_cases hx0 : x = 0
  · subst hx0
    have HV := hid (show wrapB ts 0 name = false by unfold wrapB; rfl)
    rw [wrap_no HV.out, HV.out]
    clear HV hR hz hc C CN CL
    generalize asIs ts = R at *
    generalize ts.length = n at *
    go_enter Try.func53, Try.ntmps53
    go_wp2_with fail
    refine (CA.out _ HR.out).mono ?_
    rintro e w3 ⟨v3, rfl, hr3⟩
    have HR3 := hid hr3
    clear hr3 CA
    go_wp2_with fail
    go_ret2
    exact ⟨_, rfl, HR3.out⟩
  have hx1 : (x == 0) = false := by simpa using hx0
  cases hE : elemB ts x with
  | false =>
    have HV := hid (show wrapB ts x name = false by unfold wrapB; rw [hE, Bool.false_and, Bool.and_false])
    rw [wrap_no HV.out, HV.out]
    rw [hE] at C
    clear hE HV hR hz hc CN CL hx0
    generalize asIs ts = R at *
    generalize ts.length = n at *
    go_enter Try.func53, Try.ntmps53
    go_wp2_with fail
    refine C.out.mono ?_
    rintro e w1 ⟨rfl, hb1⟩
    have HB1 := hid hb1
    have CA1 := hid (CA.out _ (HR.out.below hb1))
    clear hb1 C CA
    go_wp2_with fail
    refine CA1.out.mono ?_
    rintro e w3 ⟨v3, rfl, hr3⟩
    have HR3 := hid (RowOf.later HB1.out hr3)
    clear hr3
    go_wp2_with fail
    go_ret2
    exact ⟨_, rfl, HR3.out⟩
  | true =>
    rw [hE] at C
    cases hN : nameL name.data.toList with
    | false =>
      have HV := hid (show wrapB ts x name = false by unfold wrapB; rw [hN, Bool.false_and, Bool.and_false, Bool.and_false])
      rw [wrap_no HV.out, HV.out]
      rw [hN] at CN
      clear hE HV hR hz hc hN CL hx0
      generalize asIs ts = R at *
      generalize ts.length = n at *
      go_enter Try.func53, Try.ntmps53
      go_wp2_with fail
      refine C.out.mono ?_
      rintro e w1 ⟨rfl, hb1⟩
      have HB1 := hid hb1
      clear hb1 C
      go_wp2_with fail
      refine (CN.out _).mono ?_
      rintro e w2 ⟨rfl, hb2⟩
      have HB2 := hid (bb HB1.out hb2)
      have CA1 := hid (CA.out _ (HR.out.below HB2.out))
      clear hb2 CA CN
      go_wp2_with fail
      refine CA1.out.mono ?_
      rintro e w3 ⟨v3, rfl, hr3⟩
      have HR3 := hid (RowOf.later HB2.out hr3)
      clear hr3
      go_wp2_with fail
      go_ret2
      exact ⟨_, rfl, HR3.out⟩
    | true =>
      rw [hN] at CN
      obtain ⟨hT, k, rfl, hk⟩ := elemB_t hE
      have h50 : ts.length ≤ 50 := hT.2.1
      obtain ⟨b, o, rfl⟩ := row_adr hR (by omega)
      obtain ⟨t1, ht1, hset⟩ := wrap_mv hk name
      have HT1 := hid ht1
      have HSET := hid hset
      have CW := hid (fun (w0 wx : World) (v : Value) (L2 : List Tk) (h2 : RowOf w0 wx v L2) (h : TkRow wx (some ⟨b, o, none⟩) ts) (hl : L2.length ≤ 1000) => cWith w0 b o cap ts k v L2 wx h2 h hc (by omega) (by omega) hl hz (KSm.tree hT))
      have hpz := wrapL_sz hk hz hnm
      have hpl := wrapL_len (name := name) hk
      have CX := hid (fun (w0 wx : World) (v : Value) (h2 : RowOf w0 wx v (wrapL ts k name)) (h : TkRow wx (some ⟨b, o, none⟩) ts) => cChanged w0 (some ⟨b, o, none⟩) cap ts v _ wx h2 h hn hz (by rw [hpl]; omega) hpz)
      have HG := hid (show wrapB ts (k : Int) name = treeB (wrapL ts k name) by unfold wrapB; rw [hE, hN, elemB_zero hx0]; rfl)
      have HG2 := hid (show wrapT ts (k : Int) name = if treeB (wrapL ts k name) then wrapL ts k name else asIs ts by
        unfold wrapT asIs
        rw [HG.out, treeB_t hT]
        rfl)
      rw [HG2.out, HG.out]
      have HLN := hid (show (ts.take k ++ [(⟨ts[k].kind, name, [], ⟨#[]⟩⟩ : Tk)] ++ mvL (k : Int) 1 (ts.drop k)).length = ts.length + 1 by
        rw [List.length_append, List.length_append, mvL_len, List.length_take, List.length_drop]
        simp
        omega)
      have HCE := hid (fun (wx : World) (h : TkRow wx (some ⟨b, o, none⟩) ts) => h k hk)
      have hkn : (k : Int) < (ts.length : Int) := by omega
      clear hE hN hT hR hz ht1 hset hpz hpl HG HG2 CA hx0
      generalize ts[k].kind = K at *
      generalize ts[k].name = nmk at *
      generalize ts[k].attrs = atk at *
      generalize ts[k].text = txk at *
      generalize treeB (wrapL ts k name) = B at *
      generalize (if B = true then wrapL ts k name else asIs ts) = R at *
      generalize wrapL ts k name = P at *
      have hk50 : k < 50 := by omega
      generalize hnn : ts.length = n at *
      go_enter Try.func53, Try.ntmps53
      go_wp2_with fail
      refine C.out.mono ?_
      rintro e w1 ⟨rfl, hb1⟩
      have HB1 := hid hb1
      clear hb1 C
      go_wp2_with fail
      refine (CN.out _).mono ?_
      rintro e w2 ⟨rfl, hb2⟩
      have HB2 := hid (bb HB1.out hb2)
      have HR2 := hid (HR.out.below HB2.out)
      clear hb2 CN HB1 hnn
      go_wp2_with fail
      obtain ⟨b', o', aa, ca, e', hbl, q0, _⟩ := HCE.out _ HR.out
      obtain ⟨rfl, rfl⟩ : b = b' ∧ o = o' := by cases e'; exact ⟨rfl, rfl⟩
      have Q0 := hid q0
      have HBL := hid hbl
      have HBc := hid HB2.out.drew
      clear q0 hbl e' HR2 HCE
      go_region_held3 (fun w' => w'.cell? ⟨b, o + k * 4, none⟩ = some (.int .i64 K)) (first | with_reducible exact (HBc.out.cell (p := ⟨b, o + k * 4, none⟩) HBL.out).trans Q0.out | with_reducible exact ((HBc.out.alloc HBc.out.size _).cell (p := ⟨b, o + k * 4, none⟩) HBL.out).trans Q0.out)
        (first
          | (go_at_call 71; refine (CL.out _).mono ?_; rintro e w3 ⟨rfl, hb3⟩; replace HBc := hid (bb HBc.out hb3); clear hb3)
          | (go_at_call 81; refine (CW.out w _ _ [⟨K, name, [], ⟨#[]⟩⟩] (wrap_own HBc.out K name) (HR.out.below (HBc.out.alloc HBc.out.size _)) (by simp)).mono ?_; rintro e w4 ⟨v4, rfl, hr4⟩; replace HBc := hid hr4.bel))
      rename_i hHeld
      clear hHeld
      have HR4 := hid (show RowOf w w4 v4 (ts.take k ++ [(⟨K, name, [], ⟨#[]⟩⟩ : Tk)] ++ mvL (k : Int) 1 (ts.drop k)) from hr4)
      obtain ⟨g, c5, hv5, hg5, ⟨aa5, ca5, d0, d1, d2, d3⟩, hfz, hset2, _⟩ := HR4.out.put HT1.out
      subst hv5
      have f0 := hfz ((k + 1) * 4)
      have HS := hid (hset2 (k : Int))
      rw [HSET.out, HLN.out] at HS
      rw [HLN.out]
      have hk2 : (k : Int) + 1 < (n : Int) + 1 := by omega
      have CX6 := hid (CX.out _ _ _ HS.out (HR.out.below HS.out.bel))
      clear hr4 HR4 d1 d2 d3 hfz hset2 CW CX CL HBc HB2
      go_wp2_with fail
      refine CX6.out.mono ?_
      rintro e w7 ⟨v7, rfl, hr7⟩
      have HR7 := hid hr7
      clear hr7 CX6
      go_wp2_with fail
      go_ret2
      exact ⟨_, rfl, HR7.out⟩

end Go.Proofs.Ytkejmifkjgpdjaa
