/- Contract of copiedToken of the program. Contract of TreeOk of the program. -/
import Derived.Test.YtcjeodgfpnecgaaM24
import Derived.Deep.CutRange
namespace Go.Proofs.Ytcjeodgfpnecgaa
open Go.RowKit
set_option linter.unusedVariables false
set_option linter.unusedSimpArgs false

/-- Four cells, in whatever world behind. -/
theorem box4_later {W0 : World} {g : Nat} {x y z u : Value} {T : TypeId} (h : W0.heap[g]? = some (.cells #[x, y, z, u] T (0, 0))) :
    (∀ W', Below W0.heap.size W0 W' → W'.cell? ⟨g, 0, none⟩ = some x) ∧ (∀ W', Below W0.heap.size W0 W' → W'.cell? ⟨g, 1, none⟩ = some y) ∧ (∀ W', Below W0.heap.size W0 W' → W'.cell? ⟨g, 2, none⟩ = some z) ∧ (∀ W', Below W0.heap.size W0 W' → W'.cell? ⟨g, 3, none⟩ = some u)
      ∧ (∀ W', Below W0.heap.size W0 W' → W'.frozen? ⟨g, 0, none⟩ = false) ∧ (∀ W', Below W0.heap.size W0 W' → W'.frozen? ⟨g, 1, none⟩ = false) ∧ (∀ W', Below W0.heap.size W0 W' → W'.frozen? ⟨g, 2, none⟩ = false) ∧ (∀ W', Below W0.heap.size W0 W' → W'.frozen? ⟨g, 3, none⟩ = false) := by
  have k : ∀ W', Below W0.heap.size W0 W' → W'.heap[g]? = some (.cells #[x, y, z, u] T (0, 0)) := fun W' hb => (hb.block g (lt_of_heap h)).trans h
  exact ⟨fun W' hb => (box4 (k W' hb)).1.1, fun W' hb => (box4 (k W' hb)).1.2.1, fun W' hb => (box4 (k W' hb)).1.2.2.1, fun W' hb => (box4 (k W' hb)).1.2.2.2, fun W' hb => (box4 (k W' hb)).2.1, fun W' hb => (box4 (k W' hb)).2.2.1, fun W' hb => (box4 (k W' hb)).2.2.2.1, fun W' hb => (box4 (k W' hb)).2.2.2.2⟩

theorem OwnAts.mono {w : World} {B B' : Nat} {a : Option Addr} {l : List At} (h : OwnAts w B' a l) (hB : B ≤ B') : OwnAts w B a l := by
  intro hl
  obtain ⟨g, o, cu, e, h1, h2, h3⟩ := h hl
  exact ⟨g, o, cu, e, Nat.le_trans hB h1, h2, h3⟩

theorem OwnAts.set {w : World} {B : Nat} {a : Option Addr} {l : List At} (h : OwnAts w B a l) {g : Nat} (hg : g < B) (o : Nat) (v : Value) : OwnAts (w.setCell ⟨g, o, none⟩ v) B a l := by
  intro hl
  obtain ⟨g', o', cu, e, h1, h2, h3⟩ := h hl
  exact ⟨g', o', cu, e, h1, (heap_setCell_other w ⟨g, o, none⟩ g' v (by show ¬ g' = g; omega)).trans h2, h3⟩

theorem box_set4 {w1 : World} {b : Nat} {x y z u x' y' z' u' : Value} {T : TypeId} (h : w1.heap[b]? = some (.cells #[x, y, z, u] T (0, 0))) : ((((w1.setCell ⟨b, 0, none⟩ x').setCell ⟨b, 1, none⟩ y').setCell ⟨b, 2, none⟩ z').setCell ⟨b, 3, none⟩ u').heap[b]? = some (.cells #[x', y', z', u'] T (0, 0)) :=
  heap_setCell_same _ _ _ _ _ _ (heap_setCell_same _ _ _ _ _ _ (heap_setCell_same _ _ _ _ _ _ (heap_setCell_same w1 b 0 _ _ x' h)))

theorem set4_far {w : World} {g b j : Nat} {x y z u : Value} (h : ¬ g = b) : ((((w.setCell ⟨g, 0, none⟩ x).setCell ⟨g, 1, none⟩ y).setCell ⟨g, 2, none⟩ z).setCell ⟨g, 3, none⟩ u).cell? ⟨b, j, none⟩ = w.cell? ⟨b, j, none⟩ := by
  rw [World.cell?_setCell_far _ _ _ _ h, World.cell?_setCell_far _ _ _ _ h, World.cell?_setCell_far _ _ _ _ h, World.cell?_setCell_far _ _ _ _ h]

set_option maxRecDepth 8000 in
set_option maxHeartbeats 8000000 in
theorem cCopiedToken (t : Tk) (a : Option Addr) (cap : Nat) (w : World) (hR : AtRow w a t.attrs) (hz : TkSz 1048576 t) :
    Calls Try.prog 41 #[tkV t a cap] w fun e w' => ∃ a' c', e = .returned (tkV t a' c') ∧ OwnAts w' w.heap.size a' t.attrs ∧ Below w.heap.size w w' := by
  obtain ⟨k, nm, l, tx⟩ := t
  obtain ⟨z1, z2, z3, z4⟩ := hz
  simp only at z1 z2 z3 z4 hR
  simp only [tkV]
  have HB0 := hid (((Below.refl w.heap.size w).alloc (Nat.le_refl _) (.cells #[.int .i64 k, .string nm, .slice a l.length cap, .string tx] 50)).alloc (by simp) (.cells #[.int .i64 0, .string ⟨#[]⟩, .slice none 0 0, .string ⟨#[]⟩] 50))
  have M0 := hid (blk_alloc (heap_alloc_new w (.cells #[.int .i64 k, .string nm, .slice a l.length cap, .string tx] 50)) (.cells #[.int .i64 0, .string ⟨#[]⟩, .slice none 0 0, .string ⟨#[]⟩] 50))
  have M1 := hid (heap_two w (.cells #[.int .i64 k, .string nm, .slice a l.length cap, .string tx] 50) (.cells #[.int .i64 0, .string ⟨#[]⟩, .slice none 0 0, .string ⟨#[]⟩] 50))
  have HR := hid (hR.below HB0.out)
  have CX := hid (fun w => c_strings_Clone nm w z1)
  have CY := hid (fun w => c_strings_Clone tx w z4)
  have CA := hid (fun w (h : AtRow w a l) => cCopiedAttrs a cap l w h z3 z2)
  clear hR z1 z2 z3 z4
  obtain ⟨n, hnn⟩ : ∃ n, l.length = n := ⟨_, rfl⟩
  have HN := hid hnn
  rw [hnn] at HB0 M0 M1 HR CA ⊢
  clear hnn
  go_enter Try.func41, Try.ntmps41
  go_wp2_with fail
  obtain ⟨W0, hW0⟩ : ∃ W0, (w.alloc (.cells #[.int .i64 k, .string nm, .slice a n cap, .string tx] 50)).alloc (.cells #[.int .i64 0, .string ⟨#[]⟩, .slice none 0 0, .string ⟨#[]⟩] 50) = W0 := ⟨_, rfl⟩
  rw [hW0] at M0 M1 HB0 HR
  simp only [hW0]
  have HW0 := hid hW0
  have HBc := hid ((Below.refl W0.heap.size W0).drew)
  have hbc := HBc.out
  obtain ⟨k0, k1, k2, k3, _, _, _, _⟩ := box4_later M0.out
  have R0 := hid k0
  have R1 := hid k1
  have R2 := hid k2
  have R3 := hid k3
  have hne : ¬ w.heap.size + 1 = w.heap.size := by omega
  obtain ⟨s0, s1, s2, s3, f0, f1, f2, f3⟩ := box4_later M1.out
  clear hW0 k0 k1 k2 k3
  go_region_held3 (fun w' => w'.cell? ⟨w.heap.size, 0, none⟩ = some (.int .i64 k) ∧ w'.cell? ⟨w.heap.size, 1, none⟩ = some (.string nm) ∧ w'.cell? ⟨w.heap.size, 2, none⟩ = some (.slice a n cap) ∧ w'.cell? ⟨w.heap.size, 3, none⟩ = some (.string tx)) (first | exact ⟨R0.out _ HBc.out, R1.out _ HBc.out, R2.out _ HBc.out, R3.out _ HBc.out⟩ | exact ⟨(set4_far hne).trans (R0.out _ HBc.out), (set4_far hne).trans (R1.out _ HBc.out), (set4_far hne).trans (R2.out _ HBc.out), (set4_far hne).trans (R3.out _ HBc.out)⟩ | go_keep)
    (first
      | (go_at_call 64; refine (CX.out _).mono ?_; rintro e w1 ⟨rfl, hb1⟩; replace HBc := hid (bb HBc.out hb1); have hbc := HBc.out; clear hb1)
      | (go_at_call 64; refine (CY.out _).mono ?_; rintro e w1 ⟨rfl, hb1⟩; replace HA1 := hid (HA1.out.below hb1); replace HBc := hid (bb HBc.out hb1); have hbc := HBc.out; clear hb1)
      | (go_at_call 67; refine (CA.out _ (HR.out.below HBc.out)).mono ?_; rintro e w1 ⟨a1, cc1, rfl, ha1, hb1⟩; have HA1 := hid (ha1.mono HBc.out.size); replace HBc := hid (bb HBc.out hb1); have hbc := HBc.out; clear hb1 ha1))
  have hw0 : w.heap.size + 1 < W0.heap.size := lt_of_heap M1.out
  have HA2 := hid (((((HA1.out.set hw0 0 (.int .i64 k)).set hw0 1 (.string nm)).set hw0 2 (.slice a1 n cc1)).set hw0 3 (.string tx)).mono HB0.out.size)
  have HM2 := hid (box_set4 (x' := .int .i64 k) (y' := .string nm) (z' := .slice a1 n cc1) (u' := .string tx) (blk_below M1.out HBc.out))
  have HB2 := hid (((((bb HB0.out HBc.out).setCell (p := ⟨w.heap.size + 1, 0, none⟩) (Nat.le_succ _) (.int .i64 k)).setCell (p := ⟨w.heap.size + 1, 1, none⟩) (Nat.le_succ _) (.string nm)).setCell (p := ⟨w.heap.size + 1, 2, none⟩) (Nat.le_succ _) (.slice a1 n cc1)).setCell (p := ⟨w.heap.size + 1, 3, none⟩) (Nat.le_succ _) (.string tx))
  rename_i hHeld
  clear hHeld s0 s1 s2 s3 f0 f1 f2 f3 R0 R1 R2 R3
  generalize ((((w1.setCell ⟨w.heap.size + 1, 0, none⟩ (.int .i64 k)).setCell ⟨w.heap.size + 1, 1, none⟩ (.string nm)).setCell ⟨w.heap.size + 1, 2, none⟩ (.slice a1 n cc1)).setCell ⟨w.heap.size + 1, 3, none⟩ (.string tx)) = W at *
  obtain ⟨⟨r0, r1, r2, r3⟩, _⟩ := box4 HM2.out
  go_wp2_with fail
  exact bodyPost_ret (v := .agg #[.int .i64 k, .string nm, .slice a1 n cc1, .string tx]) (by simp [results, Try.results41, go_sem, r0, r1, r2, r3]) rfl ⟨a1, cc1, rfl, HA2.out, HB2.out⟩

theorem elC_get (l : List (Nat × ByteArray)) (j : Nat) (h : j < l.length) : (elC l)[j * 2]? = some (.int .i64 (l[j].1 : Int)) ∧ (elC l)[j * 2 + 1]? = some (.string l[j].2) := by
  induction l generalizing j with
  | nil => simp at h
  | cons x l ih =>
    have e : elC (x :: l) = .int .i64 (x.1 : Int) :: .string x.2 :: elC l := rfl
    rw [e]
    match j with
    | 0 => exact ⟨rfl, rfl⟩
    | j + 1 =>
      have := ih j (by simpa using h)
      rw [show (j + 1) * 2 = j * 2 + 1 + 1 by omega]
      exact this

/-- The closing tokens of these. -/
def clL (L : List (Nat × ByteArray)) : List Tk := L.map fun x => ⟨2, x.2, [], ⟨#[]⟩⟩

/-- .. each with no attrs. -/
def clE (L : List (Nat × ByteArray)) : List Tn.E := L.map fun x => ⟨⟨2, x.2, [], ⟨#[]⟩⟩, none, 0⟩

theorem clE_map (L : List (Nat × ByteArray)) : (clE L).map (·.t) = clL L := by simp [clE, clL]

theorem clE_len (L : List (Nat × ByteArray)) : (clE L).length = L.length := by simp [clE]

set_option maxRecDepth 8000 in
set_option maxHeartbeats 8000000 in
theorem cClosings (v : Value) (B : Nat) (L : List (Nat × ByteArray)) (w : World) (hO : w.ownsRow B 80 2 v L.length (elC L)) (hz : ∀ x ∈ L, x.2.size ≤ 1048576) (hn : L.length ≤ 1000) :
    Calls Try.prog 38 #[v] w fun e w' => ∃ a' c', e = .returned (.slice a' L.length c') ∧ Tn.Row w' w.heap.size (.slice a' L.length c') (clE L) ∧ Below w.heap.size w w' := by
  obtain ⟨a, cap, hv⟩ := own_len hO
  have HO := hid hO
  have HZ := hid hz
  clear hO hz
  obtain ⟨n, hnn⟩ : ∃ n, L.length = n := ⟨_, rfl⟩
  have HN := hid hnn
  rw [hnn] at hn hv HO ⊢
  subst hv
  clear hnn
  go_enter Try.func38, Try.ntmps38
  go_wp2_with fail
  go_loopw [3, 8] (fun v k wr => ∃ i : Nat, k = .int .i64 (i : Int) ∧ i ≤ n ∧ Hid (Tn.Row wr w.heap.size v (clE (L.take i)) ∧ Below w.heap.size w wr)) (fun _ k _ => n - (intOf k).toNat)
  case atStart => exact ⟨0, rfl, Nat.zero_le _, Tn.Row.start0 _ _, Below.refl _ _⟩
  case round =>
    obtain ⟨i, rfl, hin, HX⟩ := hrel
    obtain ⟨hr, hb⟩ := HX.out
    have HRW := hid hr
    have HB := hid hb
    clear hr hb HX
    have HLE := hid (show (clE (L.take i)).length = i by rw [clE_len, List.length_take, HN.out]; omega)
    obtain ⟨a5, c5, hv5⟩ := HRW.out.slice
    rw [HLE.out] at hv5
    subst hv5
    by_cases hlt : i < n
    case neg =>
      have hie : i = n := by omega
      subst hie
      have HR2 := HRW.out
      rw [List.take_of_length_le (by rw [HN.out]; exact Nat.le_refl _)] at HR2
      have HR3 := hid HR2
      clear HR2
      go_wp2_with fail
      go_ret
      exact ⟨_, _, rfl, HR3.out, HB.out⟩
    have his : i < L.length := by rw [HN.out]; exact hlt
    have hinn : (i : Int) < (n : Int) := by omega
    obtain ⟨b, c, eb, hbl, _, hc, hcs⟩ := own_pos HO.out (by omega)
    obtain ⟨rfl, rfl⟩ : a = some ⟨b, 0, none⟩ ∧ cap = c := by cases eb; exact ⟨rfl, rfl⟩
    have hge := elC_get L i his
    have c1 := ((HB.out.cell (p := ⟨b, i * 2, none⟩) hbl).trans (hcs (i * 2) (by omega))).trans hge.1
    have c2 := ((HB.out.cell (p := ⟨b, i * 2 + 1, none⟩) hbl).trans (hcs (i * 2 + 1) (by omega))).trans hge.2
    have z1 := HZ.out _ (List.getElem_mem his)
    have HXE := hid (show clE (L.take (i + 1)) = clE (L.take i) ++ [⟨⟨2, L[i].2, [], ⟨#[]⟩⟩, none, 0⟩] by unfold clE; rw [take_snocN his, List.map_append]; rfl)
    have CX := hid (fun w => c_strings_Clone L[i].2 w z1)
    generalize L[i].2 = nm at *
    generalize L[i].1 = at1 at *
    have HBA := hid (HB.out.alloc HB.out.size (.cells #[.int .i64 (at1 : Int), .string nm] 80))
    have HLA := hid ((Below.refl wr.heap.size wr).alloc (Nat.le_refl _) (.cells #[.int .i64 (at1 : Int), .string nm] 80))
    clear z1 hge hcs eb
    go_wp2_with fail
    refine (CX.out _).mono ?_
    rintro e w1 ⟨rfl, hb1⟩
    have HB1 := hid (bb HBA.out hb1)
    have HR1 := hid ((HRW.out.below HLA.out).below hb1)
    have hsz1 := HB1.out.size
    clear hb1
    have M4 := hid (heap_alloc_new w1 (.cells #[.int .i64 2, .string nm, .slice none 0 0, .string ⟨#[]⟩] 50))
    have HL4 := hid ((Below.refl w1.heap.size w1).alloc (Nat.le_refl _) (.cells #[.int .i64 2, .string nm, .slice none 0 0, .string ⟨#[]⟩] 50))
    have HR4 := hid (HR1.out.below HL4.out)
    have HO4 := hid (Tn.Row.one (B := w1.heap.size) (e := ⟨⟨2, nm, [], ⟨#[]⟩⟩, none, 0⟩) (Nat.le_refl w1.heap.size) M4.out (fun h => absurd h (Nat.not_lt_zero _)) (fun g o h => absurd h (Nat.not_lt_zero _)))
    obtain ⟨g4, hg4, hone, hcell⟩ := HO4.out.cells (by simp)
    cases hg4
    clear hone
    have HCL := hid hcell
    clear hcell
    go_wp2_with (at_builtin; refine Tn.wpL_join _ rfl _ _ rfl w.heap.size _ (clE (L.take i)) [⟨⟨2, nm, [], ⟨#[]⟩⟩, none, 0⟩] rfl HR4.out w1.heap.size 1 1 rfl rfl HCL.out (fun x hx => ?d1) (List.pairwise_singleton _ _) (fun e he x hx => ?d2) ?d3 ?d4 ?_)
    case d1 =>
      rw [List.mem_singleton] at hx
      subst hx
      exact ⟨fun h => absurd h (Nat.not_lt_zero _), fun g o h => absurd h (Nat.not_lt_zero _)⟩
    case d2 =>
      rw [List.mem_singleton] at hx
      subst hx
      exact fun _ h => absurd h (Nat.not_lt_zero _)
    case d3 => rw [HLE.out]; simp; omega
    case d4 => simp; omega
    intro a6 c6 w6 hr6 hb6 _
    have HR6 := hid hr6
    have HB6 := hid ((bb HB1.out HL4.out).trans hb6)
    rw [← HXE.out] at HR6
    have HLL := hid (show (clE (L.take (i + 1))).length = (clE (L.take i)).length + 1 by rw [HXE.out, List.length_append]; rfl)
    clear hr6 hb6
    go_wp2_with fail
    go_roundw
    case rel => exact ⟨i + 1, by go_num, by omega, HR6.out, HB6.out⟩
    case measure => simp [intOf]; omega

end Go.Proofs.Ytcjeodgfpnecgaa

namespace Go.Proofs.Ytcjeodgfpnecgaa
open Go.RowKit
set_option linter.unusedVariables false
set_option linter.unusedSimpArgs false

/-- What TreeOk's loop knows. -/
structure OkSt (ts : List Tk) (w : World) (g i : Nat) (wr : World) : Prop where
  ok : ∀ j, j < i → NodeOk ts j
  pile : ∃ cur v, PileI wr w.heap.size g 0 cur 99 v (pileF ts i)
  bel : Below w.heap.size w wr

set_option maxRecDepth 8000 in
set_option maxHeartbeats 8000000 in
theorem cTreeOkI (a : Option Addr) (cap : Nat) (ts : List Tk) (w : World) (hR : TkRow w a ts) (hn : ts.length ≤ 1048576) (hz : TksSz 1048576 ts) :
    Calls Try.prog 37 #[.slice a ts.length cap] w fun e w' => e = .returned (.bool (treeB ts)) ∧ Below w.heap.size w w' := by
  obtain ⟨V, hV⟩ : ∃ V, treeB ts = V := ⟨_, rfl⟩
  have HV := hid hV
  rw [hV]
  have HF : Hid (¬ TreeP ts → V = false) := fun h => by rw [← HV.out]; exact treeB_f h
  have HT : Hid (TreeP ts → V = true) := fun h => by rw [← HV.out]; exact treeB_t h
  clear hV HV
  have HR := hid hR
  have HZ := hid hz
  have hmf : ∀ (fn : Fn) (first cap : Array Value) (w : World), (Instr.makeFunc fn first cap).run Try.prog w = .ok (.func fn first cap) w := fun _ _ _ _ => rfl
  clear hR hz
  obtain ⟨n, hnn⟩ : ∃ n, ts.length = n := ⟨_, rfl⟩
  have HN := hid hnn
  rw [hnn] at hn ⊢
  clear hnn
  by_cases h0 : n = 0
  case pos =>
    have HW := hid (HF.out (fun h => by have h1 := h.1; rw [HN.out] at h1; omega))
    subst h0
    go_enter Try.func37, Try.ntmps37
    go_wp2_with fail
    go_ret
    exact ⟨by rw [HW.out]; rfl, Below.refl _ _⟩
  have hd0 : ((n : Int) == 0) = false := by simp; omega
  by_cases h50 : n ≤ 50
  case neg =>
    have HW := hid (HF.out (fun h => h50 (by have h2 := h.2.1; rw [HN.out] at h2; exact h2)))
    have hd1 : decide ((50 : Int) < (n : Int)) = true := by simp; omega
    go_enter Try.func37, Try.ntmps37
    go_wp2_with fail
    go_ret
    exact ⟨by rw [HW.out]; rfl, Below.refl _ _⟩
  have hd1 : decide ((50 : Int) < (n : Int)) = false := by simp; omega
  have h0s : 0 < ts.length := by rw [HN.out]; omega
  have hin0 : (0 : Int) < (n : Int) := by omega
  obtain ⟨b, o, aa, ca, rfl, hb, c0, c1, c2, c3, cr⟩ := HR.out 0 h0s
  simp only [Nat.zero_mul, Nat.add_zero] at c0 c1 c2 c3
  have CX := hid (fun wx => cIsText ts[0].kind ts[0].name aa ts[0].attrs.length ca ts[0].text wx (HZ.out _ (List.getElem_mem h0s)).1)
  by_cases hel : ts[0].name.size = 0
  case pos =>
    have HW := hid (HF.out (fun h => by obtain ⟨_, h'⟩ := h.2.2.2.1; exact h' hel))
    rw [decide_eq_true hel] at CX
    clear cr hel
    generalize ts[0].name = nm at *
    generalize ts[0].kind = kd at *
    generalize ts[0].attrs.length = al at *
    generalize ts[0].text = tx at *
    go_enter Try.func37, Try.ntmps37
    go_wp2_with fail
    refine (CX.out _).mono ?_
    rintro e w1 ⟨rfl, hb1⟩
    have HB1 := hid hb1
    clear hb1
    go_wp2_with fail
    go_ret
    exact ⟨by rw [HW.out]; rfl, HB1.out⟩
  have HEL := hid (show elN ts 0 from ⟨h0s, hel⟩)
  rw [decide_eq_false hel] at CX
  have HPA := hid (parI_at h0s)
  clear cr hel
  by_cases hp : ts[0].kind = -1
  case neg =>
    have HW := hid (HF.out (fun h => hp (by rw [← HPA.out]; exact h.2.2.1)))
    have hd2 : (ts[0].kind == -1) = false := by simpa using hp
    clear HPA hp
    generalize ts[0].name = nm at *
    generalize ts[0].kind = kd at *
    generalize ts[0].attrs.length = al at *
    generalize ts[0].text = tx at *
    go_enter Try.func37, Try.ntmps37
    go_wp2_with fail
    refine (CX.out _).mono ?_
    rintro e w1 ⟨rfl, hb1⟩
    have HB1 := hid hb1
    obtain ⟨hc, _⟩ := bcell hb1
    clear hb1
    go_wp2_with fail
    go_ret
    exact ⟨by rw [HW.out]; rfl, HB1.out⟩
  have HP := hid (show parI ts 0 = -1 by rw [HPA.out]; exact hp)
  rw [hp] at c0 CX
  clear HPA hp
  generalize ts[0].name = nm at *
  generalize ts[0].attrs.length = al at *
  generalize ts[0].text = tx at *
  go_enter Try.func37, Try.ntmps37
  go_wp2_with fail
  refine (CX.out _).mono ?_
  rintro e w1 ⟨rfl, hb1⟩
  have HB1 := hid (hb1.alloc hb1.size (.cells #[.slice none 0 0] 99))
  have hsz1 := hb1.size
  obtain ⟨hc, _⟩ := bcell hb1
  clear hb1
  go_wp2_with fail
  clear hc c0 c1 c2 c3 CX
  have M1 := hid (heap_alloc_new w1 (.cells #[.slice none 0 0] 99))
  go_loopw [29] (fun k wr => ∃ i : Nat, k = .int .i64 (i : Int) ∧ i ≤ n ∧ Hid (OkSt ts w w1.heap.size i wr)) (fun k _ => n - (intOf k).toNat)
  case atStart => exact ⟨0, rfl, Nat.zero_le _, ⟨fun j h => by omega, ⟨_, _, hsz1, M1.out, rfl, World.ownsRow_nil _ _ _ _, by decide⟩, HB1.out⟩⟩
  case round =>
    clear M1 HB1
    obtain ⟨i, rfl, hi, ST⟩ := hrel
    by_cases hlt : i < n
    case neg =>
      have hie : i = n := by omega
      have HW := hid (HT.out ⟨by rw [HN.out]; omega, by rw [HN.out]; exact h50, HP.out, HEL.out, fun j hj => ST.out.ok j (by rw [hie, ← HN.out]; exact hj)⟩)
      subst hie
      go_wp2_with fail
      go_ret
      exact ⟨by rw [HW.out]; rfl, ST.out.bel⟩
    have his : i < ts.length := by rw [HN.out]; exact hlt
    have hin : (i : Int) < (n : Int) := by omega
    obtain ⟨cur, pv, hpile⟩ := ST.out.pile
    have HPL := hid hpile
    obtain ⟨b', o', aa, ca, e', hb, k0, k1, k2, k3, cr⟩ := HR.out i his
    obtain ⟨rfl, rfl⟩ : b = b' ∧ o = o' := by cases e'; exact ⟨rfl, rfl⟩
    have c0 := (ST.out.bel.cell (p := ⟨b, o + i * 4, none⟩) hb).trans k0
    have c1 := (ST.out.bel.cell (p := ⟨b, o + i * 4 + 1, none⟩) hb).trans k1
    have c2 := (ST.out.bel.cell (p := ⟨b, o + i * 4 + 2, none⟩) hb).trans k2
    have c3 := (ST.out.bel.cell (p := ⟨b, o + i * 4 + 3, none⟩) hb).trans k3
    clear e' hpile k0 k1 k2 k3
    have HPI := hid (parI_at his)
    have HTT := hid (show nodeB ts[i] = nodeB ts[i] from rfl)
    obtain ⟨t, ht⟩ : ∃ t, ts[i] = t := ⟨_, rfl⟩
    have HZt := hid (HZ.out _ (List.getElem_mem his))
    have HTE := hid ht
    rw [ht] at c0 c1 c2 c3 cr HPI HZt
    obtain ⟨tk, tn, tl, tx⟩ := t
    simp only at c0 c1 c2 c3 cr HPI
    have HO := hid ((Below.refl wr.heap.size wr).alloc (Nat.le_refl _) (.cells #[.int .i64 tk, .string tn, .slice aa tl.length ca, .string tx] 36))
    have M0 := hid (heap_alloc_new wr (.cells #[.int .i64 tk, .string tn, .slice aa tl.length ca, .string tx] 36))
    have hgl := HPL.out.lt
    have hgw := HPL.out.ge
    have hpl := pile_len ts i
    have CD := hid (cPiDown w.heap.size w1.heap.size 0 cur 99 pv (pileF ts i) tk wr.heap.size (wr.alloc (.cells #[.int .i64 tk, .string tn, .slice aa tl.length ca, .string tx] 36)) (HPL.out.below HO.out) (by omega) (by simp) (by omega) (box4 M0.out).1.1)
    have HBA := hid (ST.out.bel.alloc ST.out.bel.size (.cells #[.int .i64 tk, .string tn, .slice aa tl.length ca, .string tx] 36))
    obtain ⟨m, hm⟩ : ∃ m, tl.length = m := ⟨_, rfl⟩
    have HM := hid hm
    rw [hm] at c2 HO M0 CD HBA
    have CR := hid cr
    clear ht cr hm
    go_wp2_with fail
    refine CD.out.mono ?_
    rintro e w2 ⟨⟨r, rfl⟩, ⟨cur2, v2, hp2, _, _⟩, hk2⟩
    have HP2 := hid hp2
    have M2 := hid ((hk2.block wr.heap.size (by simp) (by omega)).trans M0.out)
    have HB2 := hid (HBA.out.trans (hk2.below (by simp; have := ST.out.bel.size; omega) (fun k hk => by subst hk; exact hgw)))
    clear hp2 hk2 CD c0 c1 c2 c3 HPL HO M0 HBA
    rw [← HPI.out] at HP2
    have hu0 := fun j hj => (ST.out.ok j hj).2.1
    have HU := hid hu0
    have hdl := dw_len (notP (parI ts i)) (pileF ts i)
    have CS := hid (cPiSize _ _ _ _ _ _ _ w2 HP2.out)
    obtain ⟨d, hd⟩ : ∃ d, ((pileF ts i).dropWhile (notP (parI ts i))).length = d := ⟨_, rfl⟩
    have HD := hid hd
    rw [hd] at CS hdl
    clear hu0 hd
    by_cases hu : UpOk ts i
    case neg =>
      have HW := hid (HF.out (fun h => hu (h.2.2.2.2 i his).2.1))
      have hip : 0 < i := by
        rcases Nat.eq_zero_or_pos i with h' | h'
        · exact absurd (Or.inl h') hu
        · exact h'
      have hd0' : d = 0 := by
        rcases Nat.eq_zero_or_pos d with h' | h'
        · exact h'
        · exact absurd ((pile_up HU.out hip).2 (by rw [HD.out]; exact h')) hu
      subst hd0'
      go_wp2_with fail
      refine CS.out.mono ?_
      rintro e w3 ⟨rfl, rfl⟩
      go_wp2_with fail
      go_ret
      exact ⟨by rw [HW.out]; rfl, HB2.out⟩
    have HC := hid (pile_ok HU.out hu)
    rw [HD.out] at HC
    by_cases h9 : d < 9
    case neg =>
      have HW := hid (HF.out (fun h => h9 (by have h' := (h.2.2.2.2 i his).2.2.1; rw [HC.out] at h'; omega)))
      have hd9 : decide ((9 : Int) ≤ (d : Int)) = true := by simp; omega
      have hdz : ((d : Int) == 0) = false := by simp; omega
      by_cases hi0 : i = 0
      · exfalso
        have := pile_len ts i
        omega
      have hip : 0 < i := by omega
      go_wp2_with fail
      refine CS.out.mono ?_
      rintro e w3 ⟨rfl, rfl⟩
      go_wp2_with fail
      refine CS.out.mono ?_
      rintro e w3 ⟨rfl, rfl⟩
      go_wp2_with fail
      go_ret
      exact ⟨by rw [HW.out]; rfl, HB2.out⟩
    have hd9 : decide ((9 : Int) ≤ (d : Int)) = false := by simp; omega
    go_upto_region 8 with fail
    go_cut [45] from 30 to 60 (fun v wv => v = .bool false ∧ wv = w2)
    case first =>
      by_cases hi0 : i = 0
      · have hid0 : decide (0 < i) = false := by simp; omega
        clear hi0
        go_wp2_with fail
        refine CS.out.mono ?_
        rintro e w3 ⟨rfl, rfl⟩
        go_wp2_with fail
        go_meet
        exact ⟨rfl, rfl⟩
      · have hip : 0 < i := by omega
        have hdp := (pile_up HU.out hip).1 hu
        rw [HD.out] at hdp
        have hdz : ((d : Int) == 0) = false := by simp; omega
        go_wp2_with fail
        refine CS.out.mono ?_
        rintro e w3 ⟨rfl, rfl⟩
        go_wp2_with fail
        refine CS.out.mono ?_
        rintro e w3 ⟨rfl, rfl⟩
        go_wp2_with fail
        go_meet
        exact ⟨rfl, rfl⟩
    case rest =>
      obtain ⟨rfl, rfl⟩ := hcut
      obtain ⟨⟨x0, x1, x2, x3⟩, _⟩ := box4 M2.out
      clear CS hd9 hdl hpl
      have HRW := hid (HR.out.below HB2.out)
      have CRW := hid (CR.out.below HB2.out)
      have CT := hid (fun wx => cTokenOf ⟨tk, tn, tl, tx⟩ aa ca wx HZt.out)
      have CO := hid (fun wx (h : AtRow wx aa tl) => cTokenOkI (tokOfN ⟨tk, tn, tl, tx⟩) aa ca wx (by rw [tokOfN_attrs]; exact h) (tokOfN_sz HZt.out))
      rw [tokOfN_B] at CO
      have CB := hid (fun wx (h : TkRow wx (some ⟨b, o, none⟩) ts) => cBeside (some ⟨b, o, none⟩) cap ts i wx h his (by rw [HN.out]; exact hn) HZ.out)
      rw [HN.out] at CB
      have HFN : Hid (nodeB ⟨tk, tn, tl, tx⟩ = false → V = false) := fun h => HF.out (fun hh => by
        obtain ⟨⟨_, h1⟩, _⟩ := hh.2.2.2.2 i his
        rw [HTE.out, h] at h1
        cases h1)
      have e3 : tkV ⟨tk, tn, tl, tx⟩ aa ca = .agg #[.int .i64 tk, .string tn, .slice aa m ca, .string tx] := by rw [← HM.out]
      rw [e3] at CT
      generalize tkV (tokOfN ⟨tk, tn, tl, tx⟩) aa ca = TV at *
      clear e3
      cases q1 : nodeB ⟨tk, tn, tl, tx⟩
      · rw [q1] at CO HFN
        have HW := hid (HFN.out rfl)
        clear q1 CB
        go_wp2_with fail
        refine (CT.out _).mono ?_
        rintro e w3 ⟨rfl, hb3⟩
        have HB3 := hid (bb HB2.out hb3)
        have CR3 := hid (CRW.out.below hb3)
        clear hb3
        go_wp2_with fail
        refine (CO.out _ CR3.out).mono ?_
        rintro e w4 ⟨rfl, hb4⟩
        have HB4 := hid (bb HB3.out hb4)
        clear hb4
        go_wp2_with fail
        go_ret
        exact ⟨by rw [HW.out]; rfl, HB4.out⟩
      rw [q1] at CO
      have HQ1 := hid q1
      clear q1 HFN
      cases q2 : twinB ts i
      case true =>
        have HW := hid (HF.out (fun h => by rw [twinB_f (h.2.2.2.2 i his).2.2.2] at q2; cases q2))
        rw [q2] at CB
        clear q2
        go_wp2_with fail
        refine (CT.out _).mono ?_
        rintro e w3 ⟨rfl, hb3⟩
        have HB3 := hid (bb HB2.out hb3)
        have CR3 := hid (CRW.out.below hb3)
        clear hb3
        go_wp2_with fail
        refine (CO.out _ CR3.out).mono ?_
        rintro e w4 ⟨rfl, hb4⟩
        have HB4 := hid (bb HB3.out hb4)
        clear hb4
        go_wp2_with fail
        refine (CB.out _ (HR.out.below HB4.out)).mono ?_
        rintro e w5 ⟨rfl, hb5⟩
        have HB5 := hid (bb HB4.out hb5)
        clear hb5
        go_wp2_with fail
        go_ret
        exact ⟨by rw [HW.out]; rfl, HB5.out⟩
      rw [q2] at CB
      have HOK := hid (show ∀ j, j < i + 1 → NodeOk ts j from fun j hj => by
        rcases Nat.lt_or_eq_of_le (Nat.le_of_lt_succ hj) with h' | rfl
        · exact ST.out.ok j h'
        · exact ⟨⟨his, by rw [HTE.out]; exact HQ1.out⟩, hu, by rw [HC.out]; omega, fun h => by rw [twinB_t h] at q2; cases q2⟩)
      clear q2
      go_wp2_with fail
      refine (CT.out _).mono ?_
      rintro e w3 ⟨rfl, hb3⟩
      have HB3 := hid (bb HB2.out hb3)
      have CR3 := hid (CRW.out.below hb3)
      have M3 := hid (blk_below M2.out hb3)
      have HP3 := hid (HP2.out.below hb3)
      clear hb3 x0 x1 x2 x3
      go_wp2_with fail
      refine (CO.out _ CR3.out).mono ?_
      rintro e w4 ⟨rfl, hb4⟩
      have HB4 := hid (bb HB3.out hb4)
      have M4 := hid (blk_below M3.out hb4)
      have HP4 := hid (HP3.out.below hb4)
      clear hb4
      go_wp2_with fail
      refine (CB.out _ (HR.out.below HB4.out)).mono ?_
      rintro e w5 ⟨rfl, hb5⟩
      have HB5 := hid (bb HB4.out hb5)
      have M5 := hid (blk_below M4.out hb5)
      have HP5 := hid (HP4.out.below hb5)
      obtain ⟨⟨x0, x1, x2, x3⟩, _⟩ := box4 M5.out
      have CX := hid (fun wx => cIsText tk tn aa m ca tx wx HZt.out.1)
      have HEB := hid (elB_at his)
      rw [HTE.out] at HEB
      simp only at HEB
      clear hb5 CT CO CB
      by_cases e1 : tn.size = 0
      · rw [decide_eq_true e1] at CX HEB
        have HPF := hid (show pileF ts (i + 1) = (pileF ts i).dropWhile (notP (parI ts i)) by rw [pileF, HEB.out]; rfl)
        go_wp2_with fail
        refine (CX.out _).mono ?_
        rintro e w6 ⟨rfl, hb6⟩
        have HB6 := hid (bb HB5.out hb6)
        have HP6 := hid (HP5.out.below hb6)
        clear hb6
        go_wp2_with fail
        go_roundw
        case rel => exact ⟨i + 1, by go_num, by omega, ⟨HOK.out, ⟨_, _, by rw [HPF.out]; exact HP6.out⟩, HB6.out⟩⟩
        case measure => simp [intOf]; omega
      · rw [decide_eq_false e1] at CX HEB
        have HPF := hid (show pileF ts (i + 1) = i :: (pileF ts i).dropWhile (notP (parI ts i)) by rw [pileF, HEB.out]; rfl)
        go_wp2_with fail
        refine (CX.out _).mono ?_
        rintro e w6 ⟨rfl, hb6⟩
        have HB6 := hid (bb HB5.out hb6)
        have HP6 := hid (HP5.out.below hb6)
        have CL := hid (cPiLay _ _ _ _ _ _ i _ w6 HP6.out (by rw [HD.out]; omega))
        clear hb6
        go_wp2_with fail
        refine CL.out.mono ?_
        rintro e w7 ⟨rfl, ⟨v7, hp7⟩, hb7⟩
        have HP7 := hid hp7
        have HB7 := hid (HB6.out.trans hb7)
        clear hp7 hb7
        go_wp2_with fail
        go_roundw
        case rel => exact ⟨i + 1, by go_num, by omega, ⟨HOK.out, ⟨_, _, by rw [HPF.out]; exact HP7.out⟩, HB7.out⟩⟩
        case measure => simp [intOf]; omega

end Go.Proofs.Ytcjeodgfpnecgaa
