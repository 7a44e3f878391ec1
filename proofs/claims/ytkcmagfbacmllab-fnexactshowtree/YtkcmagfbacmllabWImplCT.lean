/- Contract of copiedToken of the program. -/
import Derived.Test.YtkcmagfbacmllabWImplC
namespace Go.Proofs.Ytkcmagfbacmllab
open Go.RowKit
set_option linter.unusedVariables false
set_option linter.unusedSimpArgs false

/-- Four cells, in whatever world behind. -/
theorem box4_later {W0 : World} {g : Nat} {x y z u : Value} {T : TypeId} (h : W0.heap[g]? = some (.cells #[x, y, z, u] T (0, 0))) :
    (∀ W', Below W0.heap.size W0 W' → W'.cell? ⟨g, 0, none⟩ = some x) ∧ (∀ W', Below W0.heap.size W0 W' → W'.cell? ⟨g, 1, none⟩ = some y) ∧ (∀ W', Below W0.heap.size W0 W' → W'.cell? ⟨g, 2, none⟩ = some z) ∧ (∀ W', Below W0.heap.size W0 W' → W'.cell? ⟨g, 3, none⟩ = some u)
      ∧ (∀ W', Below W0.heap.size W0 W' → W'.frozen? ⟨g, 0, none⟩ = false) ∧ (∀ W', Below W0.heap.size W0 W' → W'.frozen? ⟨g, 1, none⟩ = false) ∧ (∀ W', Below W0.heap.size W0 W' → W'.frozen? ⟨g, 2, none⟩ = false) ∧ (∀ W', Below W0.heap.size W0 W' → W'.frozen? ⟨g, 3, none⟩ = false) := by
  have k : ∀ W', Below W0.heap.size W0 W' → W'.heap[g]? = some (.cells #[x, y, z, u] T (0, 0)) := fun W' hb => (hb.block g (lt_of_heap h)).trans h
  exact ⟨fun W' hb => (box4 (k W' hb)).1.1, fun W' hb => (box4 (k W' hb)).1.2.1, fun W' hb => (box4 (k W' hb)).1.2.2.1, fun W' hb => (box4 (k W' hb)).1.2.2.2, fun W' hb => (box4 (k W' hb)).2.1, fun W' hb => (box4 (k W' hb)).2.2.1, fun W' hb => (box4 (k W' hb)).2.2.2.1, fun W' hb => (box4 (k W' hb)).2.2.2.2⟩

theorem OwnAts.mono {w : World} {B B' : Nat} {a : Option Addr} {l : List At} (h : OwnAts w B' a l) (hB : B ≤ B') : OwnAts w B a l := by
  intro hl
  obtain ⟨g, o, cu, e, h1, h2, h3⟩ := h hl
  exact ⟨g, o, cu, e, Nat.le_trans hB h1, h2, h3⟩

theorem OwnAts.set {w : World} {B : Nat} {a : Option Addr} {l : List At} (h : OwnAts w B a l) {g : Nat} (hg : g < B) (o : Nat) (v : Value) : OwnAts (w.setCell ⟨g, o, none⟩ v) B a l := by
  intro hl
  obtain ⟨g', o', cu, e, h1, h2, h3⟩ := h hl
  exact ⟨g', o', cu, e, h1, (heap_setCell_other w ⟨g, o, none⟩ g' v (by show ¬ g' = g; omega)).trans h2, h3⟩

theorem box_set4 {w1 : World} {b : Nat} {x y z u x' y' z' u' : Value} {T : TypeId} (h : w1.heap[b]? = some (.cells #[x, y, z, u] T (0, 0))) : ((((w1.setCell ⟨b, 0, none⟩ x').setCell ⟨b, 1, none⟩ y').setCell ⟨b, 2, none⟩ z').setCell ⟨b, 3, none⟩ u').heap[b]? = some (.cells #[x', y', z', u'] T (0, 0)) :=
  heap_setCell_same _ _ _ _ _ _ (heap_setCell_same _ _ _ _ _ _ (heap_setCell_same _ _ _ _ _ _ (heap_setCell_same w1 b 0 _ _ x' h)))

theorem set4_far {w : World} {g b j : Nat} {x y z u : Value} (h : ¬ g = b) : ((((w.setCell ⟨g, 0, none⟩ x).setCell ⟨g, 1, none⟩ y).setCell ⟨g, 2, none⟩ z).setCell ⟨g, 3, none⟩ u).cell? ⟨b, j, none⟩ = w.cell? ⟨b, j, none⟩ := by
  rw [World.cell?_setCell_far _ _ _ _ h, World.cell?_setCell_far _ _ _ _ h, World.cell?_setCell_far _ _ _ _ h, World.cell?_setCell_far _ _ _ _ h]

set_option maxRecDepth 8000 in
set_option maxHeartbeats 8000000 in
theorem cCopiedToken (t : Tk) (a : Option Addr) (cap : Nat) (w : World) (hR : AtRow w a t.attrs) (hz : TkSz 1048576 t) :
    Calls Try.prog 51 #[tkV t a cap] w fun e w' => ∃ a' c', e = .returned (tkV t a' c') ∧ OwnAts w' w.heap.size a' t.attrs ∧ Below w.heap.size w w' := by
  obtain ⟨k, nm, l, tx⟩ := t
  obtain ⟨z1, z2, z3, z4⟩ := hz
  simp only at z1 z2 z3 z4 hR
  simp only [tkV]
  have HB0 := hid (((Below.refl w.heap.size w).alloc (Nat.le_refl _) (.cells #[.int .i64 k, .string nm, .slice a l.length cap, .string tx] 53)).alloc (by simp) (.cells #[.int .i64 0, .string ⟨#[]⟩, .slice none 0 0, .string ⟨#[]⟩] 53))
  have M0 := hid (blk_alloc (heap_alloc_new w (.cells #[.int .i64 k, .string nm, .slice a l.length cap, .string tx] 53)) (.cells #[.int .i64 0, .string ⟨#[]⟩, .slice none 0 0, .string ⟨#[]⟩] 53))
  have M1 := hid (heap_two w (.cells #[.int .i64 k, .string nm, .slice a l.length cap, .string tx] 53) (.cells #[.int .i64 0, .string ⟨#[]⟩, .slice none 0 0, .string ⟨#[]⟩] 53))
  have HR := hid (hR.below HB0.out)
  have CX := hid (fun w => c_strings_Clone nm w z1)
  have CY := hid (fun w => c_strings_Clone tx w z4)
  have CA := hid (fun w (h : AtRow w a l) => cCopiedAttrs a cap l w h z3 z2)
  clear hR z1 z2 z3 z4
  obtain ⟨n, hnn⟩ : ∃ n, l.length = n := ⟨_, rfl⟩
  have HN := hid hnn
  rw [hnn] at HB0 M0 M1 HR CA ⊢
  clear hnn
  go_enter Try.func51, Try.ntmps51
  go_wp2_with fail
  obtain ⟨W0, hW0⟩ : ∃ W0, (w.alloc (.cells #[.int .i64 k, .string nm, .slice a n cap, .string tx] 53)).alloc (.cells #[.int .i64 0, .string ⟨#[]⟩, .slice none 0 0, .string ⟨#[]⟩] 53) = W0 := ⟨_, rfl⟩
  rw [hW0] at M0 M1 HB0 HR
  simp only [hW0]
  have HW0 := hid hW0
  have HBc := hid ((Below.refl W0.heap.size W0).drew)
  have hbc := HBc.out
  obtain ⟨k0, k1, k2, k3, _, _, _, _⟩ := box4_later M0.out
  have R0 := hid k0
  have R1 := hid k1
  have R2 := hid k2
  have R3 := hid k3
  have hne : ¬ w.heap.size + 1 = w.heap.size := by omega
  obtain ⟨s0, s1, s2, s3, f0, f1, f2, f3⟩ := box4_later M1.out
  clear hW0 k0 k1 k2 k3
  go_region_held3 (fun w' => w'.cell? ⟨w.heap.size, 0, none⟩ = some (.int .i64 k) ∧ w'.cell? ⟨w.heap.size, 1, none⟩ = some (.string nm) ∧ w'.cell? ⟨w.heap.size, 2, none⟩ = some (.slice a n cap) ∧ w'.cell? ⟨w.heap.size, 3, none⟩ = some (.string tx)) (first | exact ⟨R0.out _ HBc.out, R1.out _ HBc.out, R2.out _ HBc.out, R3.out _ HBc.out⟩ | exact ⟨(set4_far hne).trans (R0.out _ HBc.out), (set4_far hne).trans (R1.out _ HBc.out), (set4_far hne).trans (R2.out _ HBc.out), (set4_far hne).trans (R3.out _ HBc.out)⟩ | go_keep)
    (first
      | (go_at_call 74; refine (CX.out _).mono ?_; rintro e w1 ⟨rfl, hb1⟩; replace HBc := hid (bb HBc.out hb1); have hbc := HBc.out; clear hb1)
      | (go_at_call 74; refine (CY.out _).mono ?_; rintro e w1 ⟨rfl, hb1⟩; replace HA1 := hid (HA1.out.below hb1); replace HBc := hid (bb HBc.out hb1); have hbc := HBc.out; clear hb1)
      | (go_at_call 77; refine (CA.out _ (HR.out.below HBc.out)).mono ?_; rintro e w1 ⟨a1, cc1, rfl, ha1, hb1⟩; have HA1 := hid (ha1.mono HBc.out.size); replace HBc := hid (bb HBc.out hb1); have hbc := HBc.out; clear hb1 ha1))
  have hw0 : w.heap.size + 1 < W0.heap.size := lt_of_heap M1.out
  have HA2 := hid (((((HA1.out.set hw0 0 (.int .i64 k)).set hw0 1 (.string nm)).set hw0 2 (.slice a1 n cc1)).set hw0 3 (.string tx)).mono HB0.out.size)
  have HM2 := hid (box_set4 (x' := .int .i64 k) (y' := .string nm) (z' := .slice a1 n cc1) (u' := .string tx) (blk_below M1.out HBc.out))
  have HB2 := hid (((((bb HB0.out HBc.out).setCell (p := ⟨w.heap.size + 1, 0, none⟩) (Nat.le_succ _) (.int .i64 k)).setCell (p := ⟨w.heap.size + 1, 1, none⟩) (Nat.le_succ _) (.string nm)).setCell (p := ⟨w.heap.size + 1, 2, none⟩) (Nat.le_succ _) (.slice a1 n cc1)).setCell (p := ⟨w.heap.size + 1, 3, none⟩) (Nat.le_succ _) (.string tx))
  rename_i hHeld
  clear hHeld s0 s1 s2 s3 f0 f1 f2 f3 R0 R1 R2 R3
  generalize ((((w1.setCell ⟨w.heap.size + 1, 0, none⟩ (.int .i64 k)).setCell ⟨w.heap.size + 1, 1, none⟩ (.string nm)).setCell ⟨w.heap.size + 1, 2, none⟩ (.slice a1 n cc1)).setCell ⟨w.heap.size + 1, 3, none⟩ (.string tx)) = W at *
  obtain ⟨⟨r0, r1, r2, r3⟩, _⟩ := box4 HM2.out
  go_wp2_with fail
  exact bodyPost_ret (v := .agg #[.int .i64 k, .string nm, .slice a1 n cc1, .string tx]) (by simp [results, Try.results51, go_sem, r0, r1, r2, r3]) rfl ⟨a1, cc1, rfl, HA2.out, HB2.out⟩

theorem elC_get (l : List (Nat × ByteArray)) (j : Nat) (h : j < l.length) : (elC l)[j * 2]? = some (.int .i64 (l[j].1 : Int)) ∧ (elC l)[j * 2 + 1]? = some (.string l[j].2) := by
  induction l generalizing j with
  | nil => simp at h
  | cons x l ih =>
    have e : elC (x :: l) = .int .i64 (x.1 : Int) :: .string x.2 :: elC l := rfl
    rw [e]
    match j with
    | 0 => exact ⟨rfl, rfl⟩
    | j + 1 =>
      have := ih j (by simpa using h)
      rw [show (j + 1) * 2 = j * 2 + 1 + 1 by omega]
      exact this

/-- The closing tokens of these. -/
def clL (L : List (Nat × ByteArray)) : List Tk := L.map fun x => ⟨2, x.2, [], ⟨#[]⟩⟩

/-- .. each with no attrs. -/
def clE (L : List (Nat × ByteArray)) : List Tn.E := L.map fun x => ⟨⟨2, x.2, [], ⟨#[]⟩⟩, none, 0⟩

theorem clE_map (L : List (Nat × ByteArray)) : (clE L).map (·.t) = clL L := by simp [clE, clL]

theorem clE_len (L : List (Nat × ByteArray)) : (clE L).length = L.length := by simp [clE]

set_option maxRecDepth 8000 in
set_option maxHeartbeats 8000000 in
theorem cClosings (v : Value) (B : Nat) (L : List (Nat × ByteArray)) (w : World) (hO : w.ownsRow B 76 2 v L.length (elC L)) (hz : ∀ x ∈ L, x.2.size ≤ 1048576) (hn : L.length ≤ 1000) :
    Calls Try.prog 48 #[v] w fun e w' => ∃ a' c', e = .returned (.slice a' L.length c') ∧ Tn.Row w' w.heap.size (.slice a' L.length c') (clE L) ∧ Below w.heap.size w w' := by
  obtain ⟨a, cap, hv⟩ := own_len hO
  have HO := hid hO
  have HZ := hid hz
  clear hO hz
  obtain ⟨n, hnn⟩ : ∃ n, L.length = n := ⟨_, rfl⟩
  have HN := hid hnn
  rw [hnn] at hn hv HO ⊢
  subst hv
  clear hnn
  go_enter Try.func48, Try.ntmps48
  go_wp2_with fail
  go_loopw [3, 8] (fun v k wr => ∃ i : Nat, k = .int .i64 (i : Int) ∧ i ≤ n ∧ Hid (Tn.Row wr w.heap.size v (clE (L.take i)) ∧ Below w.heap.size w wr)) (fun _ k _ => n - (intOf k).toNat)
  case atStart => exact ⟨0, rfl, Nat.zero_le _, Tn.Row.start0 _ _, Below.refl _ _⟩
  case round =>
    obtain ⟨i, rfl, hin, HX⟩ := hrel
    obtain ⟨hr, hb⟩ := HX.out
    have HRW := hid hr
    have HB := hid hb
    clear hr hb HX
    have HLE := hid (show (clE (L.take i)).length = i by rw [clE_len, List.length_take, HN.out]; omega)
    obtain ⟨a5, c5, hv5⟩ := HRW.out.slice
    rw [HLE.out] at hv5
    subst hv5
    by_cases hlt : i < n
    case neg =>
      have hie : i = n := by omega
      subst hie
      have HR2 := HRW.out
      rw [List.take_of_length_le (by rw [HN.out]; exact Nat.le_refl _)] at HR2
      have HR3 := hid HR2
      clear HR2
      go_wp2_with fail
      go_ret
      exact ⟨_, _, rfl, HR3.out, HB.out⟩
    have his : i < L.length := by rw [HN.out]; exact hlt
    have hinn : (i : Int) < (n : Int) := by omega
    obtain ⟨b, c, eb, hbl, _, hc, hcs⟩ := own_pos HO.out (by omega)
    obtain ⟨rfl, rfl⟩ : a = some ⟨b, 0, none⟩ ∧ cap = c := by cases eb; exact ⟨rfl, rfl⟩
    have hge := elC_get L i his
    have c1 := ((HB.out.cell (p := ⟨b, i * 2, none⟩) hbl).trans (hcs (i * 2) (by omega))).trans hge.1
    have c2 := ((HB.out.cell (p := ⟨b, i * 2 + 1, none⟩) hbl).trans (hcs (i * 2 + 1) (by omega))).trans hge.2
    have z1 := HZ.out _ (List.getElem_mem his)
    have HXE := hid (show clE (L.take (i + 1)) = clE (L.take i) ++ [⟨⟨2, L[i].2, [], ⟨#[]⟩⟩, none, 0⟩] by unfold clE; rw [take_snocN his, List.map_append]; rfl)
    have CX := hid (fun w => c_strings_Clone L[i].2 w z1)
    generalize L[i].2 = nm at *
    generalize L[i].1 = at1 at *
    have HBA := hid (HB.out.alloc HB.out.size (.cells #[.int .i64 (at1 : Int), .string nm] 76))
    have HLA := hid ((Below.refl wr.heap.size wr).alloc (Nat.le_refl _) (.cells #[.int .i64 (at1 : Int), .string nm] 76))
    clear z1 hge hcs eb
    go_wp2_with fail
    refine (CX.out _).mono ?_
    rintro e w1 ⟨rfl, hb1⟩
    have HB1 := hid (bb HBA.out hb1)
    have HR1 := hid ((HRW.out.below HLA.out).below hb1)
    have hsz1 := HB1.out.size
    clear hb1
    have M4 := hid (heap_alloc_new w1 (.cells #[.int .i64 2, .string nm, .slice none 0 0, .string ⟨#[]⟩] 53))
    have HL4 := hid ((Below.refl w1.heap.size w1).alloc (Nat.le_refl _) (.cells #[.int .i64 2, .string nm, .slice none 0 0, .string ⟨#[]⟩] 53))
    have HR4 := hid (HR1.out.below HL4.out)
    have HO4 := hid (Tn.Row.one (B := w1.heap.size) (e := ⟨⟨2, nm, [], ⟨#[]⟩⟩, none, 0⟩) (Nat.le_refl w1.heap.size) M4.out (fun h => absurd h (Nat.not_lt_zero _)) (fun g o h => absurd h (Nat.not_lt_zero _)))
    obtain ⟨g4, hg4, hone, hcell⟩ := HO4.out.cells (by simp)
    cases hg4
    clear hone
    have HCL := hid hcell
    clear hcell
    go_wp2_with (at_builtin; refine Tn.wpL_join _ rfl _ _ rfl w.heap.size _ (clE (L.take i)) [⟨⟨2, nm, [], ⟨#[]⟩⟩, none, 0⟩] rfl HR4.out w1.heap.size 1 1 rfl rfl HCL.out (fun x hx => ?d1) (List.pairwise_singleton _ _) (fun e he x hx => ?d2) ?d3 ?d4 ?_)
    case d1 =>
      rw [List.mem_singleton] at hx
      subst hx
      exact ⟨fun h => absurd h (Nat.not_lt_zero _), fun g o h => absurd h (Nat.not_lt_zero _)⟩
    case d2 =>
      rw [List.mem_singleton] at hx
      subst hx
      exact fun _ h => absurd h (Nat.not_lt_zero _)
    case d3 => rw [HLE.out]; simp; omega
    case d4 => simp; omega
    intro a6 c6 w6 hr6 hb6 _
    have HR6 := hid hr6
    have HB6 := hid ((bb HB1.out HL4.out).trans hb6)
    rw [← HXE.out] at HR6
    have HLL := hid (show (clE (L.take (i + 1))).length = (clE (L.take i)).length + 1 by rw [HXE.out, List.length_append]; rfl)
    clear hr6 hb6
    go_wp2_with fail
    go_roundw
    case rel => exact ⟨i + 1, by go_num, by omega, HR6.out, HB6.out⟩
    case measure => simp [intOf]; omega

end Go.Proofs.Ytkcmagfbacmllab
