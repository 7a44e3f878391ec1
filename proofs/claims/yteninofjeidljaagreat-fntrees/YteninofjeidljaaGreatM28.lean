/- Contract of TextIn of the program. Contract of ShowTree of the specification. Contracts of shownAttrs and ShowToken of the program. Contract of ShowTree of the program. -/
import Derived.Test.YteninofjeidljaaGreatM27
import Derived.Test.YteninofjeidljaaGreatM11
import Derived.Test.YteninofjeidljaaGreatM20
import Derived.Test.YteninofjeidljaaGreatM25
import Derived.Test.YteninofjeidljaaGreatM8
import Derived.Test.YteninofjeidljaaGreatM10
import Derived.Test.YteninofjeidljaaGreatM1
import Derived.Test.YteninofjeidljaaGreatM22
import Derived.Deep.RegionHeld3
namespace Go.Proofs.YteninofjeidljaaGreat

open Go.RowKit

set_option linter.unusedVariables false

set_option linter.unusedSimpArgs false

theorem strC_app (a b : ByteArray) : Lib.strCells a ++ Lib.strCells b = Lib.strCells (a ++ b) := by simp [Lib.strCells]

theorem strC_len (a : ByteArray) : (Lib.strCells a).length = a.size := by
  rw [Lib.strCells_eq]
  simp [Lib.byteCells]

theorem strC_eta (s : ByteArray) : (⟨s.data.toList.toArray⟩ : ByteArray) = s := by
  apply ByteArray.ext
  simp

/-- A row of the call's own that is no row of bytes stands behind what a builder does. -/
theorem own_others {w w' : World} {B : Nat} {e u : TypeId} {s n b : Nat} {v : Value} {xs : List Value} (h : w.ownsRow B e s v n xs) (hk : Lib.OthersKept u (some b) w w') (hb : b < B) (hT : ¬ e = u) : w'.ownsRow B e s v n xs := by
  refine ⟨h.1, ?_⟩
  rcases h.2 with h' | ⟨g, cap, cur, h1, h2, h3, h4⟩
  · exact .inl h'
  · exact .inr ⟨g, cap, cur, h1, h2, hk g _ h3 (fun e => by have := Option.some.inj e; omega) (fun c fz e => by injection e with _ e2 _; exact hT e2), h4⟩

end Go.Proofs.YteninofjeidljaaGreat

namespace Go.Proofs.YteninofjeidljaaGreat

open Go.RowKit

set_option linter.unusedVariables false

set_option linter.unusedSimpArgs false

/-- Tokens as they are shown, one behind the other. -/
def showAll (l : List Tk) : ByteArray := l.foldl (fun s t => s ++ showS t) ⟨#[]⟩

theorem showAll_snoc (l : List Tk) (t : Tk) : showAll (l ++ [t]) = showAll l ++ showS t := by simp [showAll]

theorem showS_size {t : Tk} (hz : TkSz 1048576 t) (h6 : t.attrs.length ≤ 6) : (showS t).size ≤ 60000000 := by
  obtain ⟨z1, z2, z3, z4⟩ := hz
  unfold showS
  split
  · rw [ByteArray.size_append, ByteArray.size_append, show (⟨#[60, 47]⟩ : ByteArray).size = 2 from rfl, show (⟨#[62]⟩ : ByteArray).size = 1 from rfl]
    omega
  · split
    · have := escS_size false t.text
      omega
    · have h := atsS_size t.attrs ((⟨#[60]⟩ : ByteArray) ++ t.name) z3
      rw [ByteArray.size_append, show (⟨#[60]⟩ : ByteArray).size = 1 from rfl] at h
      rw [ByteArray.size_append, show (⟨#[62]⟩ : ByteArray).size = 1 from rfl]
      omega

theorem showAll_size {l : List Tk} (h : ∀ t ∈ l, (showS t).size ≤ 60000000) : (showAll l).size ≤ 60000000 * l.length := by
  have H : ∀ (l : List Tk) (s : ByteArray), (∀ t ∈ l, (showS t).size ≤ 60000000) → (l.foldl (fun s t => s ++ showS t) s).size ≤ s.size + 60000000 * l.length := by
    intro l
    induction l with
    | nil => intro s _; simp
    | cons t l ih =>
      intro s hs
      have := ih (s ++ showS t) (fun x hx => hs x (List.mem_cons_of_mem _ hx))
      have h2 := hs t (List.mem_cons_self ..)
      rw [ByteArray.size_append] at this
      simp only [List.foldl_cons, List.length_cons]
      omega
  have := H l ⟨#[]⟩ h
  rw [show (⟨#[]⟩ : ByteArray).size = 0 from rfl] at this
  unfold showAll
  omega

theorem tokN_six {ts : List Tk} (h : ∀ k, ¬ (nodeAt ts k).name.size = 0 → (nodeAt ts k).attrs.length ≤ 6) : ∀ f k, ∀ t ∈ tokN ts f k, t.attrs.length ≤ 6
  | 0, k, t, ht => by simp [tokN] at ht
  | f + 1, k, t, ht => by
    unfold tokN at ht
    split at ht
    · rw [List.mem_singleton] at ht
      subst ht
      exact Nat.zero_le _
    · rename_i hne
      rcases List.mem_cons.1 ht with rfl | ht
      · exact h k hne
      · rcases List.mem_append.1 ht with ht | ht
        · obtain ⟨i, _, hi⟩ := List.mem_flatMap.1 ht
          exact tokN_six h f i t hi
        · rw [List.mem_singleton] at ht
          subst ht
          exact Nat.zero_le _

theorem tree_six {ts : List Tk} (h : TreeP ts) (k : Nat) (hne : ¬ (nodeAt ts k).name.size = 0) : (nodeAt ts k).attrs.length ≤ 6 := by
  by_cases hk : k < ts.length
  · rw [nodeAt_at hk] at hne ⊢
    obtain ⟨⟨_, hb⟩, _⟩ := h.2.2.2.2 k hk
    rw [nodeB_el hne] at hb
    simp only [Bool.and_eq_true] at hb
    by_cases q : AttrsOk ts[k].attrs
    · exact q.1
    · rw [attrsB_f q] at hb
      cases hb.2.1
  · unfold nodeAt
    rw [List.getElem?_eq_none (by omega)]
    exact Nat.zero_le _

set_option maxRecDepth 8000 in
set_option maxHeartbeats 4000000 in
theorem cShowNS (a : Option Addr) (cap : Nat) (ts : List Tk) (w : World) (hR : TkRow w a ts) (hn : ts.length ≤ 1048576) (hz : TksSz 1048576 ts) (ht : TreeP ts) :
    Calls Tryz.prog 55 #[.slice a ts.length cap] w fun e w' => e = .returned (.string (showAll (tokN ts ts.length 0))) ∧ Below w.heap.size w w' := by
  have C := hid (cTokS a cap ts hn hz ts.length 0 w hR (by have := ht.1; omega) (by omega))
  have HZ := hid (tokN_sz hz ts.length 0)
  have H6 := hid (tokN_six (tree_six ht) ts.length 0)
  have hln := tokN_len (ts := ts) ts.length 0 (by have := ht.1; omega)
  have hen := (endN_le (ts := ts) (k := 0) (by have := ht.1; omega)).2
  obtain ⟨L, hL⟩ : ∃ L, tokN ts ts.length 0 = L := ⟨_, rfl⟩
  have hl2 : L.length ≤ 2097152 := by rw [← hL]; omega
  rw [hL] at C HZ H6 ⊢
  clear hL hR hz ht hln hen
  generalize ts.length = n at *
  go_enter Tryz.func55, Tryz.ntmps55
  go_wp2_with fail
  refine C.out.mono ?_
  rintro e w1 ⟨a1, c1, es, rfl, hr1, hm1, _, hb1⟩
  obtain ⟨a2, c2, e2, htk⟩ := hr1.tkRow
  obtain ⟨rfl, rfl⟩ : a1 = a2 ∧ c1 = c2 := by cases e2; exact ⟨rfl, rfl⟩
  have hel : es.length = L.length := by rw [← hm1, List.length_map]
  rw [hm1] at htk
  have HTK := hid htk
  have HB1 := hid hb1
  rw [hel]
  obtain ⟨m, hm⟩ : ∃ m, L.length = m := ⟨_, rfl⟩
  have HM := hid hm
  rw [hm] at hl2 ⊢
  clear htk hb1 hr1 hm1 e2 hel hm C
  go_wp2_with fail
  go_loopw [3, 5] (fun s x wr => ∃ i : Nat, x = .int .i64 (i : Int) ∧ i ≤ m ∧ Hid (s = .string (showAll (L.take i)) ∧ Below w.heap.size w wr ∧ Below w1.heap.size w1 wr)) (fun _ x _ => m - (intOf x).toNat)
  case atStart => exact ⟨0, rfl, Nat.zero_le _, rfl, HB1.out, Below.refl _ _⟩
  case round =>
    obtain ⟨i, rfl, hi, HX⟩ := hrel
    obtain ⟨hs, hb, hb2⟩ := HX.out
    have HB := hid hb
    have HB2 := hid hb2
    have hsz := showAll_size (l := L.take i) (fun t ht => showS_size (HZ.out t (List.mem_of_mem_take ht)) (H6.out t (List.mem_of_mem_take ht)))
    rw [List.length_take] at hsz
    clear HX hb hb2
    by_cases hlt : i < m
    · have hiL : i < L.length := by rw [HM.out]; exact hlt
      have hin : (i : Int) < (m : Int) := by omega
      obtain ⟨b, o, aa, ca, rfl, hbb, k0, k1, k2, k3, kr⟩ := (HTK.out.below HB2.out) i hiL
      have hmem := List.getElem_mem hiL
      have C := hid (cL7Show L[i] aa ca wr kr (HZ.out _ hmem) (H6.out _ hmem))
      have h60 := showS_size (HZ.out _ hmem) (H6.out _ hmem)
      have HSN := hid (show showAll (L.take (i + 1)) = showAll (L.take i) ++ showS L[i] by rw [take_snocN hiL, showAll_snoc])
      clear kr
      simp only [tkV] at C
      generalize showS L[i] = X at *
      generalize L[i] = t at *
      generalize showAll (L.take i) = S at *
      subst hs
      have hf : ¬ 9223372036854775807 < S.size + X.size := by omega
      clear hmem hiL
      go_wp2_with fail
      refine C.out.mono ?_
      rintro e w2 ⟨rfl, hb3⟩
      have HB3 := hid (bb HB.out hb3)
      have HB4 := hid (bb HB2.out hb3)
      clear hb3 C k0 k1 k2 k3
      go_wp2_with fail
      go_roundw
      case rel => exact ⟨i + 1, by go_num, by omega, by rw [HSN.out], HB3.out, HB4.out⟩
      case measure => simp [intOf]; omega
    · have hie : i = m := by omega
      subst hie
      rw [show L.take i = L from List.take_of_length_le (by rw [HM.out]; exact Nat.le_refl _)] at hs
      subst hs
      clear hsz
      go_wp2_with fail
      go_ret
      exact ⟨rfl, HB.out⟩

/-- What ShowTree answers. -/
noncomputable def shownN (ts : List Tk) : ByteArray := if treeB ts = true then showAll (tokN ts ts.length 0) else ⟨#[]⟩

set_option maxHeartbeats 2000000 in
theorem cShowTreeS (a : Option Addr) (cap : Nat) (ts : List Tk) (w : World) (hR : TkRow w a ts) (hn : ts.length ≤ 1048576) (hz : TksSz 1048576 ts) :
    Calls Tryz.prog 15 #[.slice a ts.length cap] w fun e w' => e = .returned (.string (shownN ts)) ∧ Below w.heap.size w w' := by
  have C := hid (cTreeOkS a cap ts w hR hn hz)
  have HR := hid hR
  cases q : treeB ts
  · have e1 : shownN ts = ⟨#[]⟩ := by unfold shownN; rw [q]; rfl
    rw [e1]
    rw [q] at C
    clear hz hR e1
    generalize ts.length = n at *
    go_enter Tryz.func15, Tryz.ntmps15
    go_wp2_with fail
    refine C.out.mono ?_
    rintro e w1 ⟨rfl, hb1⟩
    have HB1 := hid hb1
    clear hb1
    go_wp2_with fail
    go_ret
    exact ⟨rfl, HB1.out⟩
  · have e1 : shownN ts = showAll (tokN ts ts.length 0) := by unfold shownN; rw [q]; rfl
    have CE := hid (fun wx h => cShowNS a cap ts wx h hn hz (treeB_P q))
    rw [e1]
    rw [q] at C
    clear hz hR e1
    generalize showAll (tokN ts ts.length 0) = E at *
    generalize ts.length = n at *
    go_enter Tryz.func15, Tryz.ntmps15
    go_wp2_with fail
    refine C.out.mono ?_
    rintro e w1 ⟨rfl, hb1⟩
    have HB1 := hid hb1
    clear hb1
    go_wp2_with fail
    refine (CE.out _ (HR.out.below HB1.out)).mono ?_
    rintro e w2 ⟨rfl, hb2⟩
    have HB2 := hid (bb HB1.out hb2)
    clear hb2
    go_wp2_with fail
    go_ret
    exact ⟨rfl, HB2.out⟩

end Go.Proofs.YteninofjeidljaaGreat

namespace Go.Proofs.YteninofjeidljaaGreat

open Go.RowKit

set_option linter.unusedVariables false

set_option linter.unusedSimpArgs false

theorem strCells_app (a b : ByteArray) : Lib.strCells a ++ Lib.strCells b = Lib.strCells (a ++ b) := by
  simp [Lib.strCells]

theorem of_size {a b c : ByteArray} (h : a ++ b = c) : c.size = a.size + b.size := by rw [← h, ByteArray.size_append]

theorem str_eta (s : ByteArray) : (⟨s.data.toList.toArray⟩ : ByteArray) = s := by
  apply ByteArray.ext
  simp

theorem atS_assoc (x y : ByteArray) : ((((((⟨#[32]⟩ : ByteArray) ++ x) ++ ⟨#[61]⟩) ++ ⟨#[34]⟩) ++ y) ++ ⟨#[34]⟩) = (((((⟨#[32]⟩ : ByteArray) ++ x) ++ ⟨#[61, 34]⟩) ++ y) ++ ⟨#[34]⟩) := by
  have e : (⟨#[61, 34]⟩ : ByteArray) = ⟨#[61]⟩ ++ ⟨#[34]⟩ := rfl
  rw [e]
  simp only [ByteArray.append_assoc]

theorem pair_kept {w0 w w2 : World} {g b : Nat} {x y : Value} {T e : TypeId} (M : w0.heap[g]? = some (.cells #[x, y] T (0, 0))) (hb : Below w0.heap.size w0 w) (hk : Lib.OthersKept e (some b) w w2) (hg : ¬ g = b) (hT : ¬ T = e) :
    w2.cell? ⟨g, 0, none⟩ = some x ∧ w2.cell? ⟨g, 1, none⟩ = some y :=
  box2c (hk g _ ((hb.block g (lt_of_heap M)).trans M) (by simpa using hg) (fun c fz h => by injection h with _ h2 _; exact hT h2))

theorem c_itself_32 (w : World) : Calls Tryz.prog 132 #[.int .u8 32] w fun e w' => e = .returned (.string ⟨#[32]⟩) ∧ Below w.heap.size w w' := c__impl_sign__itself 32 w

theorem c_itself_61 (w : World) : Calls Tryz.prog 132 #[.int .u8 61] w fun e w' => e = .returned (.string ⟨#[61]⟩) ∧ Below w.heap.size w w' := c__impl_sign__itself 61 w

theorem c_itself_34 (w : World) : Calls Tryz.prog 132 #[.int .u8 34] w fun e w' => e = .returned (.string ⟨#[34]⟩) ∧ Below w.heap.size w w' := c__impl_sign__itself 34 w

set_option maxRecDepth 100000 in
set_option maxHeartbeats 4000000 in
theorem cShownAttrs (a : Option Addr) (cap : Nat) (l : List At) (w : World) (hR : AtRow w a l) (hz : AtSz 1048576 l) (h6 : l.length ≤ 6) :
    Calls Tryz.prog 87 #[.slice a l.length cap] w fun e w' => e = .returned (.string (atsS l ⟨#[]⟩)) ∧ Below w.heap.size w w' := by
  obtain ⟨V, hV⟩ : ∃ V, atsS l ⟨#[]⟩ = V := ⟨_, rfl⟩
  have HV := hid hV
  rw [hV]
  clear hV
  have HR := hid hR
  have HZ := hid hz
  clear hR hz
  obtain ⟨n, hn⟩ : ∃ n, l.length = n := ⟨_, rfl⟩
  have HN := hid hn
  rw [hn] at h6 ⊢
  clear hn
  go_enter Tryz.func87, Tryz.ntmps87
  go_wp2_with fail
  go_loopw [8] (fun k wr => ∃ i : Nat, k = .int .i64 (i : Int) ∧ i ≤ n ∧ Hid (Lib.IsBuilder 47 5 w.heap.size w.heap.size (Lib.strCells (atsS (l.take i) ⟨#[]⟩)) wr) ∧ Hid (Below w.heap.size w wr) ∧ w.heap.size < wr.heap.size) (fun k _ => n - (intOf k).toNat)
  case atStart => exact ⟨0, rfl, Nat.zero_le _, Lib.fresh_isBuilder 47 5 _, (Below.refl _ _).alloc (Nat.le_refl _) _, by simp⟩
  case round =>
    obtain ⟨i, rfl, hi, HI, HB, hsz⟩ := hrel
    have HS1 := atsS_size (l.take i) ⟨#[]⟩ (fun x hx => HZ.out x (List.mem_of_mem_take hx))
    rw [show (⟨#[]⟩ : ByteArray).size = 0 from rfl, List.length_take] at HS1
    have hz2 : (Lib.strCells (atsS (l.take i) ⟨#[]⟩)).length ≤ 60000000 := by rw [Lib.strCells_length]; omega
    clear HS1
    by_cases hlt : i < n
    · have his : i < l.length := by rw [HN.out]; exact hlt
      have hin : (i : Int) < (n : Int) := by omega
      obtain ⟨b, o, rfl, hb, c1, c2⟩ := (HR.out.below HB.out) i his
      obtain ⟨z1, z2⟩ := HZ.out _ (List.getElem_mem his)
      have HX := hid (show atsS (l.take (i + 1)) ⟨#[]⟩ = atsS (l.take i) ⟨#[]⟩ ++ atS l[i] by rw [take_snocN his, atsS_snoc])
      have e0 : atS l[i] = ((((((⟨#[32]⟩ : ByteArray) ++ l[i].name) ++ ⟨#[61]⟩) ++ ⟨#[34]⟩) ++ escS true l[i].value) ++ ⟨#[34]⟩) := (atS_assoc _ _).symm
      rw [e0] at HX
      have z3 := escS_size true l[i].value
      have C := hid (fun w => c_impl_Escaped l[i].value true w z2)
      have e1 : (⟨(escapedL true l[i].value.data.toList).toArray⟩ : ByteArray) = escS true l[i].value := rfl
      rw [e1] at C
      generalize escS true l[i].value = E at *
      generalize l[i].name = x at *
      generalize l[i].value = y at *
      generalize atsS (l.take i) ⟨#[]⟩ = cur at *
      clear e0 e1
      have C32 := hid c_itself_32
      have C61 := hid c_itself_61
      have C34 := hid c_itself_34
      obtain ⟨B32, q32⟩ : ∃ B : ByteArray, (⟨#[32]⟩ : ByteArray) = B := ⟨_, rfl⟩
      obtain ⟨B61, q61⟩ : ∃ B : ByteArray, (⟨#[61]⟩ : ByteArray) = B := ⟨_, rfl⟩
      obtain ⟨B34, q34⟩ : ∃ B : ByteArray, (⟨#[34]⟩ : ByteArray) = B := ⟨_, rfl⟩
      rw [q32] at C32 HX
      rw [q61] at C61 HX
      rw [q34] at C34 HX
      have v32 : B32.size = 1 := by rw [← q32]; rfl
      have v61 : B61.size = 1 := by rw [← q61]; rfl
      have v34 : B34.size = 1 := by rw [← q34]; rfl
      clear q32 q61 q34
      obtain ⟨S1, h1⟩ : ∃ S, B32 ++ x = S := ⟨_, rfl⟩
      obtain ⟨S2, h2⟩ : ∃ S, S1 ++ B61 = S := ⟨_, rfl⟩
      obtain ⟨S3, h3⟩ : ∃ S, S2 ++ B34 = S := ⟨_, rfl⟩
      obtain ⟨S4, h4⟩ : ∃ S, S3 ++ E = S := ⟨_, rfl⟩
      obtain ⟨S5, h5⟩ : ∃ S, S4 ++ B34 = S := ⟨_, rfl⟩
      rw [h1, h2, h3, h4, h5] at HX
      have g1 := of_size h1
      have g2 := of_size h2
      have g3 := of_size h3
      have g4 := of_size h4
      have g5 := of_size h5
      have f1 : ¬ 9223372036854775807 < B32.size + x.size := by omega
      have f2 : ¬ 9223372036854775807 < S1.size + B61.size := by omega
      have f3 : ¬ 9223372036854775807 < S2.size + B34.size := by omega
      have f4 : ¬ 9223372036854775807 < S3.size + E.size := by omega
      have f5 : ¬ 9223372036854775807 < S4.size + B34.size := by omega
      have hlen : (Lib.strCells cur).length + S5.size ≤ 140737488355328 := by omega
      clear g1 g2 g3 g4 g5 v32 v61 v34 z1 z2 z3 hz2
      have M := hid (heap_alloc_new wr (.cells #[.string x, .string y] 114))
      have HB0 := hid (HB.out.alloc HB.out.size (.cells #[.string x, .string y] 114))
      have HI0 := hid (isBuilder_below HI.out ((Below.refl wr.heap.size wr).alloc (Nat.le_refl _) (.cells #[.string x, .string y] 114)))
      obtain ⟨g, hg⟩ : ∃ g, wr.heap.size = g := ⟨_, rfl⟩
      have Hg := hid hg
      go_wp2_with fail
      obtain ⟨W0, hW0⟩ : ∃ W0, wr.alloc (.cells #[.string x, .string y] 114) = W0 := ⟨_, rfl⟩
      rw [hW0] at M HB0 HI0
      simp only [hW0, hg] at M ⊢
      have HBc := hid ((Below.refl W0.heap.size W0).drew)
      have hgl := hid (lt_of_heap M.out)
      have hk := hid (box2c M.out)
      have hgb : ¬ g = w.heap.size := by omega
      clear c1 c2 hW0
      go_region_held3 (fun w' => w'.cell? ⟨g, 0, none⟩ = some (.string x) ∧ w'.cell? ⟨g, 1, none⟩ = some (.string y)) (first | exact HK.out | exact ⟨(HBc.out.cell (p := ⟨g, 0, none⟩) hgl.out).trans hk.out.1, (HBc.out.cell (p := ⟨g, 1, none⟩) hgl.out).trans hk.out.2⟩)
        (first
          | (go_at_call 132; refine (C32.out _).mono ?_; rintro e w1 ⟨rfl, hb1⟩; replace HBc := hid (bb HBc.out hb1); clear hb1)
          | (go_at_call 132; refine (C61.out _).mono ?_; rintro e w1 ⟨rfl, hb1⟩; replace HBc := hid (bb HBc.out hb1); clear hb1)
          | (go_at_call 132; refine (C34.out _).mono ?_; rintro e w1 ⟨rfl, hb1⟩; replace HBc := hid (bb HBc.out hb1); clear hb1)
          | (go_at_call 88; refine (C.out _).mono ?_; rintro e w1 ⟨rfl, hb1⟩; replace HBc := hid (bb HBc.out hb1); clear hb1)
          | (go_at_call 31; refine (writeString w.heap.size w.heap.size (Lib.strCells cur) _ _ (isBuilder_below HI0.out HBc.out) hlen ?c2).mono ?_; (case c2 => (have := HBc.out.size; have := hgl.out; omega)); rintro e w2 ⟨rfl, hI2, hb2, hk2⟩; have HK := hid (pair_kept M.out HBc.out hk2 hgb (by decide)); have HI2 := hid hI2; have HB2 := hid ((bb HB0.out HBc.out).trans hb2); have HZ2 := hid (show w.heap.size < w2.heap.size by have := hb2.size; have := HBc.out.size; have := hgl.out; omega); clear hI2 hb2 hk2))
      go_wp2_with fail
      go_roundw
      case rel => exact ⟨i + 1, by go_num, by omega, by rw [HX.out, ← strCells_app]; exact HI2.out, HB2.out, HZ2.out⟩
      case measure => simp [intOf]; omega
    · have hie : i = n := by omega
      subst hie
      have e1 : atsS (l.take i) ⟨#[]⟩ = V := by rw [List.take_of_length_le (by rw [HN.out]; exact Nat.le_refl _)]; exact HV.out
      rw [e1] at HI hz2
      have e2 := str_eta V
      have hI2 := HI.out
      rw [Lib.strCells_eq] at hI2
      have C := hid (fun h => Tryz.Builder_String_any _ _ _ wr hI2 h)
      rw [e2] at C
      clear hI2 e1 e2
      go_wp2_with fail
      refine (C.out (Nat.le_of_lt hsz)).mono ?_
      rintro e w2 ⟨rfl, hb2⟩
      have HB2 := hid (HB.out.trans hb2)
      go_wp2_with fail
      go_ret
      exact ⟨rfl, HB2.out⟩

theorem atsS_app (l : List At) (s : ByteArray) : atsS l s = s ++ atsS l ⟨#[]⟩ := by
  have H : ∀ (l : List At) (s t : ByteArray), atsS l (s ++ t) = s ++ atsS l t := by
    intro l
    induction l with
    | nil => intro s t; rfl
    | cons x l ih => intro s t; show atsS l ((s ++ t) ++ atS x) = s ++ atsS l (t ++ atS x); rw [ByteArray.append_assoc, ih]
  have e := H l s ⟨#[]⟩
  rwa [show s ++ (⟨#[]⟩ : ByteArray) = s from by apply ByteArray.ext; simp] at e

theorem tokB_kind {t : Tk} (h : tokB t = true) : t.kind = 1 ∨ t.kind = 2 ∨ t.kind = 3 := by
  unfold tokB at h
  split at h
  · exact .inl (by assumption)
  · split at h
    · exact .inr (.inl (by assumption))
    · split at h
      · exact .inr (.inr (by assumption))
      · cases h

set_option maxRecDepth 8000 in
set_option maxHeartbeats 2000000 in
theorem cShowTokenI (t : Tk) (a : Option Addr) (cap : Nat) (w : World) (hR : AtRow w a t.attrs) (hz : TkSz 1048576 t) :
    Calls Tryz.prog 32 #[tkV t a cap] w fun e w' => e = .returned (.string (shownT t)) ∧ Below w.heap.size w w' := by
  have HB0 := hid ((Below.refl w.heap.size w).alloc (Nat.le_refl _) (.cells #[.int .i64 t.kind, .string t.name, .slice a t.attrs.length cap, .string t.text] 49))
  have HR := hid (hR.below HB0.out)
  have M0 := hid (heap_alloc_new w (.cells #[.int .i64 t.kind, .string t.name, .slice a t.attrs.length cap, .string t.text] 49))
  have CO := fun w h => cTokenOkI t a cap w h hz
  clear hR
  cases q : tokB t
  · rw [show shownT t = ⟨#[]⟩ by unfold shownT; rw [q]; rfl]
    rw [q] at CO
    go_enter Tryz.func32, Tryz.ntmps32
    go_wp2_with fail
    refine (CO _ HR.out).mono ?_
    rintro e w1 ⟨rfl, hb1⟩
    have HB1 := hid (bb HB0.out hb1)
    go_wp2_with fail
    go_ret
    exact ⟨rfl, HB1.out⟩
  · rw [show shownT t = showS t by unfold shownT; rw [q]; rfl]
    rw [q] at CO
    have h6 := tokB_len q
    have hk := tokB_kind q
    obtain ⟨k, name, l, text⟩ := t
    obtain ⟨h1, _, h3, h4⟩ := hz
    simp only at h1 h3 h4 h6 hk HB0 HR M0
    clear q
    simp only [tkV] at CO ⊢
    have CO := hid CO
    rcases hk with rfl | rfl | rfl
    · have e0 : showS ⟨1, name, l, text⟩ = (((⟨#[60]⟩ : ByteArray) ++ name) ++ atsS l ⟨#[]⟩) ++ ⟨#[62]⟩ := by
        show atsS l ((⟨#[60]⟩ : ByteArray) ++ name) ++ ⟨#[62]⟩ = _
        rw [atsS_app]
      rw [e0]
      have CL := hid (fun w h => cShownAttrs a cap l w h h3 h6)
      have hs := atsS_size l ⟨#[]⟩ h3
      rw [show (⟨#[]⟩ : ByteArray).size = 0 from rfl] at hs
      generalize atsS l ⟨#[]⟩ = X at *
      obtain ⟨n, hn⟩ : ∃ n, l.length = n := ⟨_, rfl⟩
      rw [hn] at CL CO HB0 HR M0 hs h6 ⊢
      clear e0 hn h3
      go_enter Tryz.func32, Tryz.ntmps32
      go_wp2_with fail
      refine (CO.out _ HR.out).mono ?_
      rintro e w1 ⟨rfl, hb1⟩
      have HB1 := hid (bb HB0.out hb1)
      have HR1 := hid (HR.out.below hb1)
      have M1 := hid (blk_below M0.out hb1)
      obtain ⟨⟨x0, x1, x2, x3⟩, _⟩ := box4 M1.out
      clear hb1 HB0 HR M0
      have D1 := fun (p : BW w1) => (p.h.cell (p := ⟨w.heap.size, 1, none⟩) (lt_of_heap M1.out)).trans x1
      have D2 := fun (p : BW w1) => (p.h.cell (p := ⟨w.heap.size, 2, none⟩) (lt_of_heap M1.out)).trans x2
      have HNB := hid (bw_any w1)
      go_wp2_with fail
      haveI := HNB.out
      refine wp_region_below (by kernel_rfl) (by kernel_rfl) (Below.refl w1.heap.size w1) ?_
      repeat (go_big_quiet_step ((go_at_call 87; exact calls_bw _ (CL.out _ (HR1.out.below (BW.h _))))))
      refine wpQuiet_nil ?_
      intro _ hw'
      obtain ⟨⟨wq, hwq⟩, hw''⟩ := hw'
      subst hw''
      have HB2 := hid (bb HB1.out hwq)
      go_wp2_with fail
      go_ret
      exact ⟨rfl, HB2.out⟩
    · rw [show showS ⟨2, name, l, text⟩ = ((⟨#[60, 47]⟩ : ByteArray) ++ name) ++ ⟨#[62]⟩ from rfl]
      clear h3
      generalize l.length = n at *
      go_enter Tryz.func32, Tryz.ntmps32
      go_wp2_with fail
      refine (CO.out _ HR.out).mono ?_
      rintro e w1 ⟨rfl, hb1⟩
      have HB1 := hid (bb HB0.out hb1)
      obtain ⟨⟨x0, x1, x2, x3⟩, _⟩ := box4 (blk_below M0.out hb1)
      clear hb1 HB0 HR M0
      go_wp2_with fail
      go_ret
      exact ⟨rfl, HB1.out⟩
    · rw [show showS ⟨3, name, l, text⟩ = escS false text from rfl]
      have C := hid (fun w => c_impl_Escaped text false w h4)
      have e1 : (⟨(escapedL false text.data.toList).toArray⟩ : ByteArray) = escS false text := rfl
      rw [e1] at C
      generalize escS false text = E at *
      clear h3 e1
      generalize l.length = n at *
      go_enter Tryz.func32, Tryz.ntmps32
      go_wp2_with fail
      refine (CO.out _ HR.out).mono ?_
      rintro e w1 ⟨rfl, hb1⟩
      have HB1 := hid (bb HB0.out hb1)
      obtain ⟨⟨x0, x1, x2, x3⟩, _⟩ := box4 (blk_below M0.out hb1)
      clear hb1 HB0 HR M0
      go_wp2_with fail
      refine (C.out _).mono ?_
      rintro e w2 ⟨rfl, hb2⟩
      have HB2 := hid (bb HB1.out hb2)
      go_wp2_with fail
      go_ret
      exact ⟨rfl, HB2.out⟩

end Go.Proofs.YteninofjeidljaaGreat

namespace Go.Proofs.YteninofjeidljaaGreat

open Go.RowKit

set_option linter.unusedVariables false

set_option linter.unusedSimpArgs false

theorem shownN_all (ts : List Tk) : shownN ts = showAll (toksT ts) := by
  unfold shownN toksT
  split <;> rfl

theorem toksT_facts {ts : List Tk} (hz : TksSz 1048576 ts) : (toksT ts).length ≤ 100 ∧ ∀ t ∈ toksT ts, tokB t = true ∧ TkSz 1048576 t ∧ (showS t).size ≤ 60000000 := by
  have hsz := toksT_sz hz
  unfold toksT at hsz ⊢
  split
  · rename_i q
    rw [if_pos q] at hsz
    have ht := treeB_P q
    have h1 := ht.1
    have h2 := ht.2.1
    have h3 := tokN_len (ts := ts) ts.length 0 (by omega)
    have h4 := endN_le (ts := ts) (k := 0) (by omega)
    exact ⟨by omega, fun t hm => ⟨tokN_right ht _ _ (by omega) t hm, hsz t hm, showS_size (hsz t hm) (tokN_six (tree_six ht) _ _ t hm)⟩⟩
  · exact ⟨Nat.zero_le _, fun t hm => absurd hm List.not_mem_nil⟩

/-- A row of tokens stands behind what a builder does. -/
theorem Tn.Row.others {w w' : World} {B b : Nat} {v : Value} {es : List Tn.E} (h : Tn.Row w B v es) (hk : Lib.OthersKept 5 (some b) w w') (hb : b < B) : Tn.Row w' B v es := by
  refine ⟨own_others h.own hk hb (by decide), fun e he => ⟨fun hl => ?_, (h.ats e he).2⟩, h.apart⟩
  obtain ⟨g, o, cu, e1, e2, e3, e4⟩ := (h.ats e he).1 hl
  exact ⟨g, o, cu, e1, e2, hk g _ e3 (fun e => by have := Option.some.inj e; omega) (fun c fz e => by injection e with _ e5 _; exact absurd e5 (by decide)), e4⟩

set_option maxRecDepth 8000 in
set_option maxHeartbeats 4000000 in
theorem cShowTreeI (a : Option Addr) (cap : Nat) (ts : List Tk) (w : World) (hR : TkRow w a ts) (hn : ts.length ≤ 1048576) (hz : TksSz 1048576 ts) :
    Calls Tryz.prog 7 #[.slice a ts.length cap] w fun e w' => e = .returned (.string (shownN ts)) ∧ Below w.heap.size w w' := by
  have HB0 := hid ((Below.refl w.heap.size w).alloc (Nat.le_refl _) (.cells #[.pointer none, .slice none 0 0] 47))
  have C := hid (cTokensOfI a cap ts (w.alloc (.cells #[.pointer none, .slice none 0 0] 47)) (hR.below HB0.out) hn hz)
  have HKS := hid (toksT_facts hz)
  have HF := hid (Lib.fresh_isBuilder 47 5 w)
  rw [shownN_all]
  obtain ⟨K, hK⟩ : ∃ K, toksT ts = K := ⟨_, rfl⟩
  rw [hK] at C HKS ⊢
  clear hR hz hK
  generalize ts.length = n at *
  go_enter Tryz.func7, Tryz.ntmps7
  go_wp2_with fail
  refine C.out.mono ?_
  rintro e w1 ⟨a1, c1, es, rfl, hr1, hm1, hb1⟩
  have HO := hid (show Tn.Row w1 (w.heap.size + 1) (.slice a1 es.length c1) es by have h := hr1; rw [show (w.alloc (.cells #[.pointer none, .slice none 0 0] 47)).heap.size = w.heap.size + 1 by simp] at h; exact h)
  have HMP := hid hm1
  have HI1 := hid (isBuilder_below HF.out hb1)
  have HB1 := hid (bb HB0.out hb1)
  have hsz1 : w.heap.size < w1.heap.size := by have := hb1.size; simp at this; omega
  have HKL := hid (show K.length = es.length by rw [← hm1, List.length_map])
  obtain ⟨L, hL⟩ : ∃ L, es.length = L := ⟨_, rfl⟩
  have HL := hid hL
  have hLn : L ≤ 100 := by have := HKS.out.1; rw [HKL.out, hL] at this; exact this
  rw [hL] at HO HKL ⊢
  clear hb1 hr1 hm1 C hL HB0
  go_wp2_with fail
  go_loopw [9] (fun k wr => ∃ i : Nat, k = .int .i64 (i : Int) ∧ i ≤ L ∧ Hid (Lib.IsBuilder 47 5 w.heap.size w.heap.size (Lib.strCells (showAll (K.take i))) wr) ∧ Hid (Tn.Row wr (w.heap.size + 1) (.slice a1 L c1) es) ∧ Hid (Below w.heap.size w wr) ∧ w.heap.size < wr.heap.size) (fun k _ => L - (intOf k).toNat)
  case atStart => exact ⟨0, rfl, Nat.zero_le _, HI1.out, HO.out, HB1.out, hsz1⟩
  case round =>
    clear HI1 HO HB1 HF
    obtain ⟨i, rfl, hi, HI, HO, HB, hsz⟩ := hrel
    have hjs : (showAll (K.take i)).size ≤ 60000000 * i := by
      have := showAll_size (l := K.take i) (fun t ht => (HKS.out.2 t (List.mem_of_mem_take ht)).2.2)
      rw [List.length_take] at this
      have h2 : min i K.length ≤ i := Nat.min_le_left _ _
      have h3 := Nat.mul_le_mul_left 60000000 h2
      omega
    by_cases hlt : i < L
    · have hiK : i < K.length := by rw [HKL.out]; exact hlt
      have hin : (i : Int) < (L : Int) := by omega
      have HX := hid (show showAll (K.take (i + 1)) = showAll (K.take i) ++ showS K[i] by rw [take_snocN hiK, showAll_snoc])
      obtain ⟨hq1, hq2, hq3⟩ := HKS.out.2 K[i] (List.getElem_mem hiK)
      obtain ⟨a2, c2, ea, htk⟩ := HO.out.tkRow
      rw [HMP.out] at htk
      obtain ⟨rfl, rfl⟩ : a1 = a2 ∧ c1 = c2 := by cases ea; exact ⟨rfl, rfl⟩
      obtain ⟨b, o, aa, ca, rfl, hb, k0, k1, k2, k3, cr⟩ := htk i hiK
      have e0 : shownT K[i] = showS K[i] := by unfold shownT; rw [if_pos hq1]
      have HBA := hid ((Below.refl wr.heap.size wr).alloc (Nat.le_refl _) (.cells #[.int .i64 K[i].kind, .string K[i].name, .slice aa K[i].attrs.length ca, .string K[i].text] 49))
      have CS := hid (fun wx (h : AtRow wx aa K[i].attrs) => cShowTokenI K[i] aa ca wx h hq2)
      have CR := hid (cr.below HBA.out)
      rw [e0] at CS
      generalize K[i] = t at *
      obtain ⟨tk, tn, tl, tx⟩ := t
      simp only [tkV] at k0 k1 k2 k3 CS CR HBA
      generalize showS ⟨tk, tn, tl, tx⟩ = SS at *
      obtain ⟨m, hm⟩ : ∃ m, tl.length = m := ⟨_, rfl⟩
      rw [hm] at k2 HBA CS CR
      clear ea htk cr hq1 hq2 e0 hm
      go_wp2_with fail
      refine (CS.out _ CR.out).mono ?_
      rintro e w2 ⟨rfl, hb2⟩
      have HB2 := hid (bb HBA.out hb2)
      have C2 := hid (writeString w.heap.size w.heap.size (Lib.strCells (showAll (K.take i))) SS w2 (isBuilder_below HI.out HB2.out) (by rw [strC_len]; omega) (by have := HB2.out.size; omega))
      clear hb2 hjs
      go_wp2_with fail
      refine C2.out.mono ?_
      rintro e w3 ⟨rfl, hI3, hb3, hk3⟩
      have HI3 := hid hI3
      have HB3 := hid ((bb HB.out HB2.out).trans hb3)
      have HO3 := hid ((HO.out.below HB2.out).others hk3 (Nat.lt_succ_self _))
      have hsz3 : w.heap.size < w3.heap.size := by have := hb3.size; have := HB2.out.size; omega
      clear hI3 hb3 hk3 C2
      go_wp2_with fail
      go_roundw
      case rel => exact ⟨i + 1, by go_num, by omega, by rw [HX.out, ← strC_app]; exact HI3.out, HO3.out, HB3.out, hsz3⟩
      case measure => simp [intOf]; omega
    · have hie : i = L := by omega
      subst hie
      have e1 : showAll (K.take i) = showAll K := by rw [List.take_of_length_le (by rw [HKL.out]; exact Nat.le_refl _)]
      rw [e1] at HI
      obtain ⟨V, hV⟩ : ∃ V, showAll K = V := ⟨_, rfl⟩
      have HV := hid hV
      rw [hV] at HI
      clear hV
      have e2 := strC_eta V
      have hI2 := HI.out
      rw [Lib.strCells_eq] at hI2
      have C := hid (fun h => Tryz.Builder_String_any _ _ _ wr hI2 h)
      rw [e2] at C
      clear hI2 e1 e2 hjs
      go_wp2_with fail
      refine (C.out (Nat.le_of_lt hsz)).mono ?_
      rintro e w2 ⟨rfl, hb2⟩
      have HB2 := hid (HB.out.trans hb2)
      go_wp2_with fail
      go_ret
      exact ⟨by rw [HV.out]; rfl, HB2.out⟩

end Go.Proofs.YteninofjeidljaaGreat
