/- Contract of TextIn of the program. -/
import Derived.Test.YtkcmagfbacmllabWImplI
import Derived.Test.YtkcmagfbacmllabBuilder
namespace Go.Proofs.Ytkcmagfbacmllab
open Go.RowKit
set_option linter.unusedVariables false
set_option linter.unusedSimpArgs false

theorem strC_app (a b : ByteArray) : Lib.strCells a ++ Lib.strCells b = Lib.strCells (a ++ b) := by simp [Lib.strCells]

theorem strC_len (a : ByteArray) : (Lib.strCells a).length = a.size := by
  rw [Lib.strCells_eq]
  simp [Lib.byteCells]

theorem strC_eta (s : ByteArray) : (⟨s.data.toList.toArray⟩ : ByteArray) = s := by
  apply ByteArray.ext
  simp

theorem textI_join (ts : List Tk) (x : Int) : textI ts x = joinT ts (kidsI ts x) := by
  unfold textI kidsI
  split <;> rfl

/-- A row of the call's own that is no row of bytes stands behind what a builder does. -/
theorem own_others {w w' : World} {B : Nat} {e u : TypeId} {s n b : Nat} {v : Value} {xs : List Value} (h : w.ownsRow B e s v n xs) (hk : Lib.OthersKept u (some b) w w') (hb : b < B) (hT : ¬ e = u) : w'.ownsRow B e s v n xs := by
  refine ⟨h.1, ?_⟩
  rcases h.2 with h' | ⟨g, cap, cur, h1, h2, h3, h4⟩
  · exact .inl h'
  · exact .inr ⟨g, cap, cur, h1, h2, hk g _ h3 (fun e => by have := Option.some.inj e; omega) (fun c fz e => by injection e with _ e2 _; exact hT e2), h4⟩

set_option maxRecDepth 8000 in
set_option maxHeartbeats 4000000 in
theorem cTextInI (a : Option Addr) (cap : Nat) (ts : List Tk) (x : Int) (w : World) (hR : TkRow w a ts) (hn : ts.length ≤ 1048576) (hz : TksSz 1048576 ts) :
    Calls Try.prog 21 #[.slice a ts.length cap, .int .i64 x] w fun e w' => e = .returned (.string (textI ts x)) ∧ Below w.heap.size w w' := by
  have HR := hid hR
  have HB0 := hid ((Below.refl w.heap.size w).alloc (Nat.le_refl _) (.cells #[.pointer none, .slice none 0 0] 49))
  have C := hid (cKidsOfI a cap ts x (w.alloc (.cells #[.pointer none, .slice none 0 0] 49)) (hR.below HB0.out) hn hz)
  have HKS := hid (show (∀ q ∈ kidsI ts x, q < ts.length) ∧ (∀ i, (joinT ts ((kidsI ts x).take i)).size ≤ 60 * i) ∧ (kidsI ts x).length ≤ ts.length ∧ ∀ q ∈ kidsI ts x, (textAt ts q).size ≤ 60 by
    unfold kidsI
    split
    · rename_i q
      have ht := (hasB_t q).1
      exact ⟨fun q hq => kidsN_lt hq, fun i => by
        have := joinT_size (tree_text ht) ((kidsN ts x.toNat).take i)
        rw [List.length_take] at this
        omega, kidsTo_len _ _ _, fun q _ => tree_text ht q⟩
    · exact ⟨fun q hq => absurd hq List.not_mem_nil, fun i => by rw [List.take_nil]; exact Nat.zero_le _, Nat.zero_le _, fun q hq => absurd hq List.not_mem_nil⟩)
  have HF := hid (Lib.fresh_isBuilder 49 5 w)
  rw [textI_join]
  obtain ⟨K, hK⟩ : ∃ K, kidsI ts x = K := ⟨_, rfl⟩
  rw [hK] at C HKS ⊢
  clear hR hz hK
  obtain ⟨n, hnn⟩ : ∃ n, ts.length = n := ⟨_, rfl⟩
  have HN := hid hnn
  rw [hnn] at hn C ⊢
  clear hnn
  go_enter Try.func21, Try.ntmps21
  go_wp2_with fail
  refine C.out.mono ?_
  rintro e w1 ⟨v, rfl, ho, hb1⟩
  obtain ⟨⟨av, cv, hv⟩, _⟩ := row64 ho
  have HO := hid (show w1.ownsRow (w.heap.size + 1) 2 1 v K.length (intC K) by have h := ho; rw [show (w.alloc (.cells #[.pointer none, .slice none 0 0] 49)).heap.size = w.heap.size + 1 by simp] at h; exact h)
  have HI1 := hid (isBuilder_below HF.out hb1)
  have HB1 := hid (bb HB0.out hb1)
  have hsz1 : w.heap.size < w1.heap.size := by have := hb1.size; simp at this; omega
  obtain ⟨L, hL⟩ : ∃ L, K.length = L := ⟨_, rfl⟩
  have HL := hid hL
  have hLn : L ≤ 1048576 := by have := HKS.out.2.2.1; rw [HN.out, hL] at this; omega
  rw [hL] at hv HO
  subst hv
  clear hb1 ho C hL HB0
  go_wp2_with fail
  go_loopw [12] (fun k wr => ∃ i : Nat, k = .int .i64 (i : Int) ∧ i ≤ L ∧ Hid (Lib.IsBuilder 49 5 w.heap.size w.heap.size (Lib.strCells (joinT ts (K.take i))) wr) ∧ Hid (wr.ownsRow (w.heap.size + 1) 2 1 (.slice av L cv) L (intC K)) ∧ Hid (Below w.heap.size w wr) ∧ w.heap.size < wr.heap.size) (fun k _ => L - (intOf k).toNat)
  case atStart => exact ⟨0, rfl, Nat.zero_le _, HI1.out, HO.out, HB1.out, hsz1⟩
  case round =>
    clear HI1 HO HB1 HF
    obtain ⟨i, rfl, hi, HI, HO, HB, hsz⟩ := hrel
    have hjs := HKS.out.2.1 i
    by_cases hlt : i < L
    · have hiK : i < K.length := by rw [HL.out]; exact hlt
      have hin : (i : Int) < (L : Int) := by omega
      have HX := hid (show joinT ts (K.take (i + 1)) = joinT ts (K.take i) ++ textAt ts K[i] by rw [take_snocN hiK, joinT_snoc])
      have hq := HKS.out.1 K[i] (List.getElem_mem hiK)
      have htx := HKS.out.2.2.2 K[i] (List.getElem_mem hiK)
      have ho := HO.out
      rw [← HL.out] at ho
      obtain ⟨g, cg, eg, hgl, c0⟩ := (row64 ho).2 i hiK
      obtain ⟨rfl, rfl⟩ : av = some ⟨g, 0, none⟩ ∧ cv = cg := by cases eg; exact ⟨rfl, rfl⟩
      obtain ⟨b, o, aa, ca, ea, hb, c1, c2, c3, c4, cr⟩ := (HR.out.below HB.out) K[i] hq
      rw [textAt_at hq] at htx HX
      have hqn : (K[i] : Int) < (n : Int) := by rw [HN.out] at hq; omega
      subst ea
      clear c1 c2 c3 eg ho cr
      generalize ts[K[i]].text = T at *
      generalize K[i] = q at *
      have C2 := hid (writeString w.heap.size w.heap.size (Lib.strCells (joinT ts (K.take i))) T wr HI.out (by rw [strC_len]; omega) (Nat.le_of_lt hsz))
      clear hjs
      go_wp2_with fail
      refine C2.out.mono ?_
      rintro e w2 ⟨rfl, hI2, hb2, hk2⟩
      have HI2 := hid hI2
      have HB2 := hid (HB.out.trans hb2)
      have HO2 := hid (own_others HO.out hk2 (Nat.lt_succ_self _) (by decide))
      have hsz2 : w.heap.size < w2.heap.size := by have := hb2.size; omega
      clear hI2 hb2 hk2 C2
      go_wp2_with fail
      go_roundw
      case rel => exact ⟨i + 1, by go_num, by omega, by rw [HX.out, ← strC_app]; exact HI2.out, HO2.out, HB2.out, hsz2⟩
      case measure => simp [intOf]; omega
    · have hie : i = L := by omega
      subst hie
      have e1 : joinT ts (K.take i) = joinT ts K := by rw [List.take_of_length_le (by rw [HL.out]; exact Nat.le_refl _)]
      rw [e1] at HI
      obtain ⟨V, hV⟩ : ∃ V, joinT ts K = V := ⟨_, rfl⟩
      have HV := hid hV
      rw [hV] at HI
      clear hV
      have e2 := strC_eta V
      have hI2 := HI.out
      rw [Lib.strCells_eq] at hI2
      have C := hid (fun h => Try.Builder_String_any _ _ _ wr hI2 h)
      rw [e2] at C
      clear hI2 e1 e2 hjs
      go_wp2_with fail
      refine (C.out (Nat.le_of_lt hsz)).mono ?_
      rintro e w2 ⟨rfl, hb2⟩
      have HB2 := hid (HB.out.trans hb2)
      go_wp2_with fail
      go_ret
      exact ⟨by rw [HV.out]; rfl, HB2.out⟩

end Go.Proofs.Ytkcmagfbacmllab
