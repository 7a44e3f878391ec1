/- Contract of the program's Clash. -/
import Derived.Test.YtidkbpcceoocaaaDoorHStamp
import Derived.Test.YtidkbpcceoocaaaDoorHTie
namespace Go.Proofs.YtidkbpcceoocaaaDoor
open Go.RowKit
set_option linter.unusedVariables false
set_option linter.unusedSimpArgs false

theorem stC_get (ss : List ByteArray) : ∀ (l : List ByteArray) (i : Nat) (h : i < l.length), (stC ss l)[i * 2]? = some (.int .i64 ((hsB l[i] : Nat) : Int)) ∧ (stC ss l)[i * 2 + 1]? = some (.int .i64 ((fidx ss l[i] : Nat) : Int))
  | t :: l, 0, _ => ⟨rfl, rfl⟩
  | t :: l, i + 1, h => by
    have := stC_get ss l i (by simpa using h)
    have e : stC ss (t :: l) = .int .i64 ((hsB t : Nat) : Int) :: .int .i64 ((fidx ss t : Nat) : Int) :: stC ss l := rfl
    rw [e, show (i + 1) * 2 = i * 2 + 1 + 1 by omega]
    exact this

theorem dgL_len (n : Int) : (dgL n).length ≤ 100 := by
  unfold dgL
  split
  · rename_i h
    have := dec_le n.toNat (by omega)
    unfold padL
    simp
    omega
  · simp

set_option maxHeartbeats 2000000 in
set_option maxRecDepth 8000 in
theorem cClashI (a : Option Addr) (cap : Nat) (ss : List ByteArray) (w : World) (hS : StrAt w a ss) (hz : ∀ s ∈ ss, s.size ≤ 1048576) (hn : ss.length ≤ 1048576) (hL : Laid w) :
    Calls Tryd.prog 17 #[.slice a ss.length cap] w fun e w' => e = .returned (.bool (clB ss)) ∧ Below w.heap.size w w' := by
  obtain ⟨R, hR⟩ : ∃ R : Bool, clB ss = R := ⟨_, rfl⟩
  have HR : Hid (clB ss = R) := hR
  have HL : Hid (Laid w) := hL
  have C := cStamps a cap ss w.heap.size (w.alloc (.map #[] 0)) (hS.below ((Below.refl _ w).alloc (Nat.le_refl _) _)) hz hn (OwnsM.made w) (fun h x e => by
    obtain ⟨b, o, ha, hlt, _⟩ := hS 0 h
    rw [ha] at e
    cases e
    exact hlt)
  rw [hR]
  clear hR hS hz hL
  obtain ⟨n, hnn⟩ : ∃ n, ss.length = n := ⟨_, rfl⟩
  have HN : Hid (ss.length = n) := hnn
  rw [hnn] at hn C ⊢
  clear hnn
  go_enter Tryd.func17, Tryd.ntmps17
  go_wp2_with fail
  refine upon_run (run_makeMapN 52 9 56 Tryd.underlying52 .i64 (n : Int) w) ?_
  go_wp2_with fail
  refine C.mono ?_
  rintro e w2 ⟨v, rfl, ho2, hM2, hB2⟩
  clear C
  have hB2' : Below w.heap.size w w2 := ((Below.refl _ w).alloc (Nat.le_refl _) _).trans hB2
  have hbw : w.heap.size < w2.heap.size := by
    obtain ⟨es, clock, h⟩ := hM2.map
    exact lt_of_heap h
  rcases ho2.2 with ⟨rfl, hn0⟩ | ⟨g, cap', cur, rfl, hgb, -⟩
  · have hss : ss = [] := List.length_eq_zero_iff.1 (HN.out.trans hn0)
    have h1 := HR.out
    rw [hss] at h1
    have h2 : clB [] = false := rfl
    rw [h2] at h1
    subst h1 hn0
    have HM2 := hid hM2
    have HB2 := hid hB2'
    clear ho2 hM2 hB2 hB2' HR hss h2
    go_wp2_with fail
    refine upon_ex (HM2.out.clear _) ?_
    rintro _ w3 ⟨rfl, hM3, hg3⟩
    have HB3 := hid (HB2.out.grown hg3 (by omega) (fun k e => by cases e; exact Nat.le_refl _))
    clear hM3 hg3 HM2 HB2
    go_wp2_with fail
    go_loopw [19] (fun k wr => k = .int .i64 0 ∧ Below w.heap.size w wr) (fun _ _ => 0)
    case atStart => exact ⟨rfl, HB3.out⟩
    case round =>
      obtain ⟨rfl, hB⟩ := hrel
      have HB := hid hB
      clear hB
      go_wp2_with fail
      go_ret
      exact ⟨rfl, HB.out⟩
  · have hg0 : w.heap.size < g := by simp at hgb; omega
    have HO2 := hid ho2
    have HM2 := hid hM2
    have HB2 := hid hB2'
    clear ho2 hM2 hB2 hB2' hgb
    go_wp2_with fail
    refine upon_ex (HM2.out.clear _) ?_
    rintro _ w3 ⟨rfl, hM3, hg3⟩
    have HO3 := hid (HO2.out.kept hg3 (.inr (by simp [Value.ownBlock]; omega)))
    have HB3 := hid (HB2.out.grown hg3 (by omega) (fun k e => by cases e; exact Nat.le_refl _))
    have HM3 := hid hM3
    have hs3 : w.heap.size < w3.heap.size := Nat.lt_of_lt_of_le hbw hg3.size
    clear hM3 hg3 HM2 HO2 HB2 hbw
    go_wp2_with fail
    go_loopw [19] (fun k wr => ∃ i : Nat, k = .int .i64 (i : Int) ∧ i ≤ n ∧ Good ss i ∧ wr.ownsRow (w.alloc (.map #[] 0)).heap.size 56 2 (.slice (some ⟨g, 0, none⟩) n cap') n (stC ss ss) ∧ OwnsM wr w.heap.size i (gM ss (ss.take i)) ∧ Below w.heap.size w wr ∧ w.heap.size < wr.heap.size) (fun k _ => n - (intOf k).toNat)
    case atStart => exact ⟨0, rfl, Nat.zero_le _, good_zero ss, HO3.out, HM3.out, HB3.out, hs3⟩
    case round =>
      clear HO3 HM3 HB3 hs3
      obtain ⟨i, rfl, hi, hG, hO, hMr, hB, hsr⟩ := hrel
      have HG := hid hG
      have HO := hid hO
      have HM := hid hMr
      have HB := hid hB
      by_cases hlt : i < n
      · have his : i < ss.length := by rw [HN.out]; exact hlt
        have HT := hid (take_next his)
        obtain ⟨q1, q2⟩ := stC_get ss ss i his
        have c0 := hO.cells (g := g) rfl _ _ q1
        have c1 := hO.cells (g := g) rfl _ _ q2
        rw [Go.WideShapes.add_plain] at c0 c1
        simp only [Nat.zero_add] at c0 c1
        have HX := hid (show stp ss ss[i] = (((hsB ss[i] : Nat) : Int), ((fidx ss ss[i] : Nat) : Int)) from rfl)
        have HK := hid (show keyB ss[i] = ⟨(dgL ((hsB ss[i] : Nat) : Int)).toArray⟩ from rfl)
        generalize hsB ss[i] = H at c0 c1 HX HK
        generalize fidx ss ss[i] = F at c0 c1 HX
        have hin : (i : Int) < (n : Int) := by omega
        clear hO hMr hB hG q1 q2
        go_wp2_with fail
        refine (cDigI (H : Int) _ (HL.out.below (HB.out.alloc (by omega) _))).mono ?_
        rintro e w4 ⟨rfl, hb4⟩
        have hh4 : w4.heap[wr.heap.size]? = some (.cells #[.int .i64 (H : Int), .int .i64 (F : Int)] 56 (0, 0)) := (hb4.block _ (by simp)).trans (heap_alloc_new _ _)
        have hg4 := grown_of_below hb4
        have HM4 := hid ((HM.out.alloc (.cells #[.int .i64 (H : Int), .int .i64 (F : Int)] 56)).kept hg4 (by simp))
        have HO4 := hid ((HO.out.alloc (.cells #[.int .i64 (H : Int), .int .i64 (F : Int)] 56)).kept hg4 (Decidable.em _))
        have HB4 := hid ((HB.out.alloc (by omega) (.cells #[.int .i64 (H : Int), .int .i64 (F : Int)] 56)).grown hg4 (by simp; omega) (by simp))
        have hs4 : w.heap.size < w4.heap.size := Nat.lt_of_lt_of_le (by simp; omega) hb4.size
        have hz4 : wr.heap.size < w4.heap.size := lt_of_heap hh4
        obtain ⟨B, hBe⟩ : ∃ B, wr.heap.size = B := ⟨_, rfl⟩
        have hBw : w.heap.size < B := by rw [← hBe]; exact hsr
        have k0 : w4.cell? ⟨B, 0, none⟩ = some (.int .i64 (H : Int)) := by rw [← hBe, Lib.cell_of_heap hh4]; rfl
        have k1 : w4.cell? ⟨B, 1, none⟩ = some (.int .i64 (F : Int)) := by rw [← hBe, Lib.cell_of_heap hh4]; rfl
        have HH4 := hid hh4
        obtain ⟨K, hK⟩ : ∃ K : ByteArray, ⟨(dgL (H : Int)).toArray⟩ = K := ⟨_, rfl⟩
        have hKs : K.size ≤ 100 := by rw [← hK, size_mk]; exact dgL_len _
        have HKK := hid (HK.out.trans hK)
        rw [hBe] at HH4 hz4 ⊢
        rw [hK]
        clear hBe hb4 hg4 hh4 HM HO HB hsr c0 c1 HK hK
        go_wp2_with fail
        refine upon_run (HM4.out.look (s := K) (by unfold maxLen; omega)) ?_
        have hne : ∀ p : Int × Int, gM ss (ss.take i) K = some p → p ≠ ((H : Int), (F : Int)) → R = true := fun p h hp => by
          rw [← HR.out]
          rw [← HKK.out] at h
          rw [← HX.out] at hp
          exact clash_now his h hp
        have HNE := hid hne
        clear hne
        cases hgm : gM ss (ss.take i) K with
        | none =>
          simp only [Option.getD_none, Option.isSome_none]
          have HGN := hid hgm
          clear hgm
          go_wp2_with fail
          refine upon_ex ((HM4.out.alloc _).store (by unfold maxLen; omega) (s := K) (by unfold maxLen; omega) (H : Int) (F : Int)) ?_
          rintro _ w5 ⟨hM5, hg5⟩
          have HM5 := hid hM5
          have HO5 := hid ((HO4.out.alloc _).kept hg5 (.inr (by simp [Value.ownBlock]; omega)))
          have HB5 := hid ((HB4.out.alloc (by omega) _).grown hg5 (by simp; omega) (fun k e => by cases e; exact Nat.le_refl _))
          have hs5 : w.heap.size < w5.heap.size := Nat.lt_of_lt_of_le (by simp; omega) hg5.size
          have HG5 := hid (clash_not his HG.out (.inl (by rw [HKK.out]; exact HGN.out)))
          clear hM5 hg5 HM4 HO4 HB4 HG k0 k1 HH4
          go_wp2_with fail
          go_roundw
          case rel =>
            refine ⟨i + 1, by go_num, by omega, HG5.out, HO5.out, ?_, HB5.out, hs5⟩
            rw [HT.out, gM_snoc, HKK.out, HX.out]
            exact HM5.out
          case measure => simp [intOf]; omega
        | some p =>
          obtain ⟨p1, p2⟩ := p
          simp only [Option.getD_some, Option.isSome_some]
          have HGN := hid hgm
          clear hgm
          by_cases e1 : p1 = (H : Int)
          · by_cases e2 : p2 = (F : Int)
            · subst e1 e2
              go_wp2_with fail
              refine upon_ex ((HM4.out.alloc _).store (by unfold maxLen; omega) (s := K) (by unfold maxLen; omega) (H : Int) (F : Int)) ?_
              rintro _ w5 ⟨hM5, hg5⟩
              have HM5 := hid hM5
              have HO5 := hid ((HO4.out.alloc _).kept hg5 (.inr (by simp [Value.ownBlock]; omega)))
              have HB5 := hid ((HB4.out.alloc (by omega) _).grown hg5 (by simp; omega) (fun k e => by cases e; exact Nat.le_refl _))
              have hs5 : w.heap.size < w5.heap.size := Nat.lt_of_lt_of_le (by simp; omega) hg5.size
              have HG5 := hid (clash_not his HG.out (.inr (by rw [HKK.out, HX.out]; exact HGN.out)))
              clear hM5 hg5 HM4 HO4 HB4 HG k0 k1 HH4
              go_wp2_with fail
              go_roundw
              case rel =>
                refine ⟨i + 1, by go_num, by omega, HG5.out, HO5.out, ?_, HB5.out, hs5⟩
                rw [HT.out, gM_snoc, HKK.out, HX.out]
                exact HM5.out
              case measure => simp [intOf]; omega
            · obtain rfl := HNE.out _ HGN.out (by simp [e2])
              subst e1
              go_wp2_with fail
              go_ret
              exact ⟨rfl, HB4.out.alloc (by omega) _⟩
          · obtain rfl := HNE.out _ HGN.out (by simp [e1])
            go_wp2_with fail
            go_ret
            exact ⟨rfl, HB4.out.alloc (by omega) _⟩
      · have hie : i = n := by omega
        subst hie
        rw [← HN.out] at hG
        have h1 := HR.out
        rw [good_end hG] at h1
        subst h1
        clear hG hO hMr hB HG HR
        go_wp2_with fail
        go_ret
        exact ⟨rfl, HB.out⟩

end Go.Proofs.YtidkbpcceoocaaaDoor
