/- Pairs of a meaning and a local in place of keys (mathematics alone); contracts of slices.Index and slices.Contains over a row of pairs. Which of two attrs the program holds ahead: contracts of cmp.Compare, cmp.Or, cmp.Less, compareNames and meantAttr. Which of two attrs the program holds ahead: contracts of compareNames, meantAttr and of the closure that SortFunc is handed. -/
import Derived.Test.YtmghipjpgoghlaaGreatM25
import Derived.Test.YtmghipjpgoghlaaGreatM23
import Derived.Test.YtmghipjpgoghlaaGreatM1
import Derived.Test.YtmghipjpgoghlaaGreatM24
import Derived.Test.YtmghipjpgoghlaaGreatM12
import Derived.Deep.QuietTactic
import Derived.BigQuiet
import Derived.Laws.Cover1
import Derived.Deep.RegionHeld3
namespace Go.Proofs.YtmghipjpgoghlaaGreat
open Go.RowKit
set_option linter.unusedVariables false
set_option linter.unusedSimpArgs false

theorem sp_inj : ∀ (a b c d : List UInt8), (∀ x ∈ a, ¬ x = 32) → (∀ x ∈ c, ¬ x = 32) → a ++ 32 :: b = c ++ 32 :: d → a = c ∧ b = d
  | [], b, [], d, _, _, h => ⟨rfl, by simpa using h⟩
  | [], b, y :: c, d, _, hc, h => by
    simp only [List.nil_append, List.cons_append, List.cons.injEq] at h
    exact absurd h.1.symm (hc y (List.mem_cons_self ..))
  | x :: a, b, [], d, ha, _, h => by
    simp only [List.nil_append, List.cons_append, List.cons.injEq] at h
    exact absurd h.1 (ha x (List.mem_cons_self ..))
  | x :: a, b, y :: c, d, ha, hc, h => by
    simp only [List.cons_append, List.cons.injEq] at h
    obtain ⟨e1, e2⟩ := sp_inj a b c d (fun z hz => ha z (List.mem_cons_of_mem _ hz)) (fun z hz => hc z (List.mem_cons_of_mem _ hz)) h.2
    exact ⟨by rw [h.1, e1], e2⟩

/-- No blank stands in it. -/
def NoSp (s : ByteArray) : Prop := ∀ x ∈ s.data.toList, ¬ x = 32

theorem key_inj {a b c d : ByteArray} (ha : NoSp a) (hc : NoSp c) (h : (a ++ ⟨#[32]⟩) ++ b = (c ++ ⟨#[32]⟩) ++ d) : a = c ∧ b = d := by
  have h2 : a.data.toList ++ 32 :: b.data.toList = c.data.toList ++ 32 :: d.data.toList := by
    have h3 := congrArg (fun s : ByteArray => s.data.toList) h
    simpa using h3
  obtain ⟨e1, e2⟩ := sp_inj _ _ _ _ ha hc h2
  refine ⟨?_, ?_⟩
  · apply ByteArray.ext
    exact Array.toList_inj.1 e1
  · apply ByteArray.ext
    exact Array.toList_inj.1 e2

theorem of_nosp {s : ByteArray} (h : ofB sgnS 20 s = true) : NoSp s := by
  intro x hx e
  subst e
  unfold ofB at h
  rw [Bool.and_eq_true] at h
  have h2 := List.all_eq_true.1 h.1 _ hx
  revert h2
  decide

theorem look_nosp {l : List At} (hl : l.all rightB = true) (p : ByteArray) : NoSp ((lookL l p).getD ⟨#[]⟩) := by
  unfold lookL
  cases hf : l.find? (declB p) with
  | none =>
    simp only
    split
    · intro x hx; cases hx
    · intro x hx; cases hx
  | some y =>
    simp only [Option.getD_some]
    have h1 := List.all_eq_true.1 hl y (List.mem_of_find?_eq_some hf)
    have h2 := List.find?_some hf
    unfold declB at h2
    have h3 : declF y = some p := by simpa using h2
    unfold rightB at h1
    rw [h3] at h1
    simp only [Bool.and_eq_true] at h1
    exact of_nosp h1.1

noncomputable def pairN (ts : List Tk) (i : Nat) (x : At) : ByteArray × ByteArray := ((meanF ts i (preS x.name)).getD ⟨#[]⟩, locS x.name)

noncomputable def pairsN (ts : List Tk) (i : Nat) (l : List At) : List (ByteArray × ByteArray) := (l.filter cntB).map (pairN ts i)

theorem meanF_look {ts : List Tk} {i : Nat} (h : (outAts ts i).all rightB = true) (p : ByteArray) : meanF ts i p = lookL (outAts ts i) p := by
  rw [meanF_out]
  exact meanL_look p h

theorem pair_mem {ts : List Tk} {i : Nat} (h : (outAts ts i).all rightB = true) (l : List At) (x : At) : keyN ts i x ∈ keysN ts i l ↔ pairN ts i x ∈ pairsN ts i l := by
  unfold keysN pairsN
  rw [List.mem_map, List.mem_map]
  refine exists_congr fun y => and_congr_right fun _ => ?_
  unfold keyN pairN
  have n1 : NoSp ((meanF ts i (preS y.name)).getD ⟨#[]⟩) := by rw [meanF_look h]; exact look_nosp h _
  have n2 : NoSp ((meanF ts i (preS x.name)).getD ⟨#[]⟩) := by rw [meanF_look h]; exact look_nosp h _
  constructor
  · intro e
    obtain ⟨e1, e2⟩ := key_inj n1 n2 e
    rw [e1, e2]
  · intro e
    have e1 := congrArg Prod.fst e
    have e2 := congrArg Prod.snd e
    simp only at e1 e2
    rw [e1, e2]

theorem pairsN_skip {ts : List Tk} {i : Nat} {l : List At} {x : At} (hc : cntB x = false) : pairsN ts i (l ++ [x]) = pairsN ts i l := by
  unfold pairsN
  rw [List.filter_append]
  simp [hc]

theorem pairsN_more {ts : List Tk} {i : Nat} {l : List At} {x : At} (hc : cntB x = true) : pairsN ts i (l ++ [x]) = pairsN ts i l ++ [pairN ts i x] := by
  unfold pairsN
  rw [List.filter_append]
  simp [hc]

theorem cntB_is (x : At) : cntB x = (!decide ((preS x.name).size = 0) && !decide (preS x.name = nsS)) := by
  have h0 : preS nsS = ⟨#[]⟩ := by decide +kernel
  unfold cntB declF
  by_cases h1 : x.name = nsS
  · rw [if_pos h1, h1, h0]
    rfl
  · rw [if_neg h1]
    by_cases h2 : preS x.name = nsS
    · rw [if_pos h2, decide_eq_true h2]
      simp
    · rw [if_neg h2, decide_eq_false h2]
      simp

/-- Pairs as cells. -/
def prC (ps : List (ByteArray × ByteArray)) : List Value := ps.flatMap fun q => [.string q.1, .string q.2]

theorem prC_snoc (ps : List (ByteArray × ByteArray)) (q : ByteArray × ByteArray) : prC (ps ++ [q]) = prC ps ++ [.string q.1, .string q.2] := by
  unfold prC
  rw [List.flatMap_append]
  simp

theorem prC_get : ∀ (ps : List (ByteArray × ByteArray)) (j : Nat) (h : j < ps.length), (prC ps)[j * 2]? = some (.string ps[j].1) ∧ (prC ps)[j * 2 + 1]? = some (.string ps[j].2)
  | [], j, h => by simp at h
  | x :: ps, 0, h => ⟨rfl, rfl⟩
  | x :: ps, j + 1, h => by
    have := prC_get ps j (by simpa using h)
    rw [show (j + 1) * 2 = j * 2 + 1 + 1 by omega]
    exact this

/-- A row of pairs can be read. -/
def PrRow (w : World) (a : Option Addr) (ps : List (ByteArray × ByteArray)) : Prop := ∀ j (h : j < ps.length), ∃ g, a = some ⟨g, 0, none⟩ ∧ g < w.heap.size ∧ w.cell? ⟨g, j * 2, none⟩ = some (.string ps[j].1) ∧ w.cell? ⟨g, j * 2 + 1, none⟩ = some (.string ps[j].2)

theorem PrRow.below {w w' : World} {a : Option Addr} {ps : List (ByteArray × ByteArray)} (h : PrRow w a ps) (hb : Below w.heap.size w w') : PrRow w' a ps := by
  intro j hj
  obtain ⟨g, e, hg, c1, c2⟩ := h j hj
  exact ⟨g, e, Nat.lt_of_lt_of_le hg hb.size, (hb.cell (p := ⟨g, j * 2, none⟩) hg).trans c1, (hb.cell (p := ⟨g, j * 2 + 1, none⟩) hg).trans c2⟩

theorem PrRow.of {w : World} {B : Nat} {a : Option Addr} {c : Nat} {ps : List (ByteArray × ByteArray)} (h : w.ownsRow B 161 2 (.slice a ps.length c) ps.length (prC ps)) : PrRow w a ps := by
  intro j hj
  rcases h.2 with ⟨_, h0⟩ | ⟨g, cap, cur, e, hg, hh, h3⟩
  · omega
  · cases e
    obtain ⟨p1, p2⟩ := prC_get ps j hj
    exact ⟨g, rfl, lt_of_heap hh, by rw [World.ownsRow.cellAt h (j * 2) (by omega)]; exact p1, by rw [World.ownsRow.cellAt h (j * 2 + 1) (by omega)]; exact p2⟩

theorem prs_more {w1 : World} {B : Nat} {v : Value} {ps : List (ByteArray × ByteArray)} {q : ByteArray × ByteArray} (h : w1.ownsRow B 161 2 v (ps.length + 1) (prC ps ++ [.string q.1, .string q.2])) : ∃ a c, v = .slice a (ps ++ [q]).length c ∧ w1.ownsRow B 161 2 (.slice a (ps ++ [q]).length c) (ps ++ [q]).length (prC (ps ++ [q])) := by
  have e : (ps ++ [q]).length = ps.length + 1 := by rw [List.length_append]; rfl
  rw [e, prC_snoc]
  rcases h.2 with ⟨rfl, h0⟩ | ⟨g, cap, cur, rfl, h3⟩
  · omega
  · exact ⟨_, _, rfl, h⟩

/-- One of them is it. -/
noncomputable def hasP (ps : List (ByteArray × ByteArray)) (q : ByteArray × ByteArray) : Bool := open Classical in decide (q ∈ ps)

theorem hasP_t {ps : List (ByteArray × ByteArray)} {q : ByteArray × ByteArray} (h : q ∈ ps) : hasP ps q = true := by unfold hasP; simp [h]

theorem hasP_f {ps : List (ByteArray × ByteArray)} {q : ByteArray × ByteArray} (h : ¬ q ∈ ps) : hasP ps q = false := by unfold hasP; simp [h]

set_option maxRecDepth 4000 in
set_option maxHeartbeats 2000000 in
theorem cIndexP (a : Option Addr) (cap : Nat) (ps : List (ByteArray × ByteArray)) (m l : ByteArray) (w : World) (hR : PrRow w a ps) (hn : ps.length ≤ 1048576) :
    Calls Tryz.prog 157 #[.slice a ps.length cap, .agg #[.string m, .string l]] w fun e w' => ∃ r : Int, e = .returned (.int .i64 r) ∧ decide (0 ≤ r) = hasP ps (m, l) ∧ Below w.heap.size w w' := by
  obtain ⟨V, hV⟩ : ∃ V, hasP ps (m, l) = V := ⟨_, rfl⟩
  have HF : Hid (¬ (m, l) ∈ ps → V = false) := fun h => by rw [← hV]; exact hasP_f h
  have HT : Hid ((m, l) ∈ ps → V = true) := fun h => by rw [← hV]; exact hasP_t h
  rw [hV]
  clear hV
  have HR := hid hR
  have HB0 := hid ((Below.refl w.heap.size w).alloc (Nat.le_refl _) (.cells #[.string m, .string l] 161))
  have HX := hid (box_two w (.string m) (.string l) 161)
  clear hR
  obtain ⟨n, hnn⟩ : ∃ n, ps.length = n := ⟨_, rfl⟩
  have HN := hid hnn
  rw [hnn] at hn ⊢
  clear hnn
  go_enter Tryz.func157, Tryz.ntmps157
  go_wp2_with fail
  go_loopw [8] (fun k wr => ∃ i : Nat, k = .int .i64 (i : Int) ∧ i ≤ n ∧ Hid (¬ (m, l) ∈ ps.take i) ∧ Hid (Below (w.heap.size + 1) (w.alloc (.cells #[.string m, .string l] 161)) wr)) (fun k _ => n - (intOf k).toNat)
  case atStart => exact ⟨0, rfl, Nat.zero_le _, by show ¬ _; simp, Below.refl _ _⟩
  case round =>
    obtain ⟨i, rfl, hi, HO, HB⟩ := hrel
    have k1 := (HB.out.cell (p := ⟨w.heap.size, 0, none⟩) (Nat.lt_succ_self _)).trans HX.out.1
    have k2 := (HB.out.cell (p := ⟨w.heap.size, 1, none⟩) (Nat.lt_succ_self _)).trans HX.out.2.1
    have HBw := hid (HB0.out.trans (HB.out.mono (Nat.le_succ _)))
    by_cases hlt : i < n
    · have his : i < ps.length := by rw [HN.out]; exact hlt
      obtain ⟨g, rfl, hg, c1, c2⟩ := (HR.out.below HBw.out) i his
      have hin : (i : Int) < (n : Int) := by omega
      have hin0 : (0 : Int) ≤ (i : Int) := by omega
      have q1 := str_beq m ps[i].1
      have q2 := str_beq l ps[i].2
      have HTK := hid (take_snocN his)
      have HYES := hid (show m = ps[i].1 → l = ps[i].2 → V = true from fun e1 e2 => HT.out (by rw [e1, e2]; exact List.getElem_mem his))
      have HNO := hid (show ¬ (m = ps[i].1 ∧ l = ps[i].2) → ¬ (m, l) ∈ ps.take (i + 1) from fun h hm => by
        rw [HTK.out] at hm
        rcases List.mem_append.1 hm with h' | h'
        · exact HO.out h'
        · rw [List.mem_singleton] at h'
          exact h ⟨congrArg Prod.fst h', congrArg Prod.snd h'⟩)
      generalize ps[i].1 = m' at *
      generalize ps[i].2 = l' at *
      by_cases e1 : m = m'
      · rw [decide_eq_true e1] at q1
        by_cases e2 : l = l'
        · rw [decide_eq_true e2] at q2
          have HV := hid (HYES.out e1 e2)
          clear HNO HYES e1 e2
          go_wp2_with fail
          go_quiet (fail)
          go_wp2_with fail
          go_ret
          exact ⟨_, rfl, by rw [HV.out]; exact decide_eq_true hin0, below_drewN HBw.out _⟩
        · rw [decide_eq_false e2] at q2
          have HN2 := hid (HNO.out (fun h => e2 h.2))
          clear HNO HYES e1 e2
          go_wp2_with fail
          go_quiet (fail)
          go_wp2_with fail
          go_roundw
          case rel => exact ⟨i + 1, by go_num, by omega, HN2.out, below_drewN HB.out _⟩
          case measure => simp [intOf]; omega
      · rw [decide_eq_false e1] at q1
        have HN2 := hid (HNO.out (fun h => e1 h.1))
        clear HNO HYES e1 q2
        go_wp2_with fail
        go_quiet (fail)
        go_wp2_with fail
        go_roundw
        case rel => exact ⟨i + 1, by go_num, by omega, HN2.out, below_drewN HB.out _⟩
        case measure => simp [intOf]; omega
    · have hie : i = n := by omega
      subst hie
      have HV := hid (HF.out (by
        have h := HO.out
        rw [List.take_of_length_le (by rw [HN.out]; exact Nat.le_refl _)] at h
        exact h))
      go_wp2_with fail
      go_ret
      exact ⟨_, rfl, by rw [HV.out]; rfl, HBw.out⟩

set_option maxHeartbeats 2000000 in
theorem cContainsP (a : Option Addr) (cap : Nat) (ps : List (ByteArray × ByteArray)) (m l : ByteArray) (w : World) (hR : PrRow w a ps) (hn : ps.length ≤ 1048576) :
    Calls Tryz.prog 141 #[.slice a ps.length cap, .agg #[.string m, .string l]] w fun e w' => e = .returned (.bool (hasP ps (m, l))) ∧ Below w.heap.size w w' := by
  have HB0 := hid ((Below.refl w.heap.size w).alloc (Nat.le_refl _) (.cells #[.string m, .string l] 161))
  have C := hid (cIndexP a cap ps m l (w.alloc (.cells #[.string m, .string l] 161)) (hR.below HB0.out) hn)
  clear hR
  generalize hasP ps (m, l) = V at *
  generalize ps.length = n at *
  go_enter Tryz.func141, Tryz.ntmps141
  go_wp2_with fail
  refine C.out.mono ?_
  rintro e w1 ⟨r, rfl, hr, hb1⟩
  have HB1 := hid (bb HB0.out hb1)
  clear hb1 C
  go_wp2_with fail
  go_ret
  exact ⟨rfl, HB1.out⟩

end Go.Proofs.YtmghipjpgoghlaaGreat

namespace Go.Proofs.YtmghipjpgoghlaaGreat
open Go.RowKit
set_option linter.unusedVariables false
set_option linter.unusedSimpArgs false

theorem cIsNaN (x : ByteArray) (w : World) : Calls Tryz.prog 170 #[.string x] w fun e w' => e = .returned (.bool false) ∧ w' = w := by
  have hx : (x.toList != x.toList) = false := by simp
  go_enter Tryz.func170, Tryz.ntmps170
  go_wp2
  go_ret
  exact ⟨rfl, rfl⟩

/-- Less, alike, greater. -/
noncomputable def cmpV (x y : ByteArray) : Int := if ltB x y = true then -1 else open Classical in if x = y then 0 else 1

set_option maxHeartbeats 2000000 in
theorem cCompare (x y : ByteArray) (w : World) : Calls Tryz.prog 151 #[.string x, .string y] w fun e w' => e = .returned (.int .i64 (cmpV x y)) ∧ w' = w := by
  have C1 := hid (fun wx => cIsNaN x wx)
  have C2 := hid (fun wx => cIsNaN y wx)
  obtain ⟨V, hV⟩ : ∃ V, cmpV x y = V := ⟨_, rfl⟩
  rw [hV]
  cases h1 : ltB x y with
  | true =>
    have HV := hid (show V = -1 by rw [← hV]; unfold cmpV; rw [if_pos h1])
    clear hV
    unfold ltB at h1
    go_enter Tryz.func151, Tryz.ntmps151
    go_wp2_with fail
    refine (C1.out _).mono ?_
    rintro e w1 ⟨rfl, rfl⟩
    go_wp2_with fail
    refine (C2.out _).mono ?_
    rintro e w2 ⟨rfl, rfl⟩
    go_wp2_with fail
    go_ret
    exact ⟨by rw [HV.out]; rfl, rfl⟩
  | false =>
    by_cases h2 : x = y
    · have HV := hid (show V = 0 by rw [← hV]; unfold cmpV; rw [if_neg (by rw [h1]; exact Bool.false_ne_true), if_pos h2])
      have h3 : (x.toList == y.toList) = true := by rw [str_beq]; exact decide_eq_true h2
      have h4 : (x.toList != y.toList) = false := by unfold bne; rw [h3]; rfl
      clear hV h2
      unfold ltB at h1
      go_enter Tryz.func151, Tryz.ntmps151
      go_wp2_with fail
      refine (C1.out _).mono ?_
      rintro e w1 ⟨rfl, rfl⟩
      go_wp2_with fail
      refine (C2.out _).mono ?_
      rintro e w2 ⟨rfl, rfl⟩
      go_wp2_with fail
      go_ret
      exact ⟨by rw [HV.out]; rfl, rfl⟩
    · have HV := hid (show V = 1 by rw [← hV]; unfold cmpV; rw [if_neg (by rw [h1]; exact Bool.false_ne_true), if_neg h2])
      have h3 : (x.toList == y.toList) = false := by rw [str_beq]; exact decide_eq_false h2
      have h4 : (x.toList != y.toList) = true := by unfold bne; rw [h3]; rfl
      clear hV h2
      unfold ltB at h1
      go_enter Tryz.func151, Tryz.ntmps151
      go_wp2_with fail
      refine (C1.out _).mono ?_
      rintro e w1 ⟨rfl, rfl⟩
      go_wp2_with fail
      refine (C2.out _).mono ?_
      rintro e w2 ⟨rfl, rfl⟩
      go_wp2_with fail
      go_ret
      exact ⟨by rw [HV.out]; rfl, rfl⟩

set_option maxHeartbeats 2000000 in
theorem cLess (x y : ByteArray) (w : World) : Calls Tryz.prog 177 #[.string x, .string y] w fun e w' => e = .returned (.bool (ltB x y)) ∧ w' = w := by
  have C1 := hid (fun wx => cIsNaN x wx)
  unfold ltB
  go_enter Tryz.func177, Tryz.ntmps177
  go_wp2_with fail
  refine (C1.out _).mono ?_
  rintro e w1 ⟨rfl, rfl⟩
  go_wp2_with fail
  go_ret
  exact ⟨rfl, rfl⟩

/-- The first that is not nothing. -/
def orV (a b : Int) : Int := if a = 0 then b else a

set_option maxHeartbeats 2000000 in
theorem cOr (g : Nat) (a b : Int) (w : World) (h1 : w.cell? ⟨g, 0, none⟩ = some (.int .i64 a)) (h2 : w.cell? ⟨g, 1, none⟩ = some (.int .i64 b)) :
    Calls Tryz.prog 150 #[.slice (some ⟨g, 0, none⟩) 2 2] w fun e w' => e = .returned (.int .i64 (orV a b)) ∧ w' = w := by
  obtain ⟨V, hV⟩ : ∃ V, orV a b = V := ⟨_, rfl⟩
  rw [hV]
  by_cases ha : a = 0
  · by_cases hb : b = 0
    · have HV := hid (show V = 0 by rw [← hV]; unfold orV; rw [if_pos ha, hb])
      subst ha hb
      clear hV
      go_enter Tryz.func150, Tryz.ntmps150
      go_wp2
      refine wp_loop_rounds 3 ?_
      rw [rounds_succ]
      go_wp2_with fail
      rw [rounds_succ]
      go_wp2_with fail
      rw [rounds_succ]
      go_wp2_with fail
      go_ret
      exact ⟨by rw [HV.out]; rfl, rfl⟩
    · have HV := hid (show V = b by rw [← hV]; unfold orV; rw [if_pos ha])
      subst ha
      have hb' : (b != 0) = true := by simpa using hb
      clear hV
      go_enter Tryz.func150, Tryz.ntmps150
      go_wp2
      refine wp_loop_rounds 3 ?_
      rw [rounds_succ]
      go_wp2_with fail
      rw [rounds_succ]
      go_wp2_with fail
      go_ret
      exact ⟨by rw [HV.out]; rfl, rfl⟩
  · have HV := hid (show V = a by rw [← hV]; unfold orV; rw [if_neg ha])
    have ha' : (a != 0) = true := by simpa using ha
    clear hV
    go_enter Tryz.func150, Tryz.ntmps150
    go_wp2
    refine wp_loop_rounds 3 ?_
    rw [rounds_succ]
    go_wp2_with fail
    go_ret
    exact ⟨by rw [HV.out]; rfl, rfl⟩

end Go.Proofs.YtmghipjpgoghlaaGreat

namespace Go.Proofs.YtmghipjpgoghlaaGreat
open Go.RowKit
set_option linter.unusedVariables false
set_option linter.unusedSimpArgs false

noncomputable def cmpN (M L N K : ByteArray) : Int := orV (cmpV M N) (cmpV L K)

theorem cmpN_ahead {ts : List Tk} {k : Nat} {x y : At} : decide (cmpN (atMean ts k x) (locS x.name) (atMean ts k y) (locS y.name) < 0) = aheadF ts k x y := by
  unfold cmpN aheadF cmpV orV
  cases h1 : ltB (atMean ts k x) (atMean ts k y) with
  | true => simp
  | false =>
    by_cases h2 : atMean ts k x = atMean ts k y
    · cases h3 : ltB (locS x.name) (locS y.name) with
      | true => simp [h2]
      | false =>
        by_cases h4 : locS x.name = locS y.name
        · simp [h2, h4]
        · simp [h2, h4]
    · simp [h2]

set_option maxRecDepth 4000 in
set_option maxHeartbeats 4000000 in
theorem cCompareNames (M L N K : ByteArray) (w : World) :
    Calls Tryz.prog 122 #[.agg #[.string M, .string L], .agg #[.string N, .string K]] w fun e w' => e = .returned (.int .i64 (cmpN M L N K)) ∧ Below w.heap.size w w' := by
  have HB := hid (((Below.refl w.heap.size w).alloc (Nat.le_refl _) (.cells #[.string M, .string L] 161)).alloc (by simp) (.cells #[.string N, .string K] 161))
  have C1 := hid (fun wx => cCompare M N wx)
  have C2 := hid (fun wx => cCompare L K wx)
  have CO := hid (fun g a b wx => cOr g a b wx)
  unfold cmpN
  generalize cmpV M N = P at *
  generalize cmpV L K = Q at *
  have M0 := blk_alloc (heap_alloc_new w (.cells #[.string M, .string L] 161)) (.cells #[.string N, .string K] 161)
  have M1 := heap_two w (.cells #[.string M, .string L] 161) (.cells #[.string N, .string K] 161)
  have hs : ((w.alloc (.cells #[.string M, .string L] 161)).alloc (.cells #[.string N, .string K] 161)).heap.size = w.heap.size + 2 := by simp
  obtain ⟨g, hg⟩ : ∃ g, w.heap.size = g := ⟨_, rfl⟩
  have Hg := hid hg
  go_enter Tryz.func122, Tryz.ntmps122
  go_wp2_with fail
  obtain ⟨W, hW⟩ : ∃ W, (w.alloc (.cells #[.string M, .string L] 161)).alloc (.cells #[.string N, .string K] 161) = W := ⟨_, rfl⟩
  rw [hW] at HB
  simp only [hW, hg] at M0 M1 hs ⊢
  have HSX := hid (show ∀ W', Below W.heap.size W W' → W'.cell? ⟨g, 0, none⟩ = some (.string M) ∧ W'.cell? ⟨g, 1, none⟩ = some (.string L) ∧ W'.cell? ⟨g + 1, 0, none⟩ = some (.string N) ∧ W'.cell? ⟨g + 1, 1, none⟩ = some (.string K) from fun W' hb => ⟨(box2e (blk_below M0 hb)).1.1, (box2e (blk_below M0 hb)).1.2, (box2e (blk_below M1 hb)).1.1, (box2e (blk_below M1 hb)).1.2⟩)
  have HBc := hid ((Below.refl W.heap.size W).drew)
  have K0 := hid ((box2e (heap_alloc_new W (.cells #[.int .i64 P, .int .i64 Q] 3))).1)
  have CX := hid (CO.out W.heap.size P Q (W.alloc (.cells #[.int .i64 P, .int .i64 Q] 3)).drew K0.out.1 K0.out.2)
  have HB9 := hid ((HB.out.alloc HB.out.size (.cells #[.int .i64 P, .int .i64 Q] 3)).drew)
  clear hW M0 M1 hs hg
  go_region_held3 (fun w' => w'.cell? ⟨g, 0, none⟩ = some (.string M) ∧ w'.cell? ⟨g, 1, none⟩ = some (.string L) ∧ w'.cell? ⟨g + 1, 0, none⟩ = some (.string N) ∧ w'.cell? ⟨g + 1, 1, none⟩ = some (.string K)) (first | exact HSX.out _ HBc.out | exact HSX.out _ (HBc.out.alloc HBc.out.size _))
    (first
      | (go_at_call 151; (with_reducible refine (C1.out _).mono ?_); rintro e w1 ⟨rfl, hw1⟩; subst hw1)
      | (go_at_call 151; (with_reducible refine (C2.out _).mono ?_); rintro e w1 ⟨rfl, hw1⟩; subst hw1)
      | (go_at_call 150; refine CX.out.mono ?_; rintro e w1 ⟨rfl, hw1⟩; subst hw1))
  go_wp2_with fail
  go_ret
  exact ⟨rfl, HB9.out⟩

/-- What an attr's name means by these. -/
noncomputable def mnL (ls : List At) (x : At) : ByteArray := if (preS x.name).size = 0 then ⟨#[]⟩ else (lookL ls (preS x.name)).getD ⟨#[]⟩

theorem mnL_mean {ts : List Tk} {k : Nat} (h : (outAts ts k).all rightB = true) (x : At) : mnL (outAts ts k) x = atMean ts k x := by
  unfold mnL atMean
  rw [meanF_look h]

set_option maxRecDepth 4000 in
set_option maxHeartbeats 2000000 in
theorem cMeantAttr (x : At) (F : FuncId) (C : Array Value) (ls : List At) (w : World) (hA : Asks F C w ls) (hx : x.name.size ≤ 1048576) :
    Calls Tryz.prog 123 #[.agg #[.string x.name, .string x.value], .func (.func F) #[] C] w fun e w' => e = .returned (.agg #[.string (mnL ls x), .string (locS x.name)]) ∧ Below w.heap.size w w' := by
  have CP := hid (fun wx => cPartsI x.name wx hx)
  have HB0 := hid (((Below.refl w.heap.size w).alloc (Nat.le_refl _) (.cells #[.string x.name, .string x.value] 42)).alloc (by simp) (.cells #[.string ⟨#[]⟩, .string ⟨#[]⟩] 161))
  have M1 := hid (heap_two w (.cells #[.string x.name, .string x.value] 42) (.cells #[.string ⟨#[]⟩, .string ⟨#[]⟩] 161))
  have he := hA.1 (preS x.name)
  have CM := hid (fun wx (hb : Below w.heap.size w wx) => hA.2 (preS x.name) wx hb (preS_sz hx))
  have E := empty_is (preS x.name)
  have HM := hid (show mnL ls x = if (preS x.name).size = 0 then ⟨#[]⟩ else (lookL ls (preS x.name)).getD ⟨#[]⟩ from rfl)
  generalize mnL ls x = V at *
  generalize (lookL ls (preS x.name)).getD ⟨#[]⟩ = M at *
  generalize (lookL ls (preS x.name)).isSome = I at *
  generalize preS x.name = P at *
  generalize locS x.name = L at *
  clear hA hx
  by_cases hq : P.size = 0
  · have HV := hid (show V = ⟨#[]⟩ by rw [HM.out, if_pos hq])
    rw [decide_eq_true hq] at E
    clear HM hq CM he
    go_enter Tryz.func123, Tryz.ntmps123
    go_wp2_with fail
    refine (CP.out _).mono ?_
    rintro e w1 ⟨rfl, hb1⟩
    have HB1 := hid (bb HB0.out hb1)
    obtain ⟨⟨y0, y1⟩, f0, f1⟩ := box2e (blk_below M1.out hb1)
    clear hb1
    go_wp2_with fail
    refine bodyPost_ret (v := .agg #[.string ⟨#[]⟩, .string L]) (by simp [results, Tryz.results123, go_sem, y0, y1]) rfl ⟨by rw [HV.out], ?_⟩
    iterate 2 refine Below.setCell ?_ (Nat.le_succ _) _
    exact HB1.out
  · have HV := hid (show V = M by rw [HM.out, if_neg hq])
    rw [decide_eq_false hq] at E
    clear HM hq
    go_enter Tryz.func123, Tryz.ntmps123
    go_wp2_with fail
    refine (CP.out _).mono ?_
    rintro e w1 ⟨rfl, hb1⟩
    have HB1 := hid (bb HB0.out hb1)
    have M2 := hid (blk_below M1.out hb1)
    clear hb1
    go_wp2_with fail
    refine (CM.out _ HB1.out).mono ?_
    rintro e w2 ⟨rfl, hb2⟩
    have HB2 := hid (bb HB1.out hb2)
    obtain ⟨⟨y0, y1⟩, f0, f1⟩ := box2e (blk_below M2.out hb2)
    clear hb2
    go_wp2_with fail
    refine bodyPost_ret (v := .agg #[.string M, .string L]) (by simp [results, Tryz.results123, go_sem, y0, y1]) rfl ⟨by rw [HV.out], ?_⟩
    iterate 2 refine Below.setCell ?_ (Nat.le_succ _) _
    exact HB2.out

/-- What the closure answers. -/
noncomputable def cmpA (ls : List At) (x y : At) : Int := cmpN (mnL ls x) (locS x.name) (mnL ls y) (locS y.name)

set_option maxRecDepth 4000 in
set_option maxHeartbeats 4000000 in
theorem cCmpA (x y : At) (F : FuncId) (C : Array Value) (ls : List At) (b : Nat) (w : World) (hA : Asks F C w ls) (hb : b < w.heap.size) (hc : w.cell? ⟨b, 0, none⟩ = some (.func (.func F) #[] C)) (hx : x.name.size ≤ 1048576) (hy : y.name.size ≤ 1048576) :
    Calls Tryz.prog 121 #[.agg #[.string x.name, .string x.value], .agg #[.string y.name, .string y.value], .pointer (some ⟨b, 0, none⟩)] w fun e w' => e = .returned (.int .i64 (cmpA ls x y)) ∧ Below w.heap.size w w' := by
  have HB := hid (((Below.refl w.heap.size w).alloc (Nat.le_refl _) (.cells #[.string x.name, .string x.value] 42)).alloc (by simp) (.cells #[.string y.name, .string y.value] 42))
  have M0 := hid (blk_alloc (heap_alloc_new w (.cells #[.string x.name, .string x.value] 42)) (.cells #[.string y.name, .string y.value] 42))
  have M1 := hid (heap_two w (.cells #[.string x.name, .string x.value] 42) (.cells #[.string y.name, .string y.value] 42))
  have HG := hid (HB.out.cell (p := ⟨b, 0, none⟩) hb |>.trans hc)
  obtain ⟨W, hW⟩ : ∃ W, (w.alloc (.cells #[.string x.name, .string x.value] 42)).alloc (.cells #[.string y.name, .string y.value] 42) = W := ⟨_, rfl⟩
  obtain ⟨g, hg⟩ : ∃ g, w.heap.size = g := ⟨_, rfl⟩
  have hWs : W.heap.size = g + 2 := by rw [← hW, ← hg]; simp
  rw [hW] at HB M0 M1 HG
  rw [hg] at M0 M1
  have CA := hid (fun p : BW W => cMeantAttr x F C ls p.w (hA.below (bb HB.out p.h)) hx)
  have CB := hid (fun p : BW W => cMeantAttr y F C ls p.w (hA.below (bb HB.out p.h)) hy)
  have CC := hid (fun p : BW W => cCompareNames (mnL ls x) (locS x.name) (mnL ls y) (locS y.name) p.w)
  have k0 : ∀ p : BW W, p.w.cell? ⟨g, 0, none⟩ = some (.string x.name) := fun p => (box2e (blk_below M0.out p.h)).1.1
  have k1 : ∀ p : BW W, p.w.cell? ⟨g, 1, none⟩ = some (.string x.value) := fun p => (box2e (blk_below M0.out p.h)).1.2
  have k2 : ∀ p : BW W, p.w.cell? ⟨g + 1, 0, none⟩ = some (.string y.name) := fun p => (box2e (blk_below M1.out p.h)).1.1
  have k3 : ∀ p : BW W, p.w.cell? ⟨g + 1, 1, none⟩ = some (.string y.value) := fun p => (box2e (blk_below M1.out p.h)).1.2
  have k4 : ∀ p : BW W, p.w.cell? ⟨b, 0, none⟩ = some (.func (.func F) #[] C) := fun p => (p.h.cell (p := ⟨b, 0, none⟩) (by show b < W.heap.size; omega)).trans HG.out
  have HNB := hid (bw_any W)
  have HW := hid hW
  have Hg := hid hg
  unfold cmpA
  generalize cmpN (mnL ls x) (locS x.name) (mnL ls y) (locS y.name) = V at *
  generalize mnL ls x = m1 at *
  generalize mnL ls y = m2 at *
  generalize locS x.name = l1 at *
  generalize locS y.name = l2 at *
  clear hA hc hx hy HG M0 M1 hWs hb hW hg
  go_enter Tryz.func121, Tryz.ntmps121
  go_wp2_with fail
  simp only [HW.out, Hg.out]
  haveI := HNB.out
  refine wp_region_below (by kernel_rfl) (by kernel_rfl) (Below.refl W.heap.size W) ?_
  repeat (go_big_quiet_step ((first | (go_at_call 123; first | (with_reducible exact calls_bw _ (CA.out _)) | (with_reducible exact calls_bw _ (CB.out _))) | (go_at_call 122; exact calls_bw _ (CC.out _)))))
  refine wpQuiet_nil ?_
  intro _ hw'
  obtain ⟨⟨wq, hwq⟩, hw''⟩ := hw'
  subst hw''
  have HWQ := hid (bb HB.out hwq)
  clear hwq k0 k1 k2 k3 k4
  go_wp2_with fail
  go_ret
  exact ⟨rfl, HWQ.out⟩

end Go.Proofs.YtmghipjpgoghlaaGreat
