/- Contract of the specification's l14Add. Contracts of the specification's l10Branch and Branch. Contracts of the specification's l14Tree, ClaimTree. -/
import Derived.Test.YtcjeodgfpnecgaaGreatDoorM13
import Derived.Test.YtcjeodgfpnecgaaGreatDoorM15
import Derived.Test.YtcjeodgfpnecgaaGreatDoorM7
import Derived.Test.YtcjeodgfpnecgaaGreatDoorM12
import Derived.Test.YtcjeodgfpnecgaaGreatDoorM20
import Derived.Deep.RegionHeld3
namespace Go.Proofs.YtcjeodgfpnecgaaGreatDoor
open Go.RowKit
set_option linter.unusedVariables false
set_option linter.unusedSimpArgs false

theorem own_nil (w : World) (B : Nat) (a : Option Addr) : OwnAts w B a [] := fun h => absurd h (Nat.lt_irrefl 0)

set_option maxRecDepth 8000 in
set_option maxHeartbeats 4000000 in
theorem cAddS (w0 wr w : World) (v : Value) (L : List Tk) (name : ByteArray) (x : Say) (a1 : Option Addr) (c1 : Nat) (hrow : RowOf w0 wr v L) (hB : Below wr.heap.size wr w) (hA : OwnAts w wr.heap.size a1 x.attrs) (hn : L.length ≤ 100000) :
    Calls Tryz.prog 56 #[v, .string name, .slice a1 x.attrs.length c1, .string x.text] w fun e w' => ∃ v', e = .returned v' ∧ RowOf w0 w' v' (addN L name x) := by
  have HRW := hid hrow
  have HB := hid hB
  have HBA := hid (hB.alloc hB.size (.cells #[.int .i64 0, .string name, .slice a1 x.attrs.length c1, .string nE] 44))
  have HH := hid (heap_alloc_new w (.cells #[.int .i64 0, .string name, .slice a1 x.attrs.length c1, .string nE] 44))
  have HA := hid (show OwnAts (w.alloc (.cells #[.int .i64 0, .string name, .slice a1 x.attrs.length c1, .string nE] 44)) wr.heap.size a1 x.attrs from fun hl => by
    obtain ⟨g, o, cu, e1, e2, e3, e4⟩ := hA hl
    exact ⟨g, o, cu, e1, e2, blk_alloc e3 _, e4⟩)
  have HN := hid hn
  have E := empty_is x.text
  obtain ⟨nA, hnA⟩ : ∃ nA, x.attrs.length = nA := ⟨_, rfl⟩
  have HNA := hid hnA
  rw [hnA] at HBA HH HA ⊢
  obtain ⟨W, hW⟩ : ∃ W, w.alloc (.cells #[.int .i64 0, .string name, .slice a1 nA c1, .string nE] 44) = W := ⟨_, rfl⟩
  rw [hW] at HBA HH HA
  obtain ⟨sz, hsz⟩ : ∃ sz, w.heap.size = sz := ⟨_, rfl⟩
  rw [hsz] at HH
  clear hrow hB hA hn hnA
  unfold nE at hW
  go_enter Tryz.func56, Tryz.ntmps56
  go_wp2_with (at_builtin; refine wpL_row w0 wr W rfl _ _ rfl v L rfl HRW.out HBA.out ⟨0, name, x.attrs, nE⟩ a1 c1 sz nA rfl HNA.out HH.out HA.out (by have := HN.out; omega) ?_)
  intro v1 w1 hr1
  obtain ⟨a8, c8, rfl, _⟩ := hr1.tk
  have hl1 : (L ++ [(⟨0, name, x.attrs, nE⟩ : Tk)]).length = L.length + 1 := by simp
  rw [hl1] at hr1 ⊢
  have HR1 := hid hr1
  clear hr1 hW hsz hl1
  by_cases ht : x.text.size = 0
  · rw [decide_eq_true ht] at E
    have HE := hid (show addN L name x = L ++ [⟨0, name, x.attrs, nE⟩] from if_pos ht)
    clear ht
    go_wp2_with fail
    go_ret
    exact ⟨_, rfl, by rw [HE.out]; exact HR1.out⟩
  · rw [decide_eq_false ht] at E
    have HE := hid (show addN L name x = L ++ [⟨0, name, x.attrs, nE⟩] ++ [⟨(L.length : Int), nE, [], x.text⟩] from if_neg ht)
    clear ht
    have HBX := hid ((Below.refl w1.heap.size w1).alloc (Nat.le_refl _) (.cells #[.int .i64 (L.length : Int), .string nE, .slice none 0 0, .string x.text] 44))
    have HH1 := hid (heap_alloc_new w1 (.cells #[.int .i64 (L.length : Int), .string nE, .slice none 0 0, .string x.text] 44))
    obtain ⟨W1, hW1⟩ : ∃ W, w1.alloc (.cells #[.int .i64 (L.length : Int), .string nE, .slice none 0 0, .string x.text] 44) = W := ⟨_, rfl⟩
    rw [hW1] at HBX HH1
    obtain ⟨s1, hs1⟩ : ∃ sz, w1.heap.size = sz := ⟨_, rfl⟩
    rw [hs1] at HH1
    unfold nE at hW1
    have hn2 : ((L.length : Int) + 1) - 1 = (L.length : Int) := by omega
    have hn3 := HN.out
    obtain ⟨n, hLn⟩ : ∃ n, L.length = n := ⟨_, rfl⟩
    have HLn := hid hLn
    have HLn2 := hid (show (L ++ [(⟨0, name, x.attrs, nE⟩ : Tk)]).length ≤ 1048576 by simp; omega)
    rw [hLn] at hn2 hn3 hW1 HH1 HR1 HE ⊢
    clear hLn
    go_wp2_with (at_builtin; refine wpL_row w0 w1 W1 rfl _ _ rfl (.slice a8 (n + 1) c8) (L ++ [⟨0, name, x.attrs, nE⟩]) rfl HR1.out HBX.out ⟨(n : Int), nE, [], x.text⟩ none 0 s1 0 rfl rfl HH1.out (own_nil _ _ _) HLn2.out ?_)
    intro v2 w2 hr2
    have HR2 := hid hr2
    clear hr2
    go_wp2_with fail
    go_ret
    exact ⟨v2, rfl, by rw [HE.out, List.append_assoc]; exact HR2.out⟩

end Go.Proofs.YtcjeodgfpnecgaaGreatDoor

namespace Go.Proofs.YtcjeodgfpnecgaaGreatDoor
open Go.RowKit
set_option linter.unusedVariables false
set_option linter.unusedSimpArgs false

/-- A node in a box, its attrs made anew. -/
structure Bx (wr W : World) (t : Tk) (nA : Nat) (a1 : Option Addr) (c1 : Nat) : Prop where
  bel : Below wr.heap.size wr W
  box : W.heap[wr.heap.size]? = some (.cells #[.int .i64 t.kind, .string t.name, .slice a1 nA c1, .string t.text] 44 (0, 0))
  own : OwnAts W (wr.heap.size + 1) a1 t.attrs

theorem Bx.made {wr w2 : World} {t : Tk} {nA c1 ca : Nat} {aa a1 : Option Addr} (hb : Below (wr.heap.size + 1) (wr.alloc (.cells #[.int .i64 t.kind, .string t.name, .slice aa nA ca, .string t.text] 44)) w2) (hA : OwnAts w2 (wr.heap.size + 1) a1 t.attrs) :
    Bx wr (w2.setCell ⟨wr.heap.size, 2, none⟩ (.slice a1 nA c1)) t nA a1 c1 := by
  have h0 := (Below.refl wr.heap.size wr).alloc (Nat.le_refl _) (.cells #[.int .i64 t.kind, .string t.name, .slice aa nA ca, .string t.text] 44)
  have m0 := heap_alloc_new wr (.cells #[.int .i64 t.kind, .string t.name, .slice aa nA ca, .string t.text] 44)
  refine ⟨(h0.trans (hb.mono (Nat.le_succ _))).setCell (p := ⟨wr.heap.size, 2, none⟩) (Nat.le_refl _) _, ?_, own_setG hA (p := ⟨wr.heap.size, 2, none⟩) (Nat.lt_succ_self _) _⟩
  exact box_set ((hb.block _ (Nat.lt_succ_self _)).trans m0) 2 (.slice a1 nA c1)

theorem Bx.kind {wr W : World} {t : Tk} {nA c1 : Nat} {a1 : Option Addr} (h : Bx wr W t nA a1 c1) (k : Int) : Bx wr (W.setCell ⟨wr.heap.size, 0, none⟩ (.int .i64 k)) (shK k t) nA a1 c1 :=
  ⟨h.bel.setCell (p := ⟨wr.heap.size, 0, none⟩) (Nat.le_refl _) _, box_set h.box 0 (.int .i64 k), own_setG h.own (p := ⟨wr.heap.size, 0, none⟩) (Nat.lt_succ_self _) _⟩

theorem wpL_bx (w wr W0 : World) {ops : Array Oper} {rest : List Oper} {o : Oper} {a : Act} {Q : Exit → Act → World → Prop} (hgd : o.guard = none) (s x : Operand)
    (ho : o.op = .call { callee := .builtin .append, args := #[s, x], argTypes := #[26, 26] }) (v : Value) (L : List Tk) (hs : a.eval s = v) (hrow : RowOf w wr v L)
    (t : Tk) (a1 : Option Addr) (c1 nA : Nat) (hx : a.eval x = .slice (some ⟨W0.heap.size, 0, none⟩) 1 1) (hnA : t.attrs.length = nA) (hbx : Bx wr W0 t nA a1 c1) (hn : L.length ≤ 1048576)
    (h : ∀ v' w', RowOf w w' v' (L ++ [t]) → wpList Tryz.prog ops Q rest (a.put o.dst v') w') : wpList Tryz.prog ops Q (o :: rest) a (W0.alloc (.cells #[.int .i64 t.kind, .string t.name, .slice a1 nA c1, .string t.text] 44)) :=
  wpL_row w wr _ hgd s x ho v L hs hrow (hbx.bel.alloc hbx.bel.size _) t a1 c1 W0.heap.size nA hx hnA (heap_alloc_new _ _) (own_lift (hbx.own.below ((Below.refl _ _).alloc (Nat.le_refl _) _)) (Nat.le_succ _)) hn h

theorem seg_of {ts : List Tk} {i : Nat} (h : i < ts.length) : ts[i]? = some ts[i] := List.getElem?_eq_getElem h

/-- A tree that is answered, in memory of its own, and whether it is what was asked for. -/
def TreeAns (w : World) (R : List Tk) (b : Bool) (e : Ending) (w' : World) : Prop := ∃ v, e = .returned (.tuple #[v, .bool b]) ∧ RowOf w w' v R

theorem TreeAns.none {w wr : World} (hb : Below w.heap.size w wr) : TreeAns w [] false (.returned (.tuple #[.slice (some ⟨wr.heap.size, 0, none⟩) 0 0, .bool false])) (wr.alloc (.cells #[] 44)) :=
  ⟨_, rfl, RowOf.start (hb.alloc hb.size _) hb.size (heap_alloc_new _ _)⟩

noncomputable def branchI (ts : List Tk) (x : Int) : List Tk := if elemB ts x then branchL ts x.toNat else []

theorem RowOf.later {w w1 w' : World} {v : Value} {L : List Tk} (hb : Below w.heap.size w w1) (h : RowOf w1 w' v L) : RowOf w w' v L := by
  obtain ⟨es, a, c, e1, e2, e3⟩ := h.row
  exact ⟨⟨es, a, c, e1, e2.mono hb.size, e3⟩, bb hb h.bel⟩

end Go.Proofs.YtcjeodgfpnecgaaGreatDoor

namespace Go.Proofs.YtcjeodgfpnecgaaGreatDoor
open Go.RowKit
set_option linter.unusedVariables false
set_option linter.unusedSimpArgs false

theorem cells_one (x y : ByteArray) : AtCells #[.string x, .string y] 0 [⟨x, y⟩] := fun m h => by
  have : m = 0 := by simp at h; omega
  subst this
  exact ⟨rfl, rfl⟩

theorem cells_two (x y u v : ByteArray) : AtCells #[.string x, .string y, .string u, .string v] 0 [⟨x, y⟩, ⟨u, v⟩] := fun m h => by
  have h2 : m < 2 := by simpa using h
  match m, h2 with
  | 0, _ => exact ⟨rfl, rfl⟩
  | 1, _ => exact ⟨rfl, rfl⟩

theorem own_of {w : World} {B g : Nat} {cu : Array Value} {l : List At} (hB : B ≤ g) (hh : w.heap[g]? = some (.cells cu 58 (0, 0))) (hc : AtCells cu 0 l) : OwnAts w B (some ⟨g, 0, none⟩) l := fun _ => ⟨g, 0, cu, rfl, hB, hh, hc⟩

/-- The first node of a claim's tree, alone. -/
theorem row_head {w W : World} {c : Cm} {g g2 : Nat} (hb : Below w.heap.size w W) (hg : w.heap.size ≤ g) (hg2 : w.heap.size ≤ g2) (hne : ¬ g2 = g) (h1 : W.heap[g]? = some (.cells #[.string nsCS, .string claimS, .string idS, .string c.id] 58 (0, 0)))
    (h2 : W.heap[g2]? = some (.cells #[.int .i64 (-1), .string cClaimS, .slice (some ⟨g, 0, none⟩) 2 2, .string nE] 44 (0, 0))) : RowOf w W (.slice (some ⟨g2, 0, none⟩) 1 1) [headT c] :=
  ⟨⟨[⟨headT c, some ⟨g, 0, none⟩, 2⟩], _, 1, rfl, Nd.Row.one (e := ⟨headT c, some ⟨g, 0, none⟩, 2⟩) hg2 h2 (own_of hg h1 (cells_two _ _ _ _)) (fun g' o h e => by cases e; exact fun e2 => hne e2.symm), rfl⟩, hb⟩

/-- A time as it is written. -/
noncomputable def qTx (x : Int) : ByteArray := ⟨(textOf x).toArray⟩

set_option maxRecDepth 16000 in
set_option maxHeartbeats 8000000 in
theorem cTreeS (c : Cm) (a : Option Addr) (cap : Nat) (w : World) (hR : AtRow w a c.facts) (hz : CmSz 1048576 c) (h4 : c.facts.length ≤ 4) (n1 : ¬ c.iss.size = 0) (n2 : ¬ c.sub.size = 0) (n3 : ¬ c.whom.size = 0) :
    Calls Tryz.prog 35 #[cmV c a cap] w fun e w' => ∃ v, e = .returned v ∧ RowOf w w' v (treeTo c (qTx c.frm) (qTx c.til) 6) := by
  have HR := hid hR
  have HX := hid (ClBox.new w c (.slice a c.facts.length cap) 31)
  have HB0 := hid ((Below.refl w.heap.size w).alloc (Nat.le_refl _) (.cells #[.string c.id, .string c.iss, .string c.sub, .int .i64 c.frm, .int .i64 c.til, .string c.whom, .string c.ans, .slice a c.facts.length cap] 31))
  have CT1 := hid (fun wx => t_cTextS c.frm wx)
  have CT2 := hid (fun wx => t_cTextS c.til wx)
  have HL := hid (fun k => treeTo_len c (qTx c.frm) (qTx c.til) (by omega) k)
  obtain ⟨T, hT⟩ : ∃ T : Nat → List Tk, treeTo c (qTx c.frm) (qTx c.til) = T := ⟨_, rfl⟩
  have HT0 := hid (show T 0 = [headT c] by rw [← hT]; rfl)
  have HT1 := hid (show T 1 = addN (T 0) (kidN 0) ⟨[], c.iss⟩ by rw [← hT]; show addAll _ _ (txtL c.iss) = _; rw [txtL_one n1]; rfl)
  have HT2 := hid (show T 2 = addN (T 1) (kidN 1) ⟨[], c.sub⟩ by rw [← hT]; show addAll _ _ (txtL c.sub) = _; rw [txtL_one n2]; rfl)
  have HT3 := hid (show T 3 = addN (T 2) (kidN 2) ⟨[⟨fromS, qTx c.frm⟩, ⟨toS, qTx c.til⟩], nE⟩ by rw [← hT]; rfl)
  have HT4 := hid (show T 4 = addN (T 3) (kidN 3) ⟨[], c.whom⟩ by rw [← hT]; show addAll _ _ (txtL c.whom) = _; rw [txtL_one n3]; rfl)
  have HT5 := hid (show T 5 = addAll (T 4) (kidN 4) (txtL c.ans) by rw [← hT]; rfl)
  have HT6 := hid (show T 6 = addAll (T 5) (kidN 5) (factL c.facts) by rw [← hT]; rfl)
  rw [hT] at HL ⊢
  unfold cmV
  obtain ⟨w0, hw0⟩ : ∃ w0, w.alloc (.cells #[.string c.id, .string c.iss, .string c.sub, .int .i64 c.frm, .int .i64 c.til, .string c.whom, .string c.ans, .slice a c.facts.length cap] 31) = w0 := ⟨_, rfl⟩
  rw [hw0] at HX HB0
  have CA := hid (fun (wr wx : World) (v : Value) (L : List Tk) (name : ByteArray) (x : Say) (a1 : Option Addr) (c1 : Nat) (hrow : RowOf w0 wr v L) (hB : Below wr.heap.size wr wx) (hA : OwnAts wx wr.heap.size a1 x.attrs) (hn : L.length ≤ 100000) => cAddS w0 wr wx v L name x a1 c1 hrow hB hA hn)
  obtain ⟨B, hB⟩ : ∃ B, w.heap.size = B := ⟨_, rfl⟩
  rw [hB] at HX
  change Hid (∀ wx, Calls Tryz.prog 57 #[.int .i64 c.frm] wx fun e w' => e = .returned (.string (qTx c.frm)) ∧ Below wx.heap.size wx w') at CT1
  change Hid (∀ wx, Calls Tryz.prog 57 #[.int .i64 c.til] wx fun e w' => e = .returned (.string (qTx c.til)) ∧ Below wx.heap.size wx w') at CT2
  generalize qTx c.frm = U at *
  generalize qTx c.til = V at *
  clear hT n1 n2 n3 hR hz
  have f0 := HX.out.c0
  have HBa := hid ((Below.refl w0.heap.size w0).alloc (Nat.le_refl _) (.cells #[.string nsCS, .string claimS, .string idS, .string c.id] 58))
  have Ha1 := hid (heap_alloc_new w0 (.cells #[.string nsCS, .string claimS, .string idS, .string c.id] 58))
  obtain ⟨wa, hwa⟩ : ∃ wa, w0.alloc (.cells #[.string nsCS, .string claimS, .string idS, .string c.id] 58) = wa := ⟨_, rfl⟩
  rw [hwa] at HBa Ha1
  obtain ⟨ga, hga⟩ : ∃ g, w0.heap.size = g := ⟨_, rfl⟩
  have hga1 : wa.heap.size = ga + 1 := by rw [← hwa, World.size_alloc, hga]
  rw [hga] at Ha1
  have HBb := hid ((Below.refl wa.heap.size wa).alloc (Nat.le_refl _) (.cells #[.int .i64 (-1), .string cClaimS, .slice (some ⟨ga, 0, none⟩) 2 2, .string nE] 44))
  have Hb1 := hid (heap_alloc_new wa (.cells #[.int .i64 (-1), .string cClaimS, .slice (some ⟨ga, 0, none⟩) 2 2, .string nE] 44))
  obtain ⟨w1, hw1⟩ : ∃ wa2, wa.alloc (.cells #[.int .i64 (-1), .string cClaimS, .slice (some ⟨ga, 0, none⟩) 2 2, .string nE] 44) = wa2 := ⟨_, rfl⟩
  rw [hw1, hga1] at Hb1
  rw [hw1] at HBb
  have HB1 := hid (bb HBa.out HBb.out)
  have HX1 := hid ((HX.out.below HBa.out).below HBb.out)
  have HR1 := hid (show RowOf w0 w1 (.slice (some ⟨ga + 1, 0, none⟩) 1 1) (T 0) by
    rw [HT0.out]
    exact row_head HB1.out (by omega) (by omega) (by omega) (blk_below Ha1.out HBb.out) Hb1.out)
  have f1 := HX1.out.c1
  unfold nsCS claimS idS at hwa
  unfold cClaimS nE at hw1
  have HRX := hid (HR.out.below HB0.out)
  clear HBa HBb Ha1 Hb1 HR HX1 HB1
  go_enter Tryz.func35, Tryz.ntmps35
  go_wp2_with fail
  have CA1 := hid (CA.out w1 w1 _ (T 0) (kidN 0) ⟨[], c.iss⟩ none 0 HR1.out (Below.refl _ _) (own_nil _ _ _) (by have := HL.out 0; omega))
  refine CA1.out.mono ?_
  rintro e w2 ⟨v2, rfl, hr2⟩
  rw [← HT1.out] at hr2
  have HR2 := hid hr2
  have HX2 := hid (HX.out.below hr2.bel)
  clear hr2 CA1 hw1 hwa f0 f1 HR1 hga hga1
  have f2 := HX2.out.c2
  go_wp2_with fail
  have CA2 := hid (CA.out w2 w2 v2 (T 1) (kidN 1) ⟨[], c.sub⟩ none 0 HR2.out (Below.refl _ _) (own_nil _ _ _) (by have := HL.out 1; omega))
  refine CA2.out.mono ?_
  rintro e w3 ⟨v3, rfl, hr3⟩
  rw [← HT2.out] at hr3
  have HR3 := hid hr3
  have HX3 := hid (HX.out.below hr3.bel)
  clear hr3 CA2 f2 HR2 HX2
  go_upto_region 4 with fail
  go_cut [3] from 20 to 30 (fun v wv => Hid (RowOf w0 wv v (T 3)))
  case first =>
    have HBc := hid ((Below.refl w3.heap.size w3).drew)
    have HL2 := hid (show (T 2).length ≤ 100000 by have := HL.out 2; omega)
    have HSX := hid (show ∀ W', Below w3.heap.size w3 W' → W'.cell? ⟨B, 3, none⟩ = some (.int .i64 c.frm) ∧ W'.cell? ⟨B, 4, none⟩ = some (.int .i64 c.til) from fun W' hb => ⟨(HX3.out.below hb).c3, (HX3.out.below hb).c4⟩)
    go_region_held3 (fun w' => w'.cell? ⟨B, 3, none⟩ = some (.int .i64 c.frm) ∧ w'.cell? ⟨B, 4, none⟩ = some (.int .i64 c.til)) (first | exact HS6.out | exact HSX.out _ HBc.out | exact HSX.out _ (HBc.out.alloc HBc.out.size _))
      (first
        | (go_at_call 57; (with_reducible refine (CT1.out _).mono ?_); rintro e w4 ⟨rfl, hb4⟩; replace HBc := hid (bb HBc.out hb4); clear hb4)
        | (go_at_call 57; (with_reducible refine (CT2.out _).mono ?_); rintro e w5 ⟨rfl, hb5⟩; replace HBc := hid (bb HBc.out hb5); clear hb5)
        | (go_at_call 56; refine (CA.out w3 _ v3 (T 2) (kidN 2) ⟨[⟨fromS, U⟩, ⟨toS, V⟩], nE⟩ (some ⟨_, 0, none⟩) 2 HR3.out (HBc.out.alloc HBc.out.size _) (own_of HBc.out.size (heap_alloc_new _ _) (cells_two _ _ _ _)) HL2.out).mono ?_; rintro e w6 ⟨v6, rfl, hr6⟩; have HR6 := hid (show RowOf w0 w6 v6 (T 3) by rw [HT3.out]; exact hr6); have HS6 := hid (And.intro (HX.out.below hr6.bel).c3 (HX.out.below hr6.bel).c4); clear hr6))
    all_goals
      go_wp2_with fail
      go_meet
      exact HR6.out
  case rest =>
    have HR4 := hcut
    have HX4 := hid (HX.out.below HR4.out.bel)
    clear HX3 HR3 hcut CT1 CT2 HT3
    have f5 := HX4.out.c5
    have CA4 := hid (CA.out wc wc u3 (T 3) (kidN 3) ⟨[], c.whom⟩ none 0 HR4.out (Below.refl _ _) (own_nil _ _ _) (by have := HL.out 3; omega))
    go_wp2_with fail
    refine CA4.out.mono ?_
    rintro e w5 ⟨v5, rfl, hr5⟩
    rw [← HT4.out] at hr5
    have HR5 := hid hr5
    have HX5 := hid (HX.out.below hr5.bel)
    clear hr5 CA4 f5 HR4 HX4
    have E := empty_is c.ans
    have f6 := HX5.out.c6
    obtain ⟨P, hP⟩ : ∃ P, decide (c.ans.size = 0) = P := ⟨_, rfl⟩
    rw [hP] at E
    have HE : Hid (T 5 = if P then T 4 else addN (T 4) (kidN 4) ⟨[], c.ans⟩) := by
      cases P with
      | true => rw [HT5.out, show txtL c.ans = [] from if_pos (of_decide_eq_true hP)]; rfl
      | false => rw [HT5.out, txtL_one (of_decide_eq_false hP)]; rfl
    clear hP
    go_upto_if 37 with fail
    go_cut [3] from 38 to 41 (fun v wv => Hid (RowOf w0 wv v (T 5)))
    case first =>
      cases P with
      | true =>
        go_wp2_with fail
        go_meet
        have h := HR5.out
        rw [show T 4 = T 5 from HE.out.symm] at h
        exact h
      | false =>
        have CA5 := hid (CA.out w5 w5 v5 (T 4) (kidN 4) ⟨[], c.ans⟩ none 0 HR5.out (Below.refl _ _) (own_nil _ _ _) (by have := HL.out 4; omega))
        go_wp2_with fail
        refine CA5.out.mono ?_
        rintro e w6 ⟨v6, rfl, hr6⟩
        rw [show addN (T 4) (kidN 4) ⟨[], c.ans⟩ = T 5 from HE.out.symm] at hr6
        have HR6 := hid hr6
        clear hr6
        go_wp2_with fail
        go_meet
        exact HR6.out
    case rest =>
    have HR6 := hcut
    clear HX5 HR5 hcut f6 E HE
    obtain ⟨wo, hwo⟩ : ∃ W, W = wc := ⟨_, rfl⟩
    subst hwo
    obtain ⟨n, hn⟩ : ∃ n, c.facts.length = n := ⟨_, rfl⟩
    have HN := hid hn
    have HL5 := hid (HL.out 5)
    rw [hn] at HX h4
    clear hn
    go_wp2_with fail
    go_loopw [3, 4] (fun v x wr => ∃ i : Nat, x = .int .i64 (i : Int) ∧ i ≤ n ∧ Hid (RowOf w0 wr v (addAll (T 5) (kidN 5) ((factL c.facts).take i)))) (fun _ x _ => n - (intOf x).toNat)
    case atStart => exact ⟨0, rfl, Nat.zero_le _, by rw [List.take_zero]; exact HR6.out⟩
    case round =>
      clear HR6
      obtain ⟨i, rfl, hin, HW⟩ := hrel
      have HXr := hid (HX.out.below HW.out.bel)
      by_cases hlt : i < n
      · have his : i < c.facts.length := by rw [HN.out]; exact hlt
        have hit : (i : Int) < (n : Int) := by omega
        obtain ⟨b, o, rfl, hb, k1, k2⟩ := HRX.out i his
        have HNX := hid (show addAll (T 5) (kidN 5) ((factL c.facts).take (i + 1)) = addN (addAll (T 5) (kidN 5) ((factL c.facts).take i)) (kidN 5) ⟨[⟨nameS, c.facts[i].name⟩], c.facts[i].value⟩ by rw [factL_take his, addAll_snoc])
        have hlen := (addAll_len (T 5) (kidN 5) ((factL c.facts).take i)).2
        have hlen2 : (addAll (T 5) (kidN 5) ((factL c.facts).take i)).length ≤ 100000 := by
          rw [List.length_take] at hlen
          have := HL5.out
          omega
        have HLE := hid hlen2
        generalize c.facts[i].name = nm at *
        generalize c.facts[i].value = vl at *
        generalize addAll (T 5) (kidN 5) ((factL c.facts).take i) = L at *
        have HBc := hid ((Below.refl wr.heap.size wr).drew)
        have HSX := hid (show ∀ W', Below w0.heap.size w0 W' → W'.cell? ⟨B, 7, none⟩ = some (.slice (some ⟨b, o, none⟩) n cap) ∧ W'.cell? ⟨b, o + i * 2, none⟩ = some (.string nm) ∧ W'.cell? ⟨b, o + i * 2 + 1, none⟩ = some (.string vl) from fun W' h => ⟨(HX.out.below h).c7, (h.cell (p := ⟨b, o + i * 2, none⟩) hb).trans k1, (h.cell (p := ⟨b, o + i * 2 + 1, none⟩) hb).trans k2⟩)
        have f7 := HXr.out.c7
        clear hlen hlen2 his k1 k2
        go_wp2_with fail
        go_region_held3 (fun w' => w'.cell? ⟨B, 7, none⟩ = some (.slice (some ⟨b, o, none⟩) n cap) ∧ w'.cell? ⟨b, o + i * 2, none⟩ = some (.string nm) ∧ w'.cell? ⟨b, o + i * 2 + 1, none⟩ = some (.string vl)) (first | exact HS6.out | exact HSX.out _ (bb HW.out.bel HBc.out) | exact HSX.out _ (bb HW.out.bel (HBc.out.alloc HBc.out.size _)))
          (first
            | (go_at_call 56; refine (CA.out wr _ u3 L (kidN 5) ⟨[⟨nameS, nm⟩], vl⟩ (some ⟨_, 0, none⟩) 1 HW.out (HBc.out.alloc HBc.out.size _) (own_of HBc.out.size (heap_alloc_new _ _) (cells_one _ _)) HLE.out).mono ?_; rintro e w6 ⟨v6, rfl, hr6⟩; have HR6 := hid (HNX.out ▸ hr6); have HS6 := hid (HSX.out _ hr6.bel); clear hr6))
        go_wp2_with fail
        go_roundw
        case rel => exact ⟨i + 1, by go_num, by omega, HR6.out⟩
        case measure => simp [intOf]; omega
      · have hie : i = n := by omega
        subst hie
        have f7 := HXr.out.c7
        have HFI := hid (show RowOf w0 wr u3 (T 6) by
          rw [HT6.out]
          have h := HW.out
          rw [List.take_of_length_le (by rw [factL_len, HN.out]; exact Nat.le_refl _)] at h
          exact h)
        go_wp2_with fail
        go_ret
        exact ⟨_, rfl, RowOf.later HB0.out HFI.out⟩

theorem claimB_parts {c : Cm} (h : claimB c = true) : (¬ c.iss.size = 0) ∧ (¬ c.sub.size = 0) ∧ (¬ c.whom.size = 0) ∧ c.facts.length ≤ 4 := by
  unfold claimB at h
  simp only [Bool.and_eq_true] at h
  obtain ⟨⟨⟨⟨⟨⟨⟨_, h1⟩, h2⟩, h3⟩, _⟩, _⟩, _⟩, h4⟩ := h
  have f : ∀ {s : ByteArray}, wordB s = true → ¬ s.size = 0 := fun {s} hs e => by
    unfold wordB at hs
    rw [decide_eq_true e] at hs
    cases hs
  exact ⟨f h1, f h2, f h3, (factsB_p h4).1⟩

end Go.Proofs.YtcjeodgfpnecgaaGreatDoor
