/- Contracts of the specification's l14Tree, ClaimTree. What a claim says, kind by kind: contracts of the program's functions in the table of kids. A claim that is handed in: contracts of the laws' szClaim, toClaim, eqClaim, and how its argument is opened. -/
import Derived.Test.YtknpgdglabibiaaGreatDoorM20
import Derived.Test.YtknpgdglabibiaaGreatDoorM16
import Derived.Test.YtknpgdglabibiaaGreatDoorM15
import Derived.Test.YtknpgdglabibiaaGreatDoorM2
import Derived.Deep.RegionHeld3
import Derived.ProofKit
import Derived.OpenShut
namespace Go.Proofs.YtknpgdglabibiaaGreatDoor
open Go.RowKit
set_option linter.unusedVariables false
set_option linter.unusedSimpArgs false

theorem cells_one (x y : ByteArray) : AtCells #[.string x, .string y] 0 [⟨x, y⟩] := fun m h => by
  have : m = 0 := by simp at h; omega
  subst this
  exact ⟨rfl, rfl⟩

theorem cells_two (x y u v : ByteArray) : AtCells #[.string x, .string y, .string u, .string v] 0 [⟨x, y⟩, ⟨u, v⟩] := fun m h => by
  have h2 : m < 2 := by simpa using h
  match m, h2 with
  | 0, _ => exact ⟨rfl, rfl⟩
  | 1, _ => exact ⟨rfl, rfl⟩

theorem own_of {w : World} {B g : Nat} {cu : Array Value} {l : List At} (hB : B ≤ g) (hh : w.heap[g]? = some (.cells cu 68 (0, 0))) (hc : AtCells cu 0 l) : OwnAts w B (some ⟨g, 0, none⟩) l := fun _ => ⟨g, 0, cu, rfl, hB, hh, hc⟩

/-- The first node of a claim's tree, alone. -/
theorem row_head {w W : World} {c : Cm} {g g2 : Nat} (hb : Below w.heap.size w W) (hg : w.heap.size ≤ g) (hg2 : w.heap.size ≤ g2) (hne : ¬ g2 = g) (h1 : W.heap[g]? = some (.cells #[.string nsCS, .string claimS, .string idS, .string c.id] 68 (0, 0)))
    (h2 : W.heap[g2]? = some (.cells #[.int .i64 (-1), .string cClaimS, .slice (some ⟨g, 0, none⟩) 2 2, .string nE] 42 (0, 0))) : RowOf w W (.slice (some ⟨g2, 0, none⟩) 1 1) [headT c] :=
  ⟨⟨[⟨headT c, some ⟨g, 0, none⟩, 2⟩], _, 1, rfl, Nd.Row.one (e := ⟨headT c, some ⟨g, 0, none⟩, 2⟩) hg2 h2 (own_of hg h1 (cells_two _ _ _ _)) (fun g' o h e => by cases e; exact fun e2 => hne e2.symm), rfl⟩, hb⟩

/-- A time as it is written. -/
noncomputable def qTx (x : Int) : ByteArray := ⟨(textOf x).toArray⟩

theorem claimB_parts {c : Cm} (h : claimB c = true) : (¬ c.iss.size = 0) ∧ (¬ c.sub.size = 0) ∧ (¬ c.whom.size = 0) ∧ c.facts.length ≤ 4 := by
  unfold claimB at h
  simp only [Bool.and_eq_true] at h
  obtain ⟨⟨⟨⟨⟨⟨⟨_, h1⟩, h2⟩, h3⟩, _⟩, _⟩, _⟩, h4⟩ := h
  have f : ∀ {s : ByteArray}, wordB s = true → ¬ s.size = 0 := fun {s} hs e => by
    unfold wordB at hs
    rw [decide_eq_true e] at hs
    cases hs
  exact ⟨f h1, f h2, f h3, (factsB_p h4).1⟩

end Go.Proofs.YtknpgdglabibiaaGreatDoor

namespace Go.Proofs.YtknpgdglabibiaaGreatDoor
open Go.RowKit
set_option linter.unusedVariables false
set_option linter.unusedSimpArgs false

/-- Sayings in a row that was made since. -/
def SayR (w : World) (B : Nat) (a : Option Addr) (l : List Say) : Prop := 0 < l.length → ∃ b cu, a = some ⟨b, 0, none⟩ ∧ B ≤ b ∧ w.heap[b]? = some (.cells cu 89 (0, 0)) ∧ ∀ j (h : j < l.length), ∃ aj cj, cu[j * 2]? = some (.slice aj l[j].attrs.length cj) ∧ cu[j * 2 + 1]? = some (.string l[j].text) ∧ OwnAts w B aj l[j].attrs

theorem SayR.nil (w : World) (B : Nat) (a : Option Addr) : SayR w B a [] := fun h => absurd h (Nat.lt_irrefl 0)

theorem SayR.one {w : World} {B g : Nat} {x : Say} {aj : Option Addr} {cj : Nat} (hB : B ≤ g) (hh : w.heap[g]? = some (.cells #[.slice aj x.attrs.length cj, .string x.text] 89 (0, 0))) (hA : OwnAts w B aj x.attrs) : SayR w B (some ⟨g, 0, none⟩) [x] := fun _ =>
  ⟨g, _, rfl, hB, hh, fun j h => by
    have : j = 0 := by simp at h; omega
    subst this
    exact ⟨aj, cj, rfl, rfl, hA⟩⟩

theorem q_heap2 (w : World) (A B : Obj) : ((w.alloc A).alloc B).heap[w.heap.size + 1]? = some B := by
  have h := heap_alloc_new (w.alloc A) B
  rw [World.size_alloc] at h
  exact h

/-- How a function of the table is called. -/
def Told (F : FuncId) (C : Array Value) (w : World) (c : Cm) (a : Option Addr) (cap : Nat) (l : List Say) : Prop :=
  (∀ v (wx : World), (callFunc F (#[v] ++ C)).run Tryz.prog wx = .ok (.enter F (#[v] ++ C)) wx) ∧
  ∀ (wx : World), Below w.heap.size w wx → Calls Tryz.prog F (#[cmV c a cap] ++ C) wx fun e w' => ∃ a' c', e = .returned (.slice a' l.length c') ∧ SayR w' wx.heap.size a' l ∧ Below wx.heap.size wx w'

set_option maxHeartbeats 1000000 in
theorem cField1 (p : Nat) (w : World) : Calls Tryz.prog 56 #[.pointer (some ⟨p, 0, none⟩)] w fun e w' => e = .returned (.pointer (some ⟨p, 1, none⟩)) ∧ w' = w := by
  go_enter Tryz.func56, Tryz.ntmps56
  go_wp2
  go_ret
  exact ⟨rfl, rfl⟩

set_option maxRecDepth 8000 in
set_option maxHeartbeats 4000000 in
theorem cTold1 (b : Nat) (T : TypeId) (c : Cm) (a : Option Addr) (cap : Nat) (w : World) (hb : w.heap[b]? = some (.cells #[.func (.func 56) #[] #[]] T (0, 0))) :
    Calls Tryz.prog 104 #[cmV c a cap, .pointer (some ⟨b, 0, none⟩)] w fun e w' => ∃ a' c', e = .returned (.slice a' (txtL c.iss).length c') ∧ SayR w' w.heap.size a' (txtL c.iss) ∧ Below w.heap.size w w' := by
  have HX := hid (ClBox.new w c (.slice a c.facts.length cap) 26)
  have HB0 := hid ((Below.refl w.heap.size w).alloc (Nat.le_refl _) (.cells #[.string c.id, .string c.iss, .string c.sub, .int .i64 c.frm, .int .i64 c.til, .string c.whom, .string c.ans, .slice a c.facts.length cap] 26))
  have E := empty_is c.iss
  have CF := hid (fun p wx => cField1 p wx)
  unfold cmV
  obtain ⟨w0, hw0⟩ : ∃ w0, w.alloc (.cells #[.string c.id, .string c.iss, .string c.sub, .int .i64 c.frm, .int .i64 c.til, .string c.whom, .string c.ans, .slice a c.facts.length cap] 26) = w0 := ⟨_, rfl⟩
  rw [hw0] at HX HB0
  have f0 : w0.cell? ⟨b, 0, none⟩ = some (.func (.func 56) #[] #[]) := by rw [Lib.cell_of_heap (blk_below hb HB0.out)]; rfl
  obtain ⟨B, hB⟩ : ∃ B, w.heap.size = B := ⟨_, rfl⟩
  rw [hB] at HX
  have f1 := HX.out.c1
  clear hb
  by_cases ht : c.iss.size = 0
  · rw [decide_eq_true ht] at E
    have HE := hid (show txtL c.iss = [] from if_pos ht)
    clear ht
    go_enter Tryz.func104, Tryz.ntmps104
    go_wp2_with fail
    refine (CF.out _ _).mono ?_
    rintro e w1 ⟨rfl, rfl⟩
    go_wp2_with fail
    go_ret
    exact ⟨none, 0, by rw [HE.out]; rfl, by rw [HE.out]; exact SayR.nil _ _ _, hB ▸ HB0.out⟩
  · rw [decide_eq_false ht] at E
    have HE := hid (txtL_one ht)
    clear ht
    go_enter Tryz.func104, Tryz.ntmps104
    go_wp2_with fail
    refine (CF.out _ _).mono ?_
    rintro e w1 ⟨rfl, rfl⟩
    go_wp2_with fail
    refine (CF.out _ _).mono ?_
    rintro e w1 ⟨rfl, rfl⟩
    go_wp2_with fail
    go_ret
    exact ⟨_, _, by rw [HE.out]; rfl, by rw [HE.out]; exact SayR.one (hB ▸ HB0.out.size) (heap_alloc_new _ _) (own_nil _ _ none), hB ▸ HB0.out.alloc HB0.out.size _⟩

set_option maxHeartbeats 1000000 in
theorem cField2 (p : Nat) (w : World) : Calls Tryz.prog 57 #[.pointer (some ⟨p, 0, none⟩)] w fun e w' => e = .returned (.pointer (some ⟨p, 2, none⟩)) ∧ w' = w := by
  go_enter Tryz.func57, Tryz.ntmps57
  go_wp2
  go_ret
  exact ⟨rfl, rfl⟩

set_option maxRecDepth 8000 in
set_option maxHeartbeats 4000000 in
theorem cTold2 (b : Nat) (T : TypeId) (c : Cm) (a : Option Addr) (cap : Nat) (w : World) (hb : w.heap[b]? = some (.cells #[.func (.func 57) #[] #[]] T (0, 0))) :
    Calls Tryz.prog 104 #[cmV c a cap, .pointer (some ⟨b, 0, none⟩)] w fun e w' => ∃ a' c', e = .returned (.slice a' (txtL c.sub).length c') ∧ SayR w' w.heap.size a' (txtL c.sub) ∧ Below w.heap.size w w' := by
  have HX := hid (ClBox.new w c (.slice a c.facts.length cap) 26)
  have HB0 := hid ((Below.refl w.heap.size w).alloc (Nat.le_refl _) (.cells #[.string c.id, .string c.iss, .string c.sub, .int .i64 c.frm, .int .i64 c.til, .string c.whom, .string c.ans, .slice a c.facts.length cap] 26))
  have E := empty_is c.sub
  have CF := hid (fun p wx => cField2 p wx)
  unfold cmV
  obtain ⟨w0, hw0⟩ : ∃ w0, w.alloc (.cells #[.string c.id, .string c.iss, .string c.sub, .int .i64 c.frm, .int .i64 c.til, .string c.whom, .string c.ans, .slice a c.facts.length cap] 26) = w0 := ⟨_, rfl⟩
  rw [hw0] at HX HB0
  have f0 : w0.cell? ⟨b, 0, none⟩ = some (.func (.func 57) #[] #[]) := by rw [Lib.cell_of_heap (blk_below hb HB0.out)]; rfl
  obtain ⟨B, hB⟩ : ∃ B, w.heap.size = B := ⟨_, rfl⟩
  rw [hB] at HX
  have f1 := HX.out.c2
  clear hb
  by_cases ht : c.sub.size = 0
  · rw [decide_eq_true ht] at E
    have HE := hid (show txtL c.sub = [] from if_pos ht)
    clear ht
    go_enter Tryz.func104, Tryz.ntmps104
    go_wp2_with fail
    refine (CF.out _ _).mono ?_
    rintro e w1 ⟨rfl, rfl⟩
    go_wp2_with fail
    go_ret
    exact ⟨none, 0, by rw [HE.out]; rfl, by rw [HE.out]; exact SayR.nil _ _ _, hB ▸ HB0.out⟩
  · rw [decide_eq_false ht] at E
    have HE := hid (txtL_one ht)
    clear ht
    go_enter Tryz.func104, Tryz.ntmps104
    go_wp2_with fail
    refine (CF.out _ _).mono ?_
    rintro e w1 ⟨rfl, rfl⟩
    go_wp2_with fail
    refine (CF.out _ _).mono ?_
    rintro e w1 ⟨rfl, rfl⟩
    go_wp2_with fail
    go_ret
    exact ⟨_, _, by rw [HE.out]; rfl, by rw [HE.out]; exact SayR.one (hB ▸ HB0.out.size) (heap_alloc_new _ _) (own_nil _ _ none), hB ▸ HB0.out.alloc HB0.out.size _⟩

set_option maxHeartbeats 1000000 in
theorem cField3 (p : Nat) (w : World) : Calls Tryz.prog 60 #[.pointer (some ⟨p, 0, none⟩)] w fun e w' => e = .returned (.pointer (some ⟨p, 5, none⟩)) ∧ w' = w := by
  go_enter Tryz.func60, Tryz.ntmps60
  go_wp2
  go_ret
  exact ⟨rfl, rfl⟩

set_option maxRecDepth 8000 in
set_option maxHeartbeats 4000000 in
theorem cTold3 (b : Nat) (T : TypeId) (c : Cm) (a : Option Addr) (cap : Nat) (w : World) (hb : w.heap[b]? = some (.cells #[.func (.func 60) #[] #[]] T (0, 0))) :
    Calls Tryz.prog 104 #[cmV c a cap, .pointer (some ⟨b, 0, none⟩)] w fun e w' => ∃ a' c', e = .returned (.slice a' (txtL c.whom).length c') ∧ SayR w' w.heap.size a' (txtL c.whom) ∧ Below w.heap.size w w' := by
  have HX := hid (ClBox.new w c (.slice a c.facts.length cap) 26)
  have HB0 := hid ((Below.refl w.heap.size w).alloc (Nat.le_refl _) (.cells #[.string c.id, .string c.iss, .string c.sub, .int .i64 c.frm, .int .i64 c.til, .string c.whom, .string c.ans, .slice a c.facts.length cap] 26))
  have E := empty_is c.whom
  have CF := hid (fun p wx => cField3 p wx)
  unfold cmV
  obtain ⟨w0, hw0⟩ : ∃ w0, w.alloc (.cells #[.string c.id, .string c.iss, .string c.sub, .int .i64 c.frm, .int .i64 c.til, .string c.whom, .string c.ans, .slice a c.facts.length cap] 26) = w0 := ⟨_, rfl⟩
  rw [hw0] at HX HB0
  have f0 : w0.cell? ⟨b, 0, none⟩ = some (.func (.func 60) #[] #[]) := by rw [Lib.cell_of_heap (blk_below hb HB0.out)]; rfl
  obtain ⟨B, hB⟩ : ∃ B, w.heap.size = B := ⟨_, rfl⟩
  rw [hB] at HX
  have f1 := HX.out.c5
  clear hb
  by_cases ht : c.whom.size = 0
  · rw [decide_eq_true ht] at E
    have HE := hid (show txtL c.whom = [] from if_pos ht)
    clear ht
    go_enter Tryz.func104, Tryz.ntmps104
    go_wp2_with fail
    refine (CF.out _ _).mono ?_
    rintro e w1 ⟨rfl, rfl⟩
    go_wp2_with fail
    go_ret
    exact ⟨none, 0, by rw [HE.out]; rfl, by rw [HE.out]; exact SayR.nil _ _ _, hB ▸ HB0.out⟩
  · rw [decide_eq_false ht] at E
    have HE := hid (txtL_one ht)
    clear ht
    go_enter Tryz.func104, Tryz.ntmps104
    go_wp2_with fail
    refine (CF.out _ _).mono ?_
    rintro e w1 ⟨rfl, rfl⟩
    go_wp2_with fail
    refine (CF.out _ _).mono ?_
    rintro e w1 ⟨rfl, rfl⟩
    go_wp2_with fail
    go_ret
    exact ⟨_, _, by rw [HE.out]; rfl, by rw [HE.out]; exact SayR.one (hB ▸ HB0.out.size) (heap_alloc_new _ _) (own_nil _ _ none), hB ▸ HB0.out.alloc HB0.out.size _⟩

set_option maxHeartbeats 1000000 in
theorem cField4 (p : Nat) (w : World) : Calls Tryz.prog 61 #[.pointer (some ⟨p, 0, none⟩)] w fun e w' => e = .returned (.pointer (some ⟨p, 6, none⟩)) ∧ w' = w := by
  go_enter Tryz.func61, Tryz.ntmps61
  go_wp2
  go_ret
  exact ⟨rfl, rfl⟩

set_option maxRecDepth 8000 in
set_option maxHeartbeats 4000000 in
theorem cTold4 (b : Nat) (T : TypeId) (c : Cm) (a : Option Addr) (cap : Nat) (w : World) (hb : w.heap[b]? = some (.cells #[.func (.func 61) #[] #[]] T (0, 0))) :
    Calls Tryz.prog 104 #[cmV c a cap, .pointer (some ⟨b, 0, none⟩)] w fun e w' => ∃ a' c', e = .returned (.slice a' (txtL c.ans).length c') ∧ SayR w' w.heap.size a' (txtL c.ans) ∧ Below w.heap.size w w' := by
  have HX := hid (ClBox.new w c (.slice a c.facts.length cap) 26)
  have HB0 := hid ((Below.refl w.heap.size w).alloc (Nat.le_refl _) (.cells #[.string c.id, .string c.iss, .string c.sub, .int .i64 c.frm, .int .i64 c.til, .string c.whom, .string c.ans, .slice a c.facts.length cap] 26))
  have E := empty_is c.ans
  have CF := hid (fun p wx => cField4 p wx)
  unfold cmV
  obtain ⟨w0, hw0⟩ : ∃ w0, w.alloc (.cells #[.string c.id, .string c.iss, .string c.sub, .int .i64 c.frm, .int .i64 c.til, .string c.whom, .string c.ans, .slice a c.facts.length cap] 26) = w0 := ⟨_, rfl⟩
  rw [hw0] at HX HB0
  have f0 : w0.cell? ⟨b, 0, none⟩ = some (.func (.func 61) #[] #[]) := by rw [Lib.cell_of_heap (blk_below hb HB0.out)]; rfl
  obtain ⟨B, hB⟩ : ∃ B, w.heap.size = B := ⟨_, rfl⟩
  rw [hB] at HX
  have f1 := HX.out.c6
  clear hb
  by_cases ht : c.ans.size = 0
  · rw [decide_eq_true ht] at E
    have HE := hid (show txtL c.ans = [] from if_pos ht)
    clear ht
    go_enter Tryz.func104, Tryz.ntmps104
    go_wp2_with fail
    refine (CF.out _ _).mono ?_
    rintro e w1 ⟨rfl, rfl⟩
    go_wp2_with fail
    go_ret
    exact ⟨none, 0, by rw [HE.out]; rfl, by rw [HE.out]; exact SayR.nil _ _ _, hB ▸ HB0.out⟩
  · rw [decide_eq_false ht] at E
    have HE := hid (txtL_one ht)
    clear ht
    go_enter Tryz.func104, Tryz.ntmps104
    go_wp2_with fail
    refine (CF.out _ _).mono ?_
    rintro e w1 ⟨rfl, rfl⟩
    go_wp2_with fail
    refine (CF.out _ _).mono ?_
    rintro e w1 ⟨rfl, rfl⟩
    go_wp2_with fail
    go_ret
    exact ⟨_, _, by rw [HE.out]; rfl, by rw [HE.out]; exact SayR.one (hB ▸ HB0.out.size) (heap_alloc_new _ _) (own_nil _ _ none), hB ▸ HB0.out.alloc HB0.out.size _⟩

set_option maxRecDepth 8000 in
set_option maxHeartbeats 4000000 in
theorem cTermTold (c : Cm) (a : Option Addr) (cap : Nat) (w : World) (hL : Laid w) :
    Calls Tryz.prog 58 #[cmV c a cap] w fun e w' => ∃ a' c', e = .returned (.slice a' 1 c') ∧ SayR w' w.heap.size a' [⟨[⟨fromS, qTx c.frm⟩, ⟨toS, qTx c.til⟩], nE⟩] ∧ Below w.heap.size w w' := by
  have HX := hid (ClBox.new w c (.slice a c.facts.length cap) 26)
  have HB0 := hid ((Below.refl w.heap.size w).alloc (Nat.le_refl _) (.cells #[.string c.id, .string c.iss, .string c.sub, .int .i64 c.frm, .int .i64 c.til, .string c.whom, .string c.ans, .slice a c.facts.length cap] 26))
  have CT1 := hid (fun wx (h : Below w.heap.size w wx) => cTextI c.frm wx (hL.below h))
  have CT2 := hid (fun wx (h : Below w.heap.size w wx) => cTextI c.til wx (hL.below h))
  unfold cmV
  obtain ⟨w0, hw0⟩ : ∃ w0, w.alloc (.cells #[.string c.id, .string c.iss, .string c.sub, .int .i64 c.frm, .int .i64 c.til, .string c.whom, .string c.ans, .slice a c.facts.length cap] 26) = w0 := ⟨_, rfl⟩
  rw [hw0] at HX HB0
  change Hid (∀ wx, Below w.heap.size w wx → Calls Tryz.prog 106 #[.int .i64 c.frm] wx fun e w' => e = .returned (.string (qTx c.frm)) ∧ Below wx.heap.size wx w') at CT1
  change Hid (∀ wx, Below w.heap.size w wx → Calls Tryz.prog 106 #[.int .i64 c.til] wx fun e w' => e = .returned (.string (qTx c.til)) ∧ Below wx.heap.size wx w') at CT2
  generalize qTx c.frm = U at *
  generalize qTx c.til = V at *
  obtain ⟨B, hB⟩ : ∃ B, w.heap.size = B := ⟨_, rfl⟩
  rw [hB] at HX
  clear hL
  have HSZ := hid (show B ≤ w0.heap.size from hB ▸ HB0.out.size)
  go_enter Tryz.func58, Tryz.ntmps58
  go_wp2_with fail
  have HBc := hid ((Below.refl w0.heap.size w0).drew)
  have HSX := hid (show ∀ W', Below w0.heap.size w0 W' → W'.cell? ⟨B, 3, none⟩ = some (.int .i64 c.frm) ∧ W'.cell? ⟨B, 4, none⟩ = some (.int .i64 c.til) from fun W' hb => ⟨(HX.out.below hb).c3, (HX.out.below hb).c4⟩)
  go_region_held3 (fun w' => w'.cell? ⟨B, 3, none⟩ = some (.int .i64 c.frm) ∧ w'.cell? ⟨B, 4, none⟩ = some (.int .i64 c.til)) (first | exact HSX.out _ HBc.out | exact HSX.out _ (HBc.out.alloc HBc.out.size _) | exact HSX.out _ ((HBc.out.alloc HBc.out.size _).alloc (HBc.out.alloc HBc.out.size _).size _))
    (first
      | (go_at_call 106; (with_reducible refine (CT1.out _ (bb HB0.out HBc.out)).mono ?_); rintro e w4 ⟨rfl, hb4⟩; replace HBc := hid (bb HBc.out hb4); clear hb4)
      | (go_at_call 106; (with_reducible refine (CT2.out _ (bb HB0.out HBc.out)).mono ?_); rintro e w5 ⟨rfl, hb5⟩; replace HBc := hid (bb HBc.out hb5); clear hb5))
  all_goals
    go_wp2_with fail
    go_ret
    have hq1 := HBc.out.size
    have hq2 := HB0.out.size
    exact ⟨_, _, rfl, SayR.one (x := ⟨[⟨fromS, U⟩, ⟨toS, V⟩], nE⟩) (by omega) (q_heap2 _ _ _) (own_of (by omega) (blk_alloc (heap_alloc_new _ _) _) (cells_two _ _ _ _)), hB ▸ bb HB0.out ((HBc.out.alloc HBc.out.size _).alloc (HBc.out.alloc HBc.out.size _).size _)⟩

end Go.Proofs.YtknpgdglabibiaaGreatDoor

namespace Go.Proofs.YtknpgdglabibiaaGreatDoor
open Go.RowKit
set_option linter.unusedVariables false
set_option linter.unusedSimpArgs false

theorem box8 {w : World} {g : Nat} {v0 v1 v2 v3 v4 v5 v6 v7 : Value} {T : TypeId} (h : w.heap[g]? = some (.cells #[v0, v1, v2, v3, v4, v5, v6, v7] T (0, 0))) :
    (w.cell? ⟨g, 0, none⟩ = some v0 ∧ w.cell? ⟨g, 1, none⟩ = some v1 ∧ w.cell? ⟨g, 2, none⟩ = some v2 ∧ w.cell? ⟨g, 3, none⟩ = some v3 ∧ w.cell? ⟨g, 4, none⟩ = some v4 ∧ w.cell? ⟨g, 5, none⟩ = some v5 ∧ w.cell? ⟨g, 6, none⟩ = some v6 ∧ w.cell? ⟨g, 7, none⟩ = some v7) ∧ (w.frozen? ⟨g, 0, none⟩ = false ∧ w.frozen? ⟨g, 1, none⟩ = false ∧ w.frozen? ⟨g, 2, none⟩ = false ∧ w.frozen? ⟨g, 3, none⟩ = false ∧ w.frozen? ⟨g, 4, none⟩ = false ∧ w.frozen? ⟨g, 5, none⟩ = false ∧ w.frozen? ⟨g, 6, none⟩ = false ∧ w.frozen? ⟨g, 7, none⟩ = false) :=
  ⟨⟨by rw [Lib.cell_of_heap h]; rfl, by rw [Lib.cell_of_heap h]; rfl, by rw [Lib.cell_of_heap h]; rfl, by rw [Lib.cell_of_heap h]; rfl, by rw [Lib.cell_of_heap h]; rfl, by rw [Lib.cell_of_heap h]; rfl, by rw [Lib.cell_of_heap h]; rfl, by rw [Lib.cell_of_heap h]; rfl⟩, Lib.frozen_of_heap h 0, Lib.frozen_of_heap h 1, Lib.frozen_of_heap h 2, Lib.frozen_of_heap h 3, Lib.frozen_of_heap h 4, Lib.frozen_of_heap h 5, Lib.frozen_of_heap h 6, Lib.frozen_of_heap h 7⟩

set_option maxHeartbeats 4000000 in
theorem cEqClaim (c : Cm) (a b : Option Addr) (ca cb : Nat) (w : World) (hR : AtRow w a c.facts) (hS : AtRow w b c.facts) (hz : AtSz 1048576 c.facts) (hn : c.facts.length ≤ 1048576) :
    Calls Tryz.prog 8 #[cmV c a ca, cmV c b cb] w fun e w' => e = .returned (.bool true) ∧ Below w.heap.size w w' := by
  have CE := hid (fun wx (h : Below w.heap.size w wx) => cEqAttrS a b ca cb c.facts wx (hR.below h) (hS.below h) hz hn)
  obtain ⟨s1, s2, s3, x4, x5, s6, s7, l⟩ := c
  simp only at CE hn
  simp only [cmV]
  clear hR hS hz
  generalize l.length = n at *
  have HB0 := hid (((Below.refl w.heap.size w).alloc (Nat.le_refl _) (.cells #[.string s1, .string s2, .string s3, .int .i64 x4, .int .i64 x5, .string s6, .string s7, .slice a n ca] 26)).alloc (by simp) (.cells #[.string s1, .string s2, .string s3, .int .i64 x4, .int .i64 x5, .string s6, .string s7, .slice b n cb] 26))
  have e1 : (s1.toList != s1.toList) = false := by simp
  have e2 : (s2.toList != s2.toList) = false := by simp
  have e3 : (s3.toList != s3.toList) = false := by simp
  have e4 : (x4 != x4) = false := by simp
  have e5 : (x5 != x5) = false := by simp
  have e6 : (s6.toList != s6.toList) = false := by simp
  have e7 : (s7.toList != s7.toList) = false := by simp
  go_enter Tryz.func8, Tryz.ntmps8
  go_wp2_with fail
  refine (CE.out _ HB0.out).mono ?_
  rintro e w1 ⟨rfl, hb1⟩
  have HB1 := hid (bb HB0.out hb1)
  clear hb1 CE HB0
  go_wp2_with fail
  go_ret
  exact ⟨rfl, HB1.out⟩

end Go.Proofs.YtknpgdglabibiaaGreatDoor
