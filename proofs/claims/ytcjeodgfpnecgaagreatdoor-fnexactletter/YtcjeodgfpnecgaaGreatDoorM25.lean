/- Declarations in the program: contracts of the signs of a meaning, of allSigns over them, declaredBy, meaningOk, declarationsOk. What closures of the program look up: contracts of aroundAll, nearer, lookupAt, elementThere, Meaning and Known. The table of kids: contracts of the program's textKind, kidKinds. -/
import Derived.Test.YtcjeodgfpnecgaaGreatDoorM10
import Derived.Test.YtcjeodgfpnecgaaGreatDoorM24
import Derived.Test.YtcjeodgfpnecgaaGreatDoorM22
import Derived.Laws.EntriesVeiled
namespace Go.Proofs.YtcjeodgfpnecgaaGreatDoor
open Go.RowKit
set_option linter.unusedVariables false
set_option linter.unusedSimpArgs false

/-- A sign that may stand in a meaning. -/
def inMB (c : Int) : Bool := (decide (97 ≤ c) && decide (c ≤ 122)) || (decide (48 ≤ c) && decide (c ≤ 57)) || decide (c = 47) || decide (c = 46)

theorem inMB_all : ∀ n : Fin 256, inB sgnS (UInt8.ofNat n.val) = inMB (n.val : Int) := by decide +kernel

theorem inMB_is (c : UInt8) : inB sgnS c = inMB c.toNat := by
  have h := inMB_all ⟨c.toNat, c.toNat_lt⟩
  have e : UInt8.ofNat c.toNat = c := by simp
  rw [e] at h
  exact h

theorem cDigit (c : Int) (w : World) (h0 : 0 ≤ c) (h1 : c ≤ 255) :
    Calls Tryz.prog 105 #[.int .u8 c] w fun e w' => e = .returned (.bool (decide (48 ≤ c) && decide (c ≤ 57))) ∧ w' = w := by
  go_enter Tryz.func105, Tryz.ntmps105
  go_wp2
  all_goals go_ret
  all_goals exact ⟨ret_bool (by rw [Bool.eq_iff_iff]; simp; try omega), rfl⟩

/-- All signs may stand in a meaning. -/
def allM (l : List UInt8) : Bool := l.all fun c => inMB c.toNat

theorem allM_is (l : List UInt8) : (l.all fun c => sgnS.data.toList.any fun d => decide (d = c)) = allM l := by
  unfold allM
  congr 1
  funext c
  exact inMB_is c

theorem allM_snoc (s : ByteArray) (k : Nat) (h : k < s.size) : allM (s.data.toList.take (k + 1)) = (allM (s.data.toList.take k) && inMB s[k].toNat) := by
  unfold allM
  rw [take_snoc s k h, List.all_append]
  simp

theorem allM_no (s : ByteArray) (k : Nat) (h : k < s.size) (hc : inMB s[k].toNat = false) : allM s.data.toList = false := by
  cases hA : allM s.data.toList with
  | false => rfl
  | true =>
    have := List.all_eq_true.1 hA s[k] (List.getElem_mem _)
    rw [hc] at this
    cases this

/-- What a declaration of this prefix says is right. -/
def saysB (p v : ByteArray) : Bool := ofB sgnS 20 v && (decide (p.size = 0) || !decide (v.size = 0))

theorem declF_sz {x : At} (hz : x.name.size ≤ 1048576) {p : ByteArray} (h : declF x = some p) : p.size ≤ 1048576 := by
  unfold declF at h
  split at h
  · cases h; exact Nat.zero_le _
  · split at h
    · cases h; exact locS_sz hz
    · cases h

end Go.Proofs.YtcjeodgfpnecgaaGreatDoor

namespace Go.Proofs.YtcjeodgfpnecgaaGreatDoor
open Go.RowKit
set_option linter.unusedVariables false
set_option linter.unusedSimpArgs false

/-- What a prefix means by these, if they are right. -/
noncomputable def lookL (l : List At) (p : ByteArray) : Option ByteArray := match l.find? (declB p) with | some x => some x.value | none => if p.size = 0 then some ⟨#[]⟩ else none

theorem meanL_look {l : List At} (p : ByteArray) (h : l.all rightB = true) : meanL l p = lookL l p := by
  unfold meanL lookL
  rw [if_pos h]
  rfl

theorem meanL_not {l : List At} (p : ByteArray) (h : l.all rightB = false) : meanL l p = none := by unfold meanL; rw [if_neg (by rw [h]; exact Bool.false_ne_true)]

theorem lookL_hit {l ls : List At} {p : ByteArray} {i : Nat} (h : i < l.length) (h0 : (l.take i).find? (declB p) = none) (h1 : declB p l[i] = true) : lookL (l ++ ls) p = some l[i].value := by
  have e : l.find? (declB p) = some l[i] := by
    rw [List.find?_eq_some_iff_getElem]
    refine ⟨h1, i, h, rfl, fun j hj => ?_⟩
    have h2 := List.find?_eq_none.1 h0 l[j] (List.mem_take_iff_getElem.2 ⟨j, by omega, rfl⟩)
    simpa using h2
  unfold lookL
  rw [List.find?_append, e]
  rfl

theorem lookL_none {l : List At} (ls : List At) {p : ByteArray} (h : l.find? (declB p) = none) : lookL (l ++ ls) p = lookL ls p := by
  unfold lookL
  rw [List.find?_append, h]
  rfl

theorem find_snoc {l : List At} {p : ByteArray} {i : Nat} (h : i < l.length) (h0 : (l.take i).find? (declB p) = none) (h1 : declB p l[i] = false) : (l.take (i + 1)).find? (declB p) = none := by
  rw [take_snocN h, List.find?_append, h0]
  simp [h1]

/-- A function with what it holds that looks up by these, from a world on. -/
def Asks (F : FuncId) (C : Array Value) (w : World) (l : List At) : Prop :=
  (∀ p (wx : World), (callFunc F (#[.string p] ++ C)).run Tryz.prog wx = .ok (.enter F (#[.string p] ++ C)) wx) ∧
  ∀ p (wx : World), Below w.heap.size w wx → p.size ≤ 1048576 → Calls Tryz.prog F (#[.string p] ++ C) wx fun e w' => e = .returned (.tuple #[.string ((lookL l p).getD ⟨#[]⟩), .bool (lookL l p).isSome]) ∧ Below wx.heap.size wx w'

theorem Asks.below {F : FuncId} {C : Array Value} {w w' : World} {l : List At} (h : Asks F C w l) (hb : Below w.heap.size w w') : Asks F C w' l := ⟨h.1, fun p wx hx hp => h.2 p wx (bb hb hx) hp⟩

theorem enters {f : FuncId} {fn : Func} {c : Code} (hf : Tryz.prog.funcs[f]? = some fn) (hname : (fn.name == "runtime.NumGoroutine") = false) (hb : fn.body = some c) (args : Array Value) (w : World) :
    (callFunc f args).run Tryz.prog w = .ok (.enter f args) w := by
  have h1 : fn.name ≠ "runtime.NumGoroutine" := by simpa using hname
  simp [callFunc, hf, h1, hb]

theorem box_both (w : World) (x y : Value) (T U : TypeId) : let w' := (w.alloc (.cells #[x] T)).alloc (.cells #[y] U)
    w'.cell? ⟨w.heap.size, 0, none⟩ = some x ∧ w'.cell? ⟨w.heap.size + 1, 0, none⟩ = some y ∧ w'.heap.size = w.heap.size + 2 := by
  refine ⟨?_, ?_, by simp⟩
  · rw [Lib.cell_of_heap (blk_alloc (heap_alloc_new w (.cells #[x] T)) (.cells #[y] U))]; rfl
  · rw [Lib.cell_of_heap (heap_two w (.cells #[x] T) (.cells #[y] U))]; rfl

theorem up_drop {ts : List Tk} {c : List Nat} {m : Nat} (hm : m < c.length) {t : Tk} (h : ts[c[m]]? = some t) : upAts ts (c.drop m) = t.attrs ++ upAts ts (c.drop (m + 1)) := by
  unfold upAts
  rw [List.drop_eq_getElem_cons hm, List.flatMap_cons, h]

/-- One of the chain: what is known of it, outwards. -/
theorem chain_out {ts : List Tk} {c : List Nat} (h : ∀ m (h : m < c.length), c[m] < ts.length ∧ parI ts c[m] = kAt c (m + 1) ∧ kAt c (m + 1) < (c[m] : Int)) {m : Nat} (hm : m < c.length) :
    ∃ (x : Nat) (t : Tk), x < ts.length ∧ kAt c m = (x : Int) ∧ t.kind = kAt c (m + 1) ∧ t ∈ ts ∧ upAts ts (c.drop m) = t.attrs ++ upAts ts (c.drop (m + 1)) ∧
      ∀ wx a, TkRow wx a ts → ∃ b o aa cap, a = some ⟨b, o, none⟩ ∧ b < wx.heap.size ∧ wx.cell? ⟨b, o + x * 4, none⟩ = some (.int .i64 t.kind) ∧ wx.cell? ⟨b, o + x * 4 + 2, none⟩ = some (.slice aa t.attrs.length cap) ∧ AtRow wx aa t.attrs := by
  obtain ⟨h1, h2, h3⟩ := h m hm
  refine ⟨c[m], ts[c[m]], h1, kAt_lt hm, by rw [← parI_at h1, h2], List.getElem_mem h1, up_drop hm (List.getElem?_eq_getElem h1), fun wx a hr => ?_⟩
  obtain ⟨b, o, aa, ca, e, hb, q0, q1, q2, q3, q4⟩ := hr c[m] h1
  exact ⟨b, o, aa, ca, e, hb, q0, q2, q4⟩

/-- All from one on, outwards. -/
def outAts (ts : List Tk) (k : Nat) : List At := upAts ts (chainF ts (k + 1))

theorem meanF_out (ts : List Tk) (k : Nat) (p : ByteArray) : meanF ts k p = meanL (outAts ts k) p := rfl

set_option maxHeartbeats 2000000 in
theorem cElementThere (a : Option Addr) (cap : Nat) (ts : List Tk) (x : Int) (w : World) (hR : TkRow w a ts) (hn : ts.length ≤ 1048576) (hz : TksSz 1048576 ts) :
    Calls Tryz.prog 40 #[.slice a ts.length cap, .int .i64 x] w fun e w' => e = .returned (.bool (elemB ts x)) ∧ Below w.heap.size w w' := by
  have C := hid (cThere a cap ts x w hR hn hz)
  have HR := hid hR
  clear hR
  cases hh : hasB ts x with
  | false =>
    have HE := hid (show elemB ts x = false by unfold elemB; rw [hh]; rfl)
    rw [HE.out]
    rw [hh] at C
    clear hh HE HR hz
    generalize ts.length = n at *
    go_enter Tryz.func40, Tryz.ntmps40
    go_wp2_with fail
    refine C.out.mono ?_
    rintro e w1 ⟨rfl, hb1⟩
    have HB1 := hid hb1
    clear hb1 C
    go_wp2_with fail
    go_ret
    exact ⟨rfl, HB1.out⟩
  | true =>
    obtain ⟨hT, k, rfl, hk⟩ := hasB_t hh
    have HE := hid (show elemB ts (k : Int) = !decide (ts[k].name.size = 0) by unfold elemB; rw [hh]; show (true && !decide ((nameI ts k).size = 0)) = _; rw [nameI_at hk]; rfl)
    rw [HE.out]
    rw [hh] at C
    have HROW := hid (fun wx (hb : Below w.heap.size w wx) => (HR.out.below hb) k hk)
    obtain ⟨b, o, _, _, ea, -⟩ := HR.out k hk
    subst ea
    have hkn : (k : Int) < (ts.length : Int) := by omega
    have CI := hid (fun wx aa nA ca => cIsText ts[k].kind ts[k].name aa nA ca ts[k].text wx (hz _ (List.getElem_mem hk)).1)
    clear hh HE HR hz hT
    generalize decide (ts[k].name.size = 0) = D at *
    generalize ts[k].kind = K at *
    generalize ts[k].name = N at *
    generalize ts[k].text = T at *
    generalize ts[k].attrs = A at *
    generalize ts.length = n at *
    go_enter Tryz.func40, Tryz.ntmps40
    go_wp2_with fail
    refine C.out.mono ?_
    rintro e w1 ⟨rfl, hb1⟩
    obtain ⟨b', o', aa, ca, e', hb, q0, q1, q2, q3, _⟩ := HROW.out _ hb1
    obtain ⟨rfl, rfl⟩ : b = b' ∧ o = o' := by cases e'; exact ⟨rfl, rfl⟩
    have HB1 := hid hb1
    clear hb1 C e' HROW
    go_wp2_with fail
    refine (CI.out _ _ _ _).mono ?_
    rintro e w2 ⟨rfl, hb2⟩
    have HB2 := hid (bb HB1.out hb2)
    clear hb2
    go_wp2_with fail
    go_ret
    exact ⟨rfl, HB2.out⟩

theorem meanI_el {ts : List Tk} {k : Nat} {p : ByteArray} (h : elemB ts (k : Int) = true) : meanI ts (k : Int) p = meanF ts k p := by unfold meanI; rw [h]; rfl

end Go.Proofs.YtcjeodgfpnecgaaGreatDoor

namespace Go.Proofs.YtcjeodgfpnecgaaGreatDoor
open Go.RowKit
set_option linter.unusedVariables false
set_option linter.unusedSimpArgs false

theorem box5 {w : World} {g : Nat} {v0 v1 v2 v3 v4 : Value} {T : TypeId} (h : w.heap[g]? = some (.cells #[v0, v1, v2, v3, v4] T (0, 0))) :
    (w.cell? ⟨g, 0, none⟩ = some v0 ∧ w.cell? ⟨g, 1, none⟩ = some v1 ∧ w.cell? ⟨g, 2, none⟩ = some v2 ∧ w.cell? ⟨g, 3, none⟩ = some v3 ∧ w.cell? ⟨g, 4, none⟩ = some v4) ∧ (w.frozen? ⟨g, 0, none⟩ = false ∧ w.frozen? ⟨g, 1, none⟩ = false ∧ w.frozen? ⟨g, 2, none⟩ = false ∧ w.frozen? ⟨g, 3, none⟩ = false ∧ w.frozen? ⟨g, 4, none⟩ = false) :=
  ⟨⟨by rw [Lib.cell_of_heap h]; rfl, by rw [Lib.cell_of_heap h]; rfl, by rw [Lib.cell_of_heap h]; rfl, by rw [Lib.cell_of_heap h]; rfl, by rw [Lib.cell_of_heap h]; rfl⟩, Lib.frozen_of_heap h 0, Lib.frozen_of_heap h 1, Lib.frozen_of_heap h 2, Lib.frozen_of_heap h 3, Lib.frozen_of_heap h 4⟩

set_option maxHeartbeats 4000000 in
theorem cTextKind (loc : ByteArray) (least : Int) (F : FuncId) (w : World) :
    Calls Tryz.prog 76 #[.string loc, .int .i64 least, .func (.func F) #[] #[]] w fun e w' => ∃ b, w.heap.size ≤ b ∧ e = .returned (.agg #[.string loc, .int .i64 least, .int .i64 1, .func (.func 99) #[] #[.pointer (some ⟨b, 0, none⟩)], .func (.func 100) #[] #[.pointer (some ⟨b, 0, none⟩)]]) ∧ w'.heap[b]? = some (.cells #[.func (.func F) #[] #[]] 111 (0, 0)) ∧ Below w.heap.size w w' := by
  have hmf : ∀ (fn : Fn) (first cap : Array Value) (w : World), (Instr.makeFunc fn first cap).run Tryz.prog w = .ok (.func fn first cap) w := fun _ _ _ _ => rfl
  go_enter Tryz.func76, Tryz.ntmps76
  go_wp2_with fail
  obtain ⟨⟨y0, y1, y2, y3, y4⟩, _⟩ := box5 (q_heap2 w (.cells #[.func (.func F) #[] #[]] 111) (.cells #[.string loc, .int .i64 least, .int .i64 1, .func (.func 99) #[] #[.pointer (some ⟨w.heap.size, 0, none⟩)], .func (.func 100) #[] #[.pointer (some ⟨w.heap.size, 0, none⟩)]] 82))
  refine bodyPost_ret (v := .agg #[.string loc, .int .i64 least, .int .i64 1, .func (.func 99) #[] #[.pointer (some ⟨w.heap.size, 0, none⟩)], .func (.func 100) #[] #[.pointer (some ⟨w.heap.size, 0, none⟩)]]) (by simp [results, Tryz.results76, go_sem, y0, y1, y2, y3, y4]) rfl ⟨w.heap.size, Nat.le_refl _, rfl, blk_alloc (heap_alloc_new _ _) _, ((Below.refl w.heap.size w).alloc (Nat.le_refl _) _).alloc (by simp) _⟩

/-- The table, by where its functions' variables lie. -/
def kC (b0 b1 b3 b4 : Nat) : Array Value := #[.string (localN 0), .int .i64 1, .int .i64 1, .func (.func 99) #[] #[.pointer (some ⟨b0, 0, none⟩)], .func (.func 100) #[] #[.pointer (some ⟨b0, 0, none⟩)], .string (localN 1), .int .i64 1, .int .i64 1, .func (.func 99) #[] #[.pointer (some ⟨b1, 0, none⟩)], .func (.func 100) #[] #[.pointer (some ⟨b1, 0, none⟩)], .string (localN 2), .int .i64 1, .int .i64 1, .func (.func 79) #[] #[], .func (.func 80) #[] #[], .string (localN 3), .int .i64 1, .int .i64 1, .func (.func 99) #[] #[.pointer (some ⟨b3, 0, none⟩)], .func (.func 100) #[] #[.pointer (some ⟨b3, 0, none⟩)], .string (localN 4), .int .i64 0, .int .i64 1, .func (.func 99) #[] #[.pointer (some ⟨b4, 0, none⟩)], .func (.func 100) #[] #[.pointer (some ⟨b4, 0, none⟩)], .string (localN 5), .int .i64 0, .int .i64 4, .func (.func 83) #[] #[], .func (.func 84) #[] #[]]

/-- The table and its variables, as they were made. -/
structure Kinds (w : World) (B g b0 b1 b3 b4 : Nat) : Prop where
  gB : B ≤ g
  B0 : B ≤ b0
  B1 : B ≤ b1
  B3 : B ≤ b3
  B4 : B ≤ b4
  tab : w.heap[g]? = some (.cells (kC b0 b1 b3 b4) 82 (0, 0))
  v0 : w.heap[b0]? = some (.cells #[.func (.func 77) #[] #[]] 111 (0, 0))
  v1 : w.heap[b1]? = some (.cells #[.func (.func 78) #[] #[]] 111 (0, 0))
  v3 : w.heap[b3]? = some (.cells #[.func (.func 81) #[] #[]] 111 (0, 0))
  v4 : w.heap[b4]? = some (.cells #[.func (.func 82) #[] #[]] 111 (0, 0))

theorem Kinds.below {w w' : World} {B g b0 b1 b3 b4 : Nat} (h : Kinds w B g b0 b1 b3 b4) (hb : Below w.heap.size w w') : Kinds w' B g b0 b1 b3 b4 :=
  ⟨h.gB, h.B0, h.B1, h.B3, h.B4, blk_below h.tab hb, blk_below h.v0 hb, blk_below h.v1 hb, blk_below h.v3 hb, blk_below h.v4 hb⟩

set_option maxRecDepth 8000 in
set_option maxHeartbeats 4000000 in
theorem cKidKinds (w : World) :
    Calls Tryz.prog 49 #[] w fun e w' => ∃ g b0 b1 b3 b4, e = .returned (.slice (some ⟨g, 0, none⟩) 6 6) ∧ Kinds w' w.heap.size g b0 b1 b3 b4 ∧ Below w.heap.size w w' := by
  have C := hid cTextKind
  go_enter Tryz.func49, Tryz.ntmps49
  go_wp2_with fail
  refine (C.out _ _ _ _).mono ?_
  rintro e w1 ⟨b0, hb0, rfl, h0, hb1⟩
  have H0 := hid h0
  have HS0 := hid hb0
  have HB1 := hid hb1
  clear hb1 hb0 h0
  go_wp2_with fail
  refine (C.out _ _ _ _).mono ?_
  rintro e w2 ⟨b1, hb1, rfl, h1, hb2⟩
  have H1 := hid h1
  have H02 := hid (blk_below H0.out hb2)
  have HS1 := hid (Nat.le_trans HB1.out.size hb1)
  have HB2 := hid (bb HB1.out hb2)
  clear hb1 hb2 h1 H0 HB1
  go_wp2_with fail
  refine (C.out _ _ _ _).mono ?_
  rintro e w3 ⟨b3, hb3, rfl, h3, hb4⟩
  have H3 := hid h3
  have H03 := hid (blk_below H02.out hb4)
  have H13 := hid (blk_below H1.out hb4)
  have HS3 := hid (Nat.le_trans HB2.out.size hb3)
  have HB3 := hid (bb HB2.out hb4)
  clear hb3 hb4 h3 H02 H1 HB2
  go_wp2_with fail
  refine (C.out _ _ _ _).mono ?_
  rintro e w4 ⟨b4, hb4, rfl, h4, hb5⟩
  have H4 := hid h4
  have H04 := hid (blk_below H03.out hb5)
  have H14 := hid (blk_below H13.out hb5)
  have H34 := hid (blk_below H3.out hb5)
  have HS4 := hid (Nat.le_trans HB3.out.size hb4)
  have HB4 := hid (bb HB3.out hb5)
  clear hb4 hb5 h4 H03 H13 H3 HB3
  go_wp2_with fail
  go_ret
  exact ⟨_, b0, b1, b3, b4, rfl, ⟨HB4.out.size, HS0.out, HS1.out, HS3.out, HS4.out, heap_alloc_new _ _, blk_alloc H04.out _, blk_alloc H14.out _, blk_alloc H34.out _, blk_alloc H4.out _⟩, HB4.out.alloc HB4.out.size _⟩

theorem told_of {F : FuncId} {C : Array Value} {w : World} {c : Cm} {a : Option Addr} {cap : Nat} {l : List Say} {fn : Func} {cd : Code} (hf : Tryz.prog.funcs[F]? = some fn) (hname : (fn.name == "runtime.NumGoroutine") = false) (hb : fn.body = some cd)
    (h : ∀ (wx : World), Below w.heap.size w wx → Calls Tryz.prog F (#[cmV c a cap] ++ C) wx fun e w' => ∃ a' c', e = .returned (.slice a' l.length c') ∧ SayR w' wx.heap.size a' l ∧ Below wx.heap.size wx w') : Told F C w c a cap l :=
  ⟨fun v wx => enters hf hname hb _ wx, h⟩

theorem Told.below {F : FuncId} {C : Array Value} {w w' : World} {c : Cm} {a : Option Addr} {cap : Nat} {l : List Say} (h : Told F C w c a cap l) (hb : Below w.heap.size w w') : Told F C w' c a cap l := ⟨h.1, fun wx hx => h.2 wx (bb hb hx)⟩

/-- A row of the table. -/
theorem kind_at {w : World} {B g b0 b1 b3 b4 : Nat} (h : Kinds w B g b0 b1 b3 b4) (c : Cm) (a : Option Addr) (cap : Nat) (hR : AtRow w a c.facts) (h4 : c.facts.length ≤ 1000) (hL : Laid w) (k : Nat) (hk : k < 6) :
    ∃ (le mo : Int) (F : FuncId) (C : Array Value) (F2 : FuncId) (C2 : Array Value), (w.cell? ⟨g, k * 5, none⟩ = some (.string (localN k)) ∧ w.cell? ⟨g, k * 5 + 1, none⟩ = some (.int .i64 le) ∧ w.cell? ⟨g, k * 5 + 2, none⟩ = some (.int .i64 mo) ∧ w.cell? ⟨g, k * 5 + 3, none⟩ = some (.func (.func F) #[] C) ∧ w.cell? ⟨g, k * 5 + 4, none⟩ = some (.func (.func F2) #[] C2)) ∧ Told F C w c a cap (saysL c (qTx c.frm) (qTx c.til) k) := by
  have t := fun j => Lib.cell_of_heap h.tab j
  match k, hk with
  | 0, _ => exact ⟨_, _, _, _, _, _, ⟨(t 0).trans rfl, (t 1).trans rfl, (t 2).trans rfl, (t 3).trans rfl, (t 4).trans rfl⟩, told_of Tryz.func99 (by kernel_rfl) rfl (fun wx hx => cTold1 b0 _ c a cap wx (blk_below h.v0 hx))⟩
  | 1, _ => exact ⟨_, _, _, _, _, _, ⟨(t 5).trans rfl, (t 6).trans rfl, (t 7).trans rfl, (t 8).trans rfl, (t 9).trans rfl⟩, told_of Tryz.func99 (by kernel_rfl) rfl (fun wx hx => cTold2 b1 _ c a cap wx (blk_below h.v1 hx))⟩
  | 2, _ => exact ⟨_, _, _, _, _, _, ⟨(t 10).trans rfl, (t 11).trans rfl, (t 12).trans rfl, (t 13).trans rfl, (t 14).trans rfl⟩, told_of Tryz.func79 (by kernel_rfl) rfl (fun wx hx => cTermTold c a cap wx (hL.below hx))⟩
  | 3, _ => exact ⟨_, _, _, _, _, _, ⟨(t 15).trans rfl, (t 16).trans rfl, (t 17).trans rfl, (t 18).trans rfl, (t 19).trans rfl⟩, told_of Tryz.func99 (by kernel_rfl) rfl (fun wx hx => cTold3 b3 _ c a cap wx (blk_below h.v3 hx))⟩
  | 4, _ => exact ⟨_, _, _, _, _, _, ⟨(t 20).trans rfl, (t 21).trans rfl, (t 22).trans rfl, (t 23).trans rfl, (t 24).trans rfl⟩, told_of Tryz.func99 (by kernel_rfl) rfl (fun wx hx => cTold4 b4 _ c a cap wx (blk_below h.v4 hx))⟩
  | 5, _ => exact ⟨_, _, _, _, _, _, ⟨(t 25).trans rfl, (t 26).trans rfl, (t 27).trans rfl, (t 28).trans rfl, (t 29).trans rfl⟩, told_of Tryz.func83 (by kernel_rfl) rfl (fun wx hx => cFactsTold c a cap wx (hR.below hx) h4)⟩

end Go.Proofs.YtcjeodgfpnecgaaGreatDoor
