/- What one more declaration does (mathematics alone): which attr declares a prefix, the meaning further out, a tree with one attr more. The program's way to write it is the specification's (mathematics alone). What an element has, as shapes: contract of (shaper).inside, given (shaper).node's. -/
import Derived.Test.YtkejmifkjgpdjaaGreatM26
import Derived.Test.YtkejmifkjgpdjaaGreatM33
import Derived.Test.YtkejmifkjgpdjaaGreatM34
import Derived.Test.YtkejmifkjgpdjaaGreatM27
import Derived.Maps.AppendAt
namespace Go.Proofs.YtkejmifkjgpdjaaGreat
open Go.RowKit
set_option linter.unusedVariables false

/-- The prefixes that are drawn. -/
def prefS (p : ByteArray) : Prop := p = ⟨#[]⟩ ∨ p = ⟨#[112]⟩ ∨ p = ⟨#[113]⟩ ∨ p = ⟨#[122]⟩

/-- The name that declares it. -/
def nmP (p : ByteArray) : ByteArray := if p.size = 0 then nsS else ⟨#[110, 115, 58]⟩ ++ p

def freshS : ByteArray := ⟨#[102, 114, 101, 115, 104]⟩

theorem nmP_name {p : ByteArray} (hp : prefS p) : nameL (nmP p).data.toList = true := by
  rcases hp with rfl | rfl | rfl | rfl <;> decide +kernel

theorem nmP_decl {p v : ByteArray} (hp : prefS p) : declF ⟨nmP p, v⟩ = some p := by
  unfold declF
  rcases hp with rfl | rfl | rfl | rfl
  · rw [if_pos (show nmP ⟨#[]⟩ = nsS from rfl)]
  · rw [if_neg (show ¬ nmP ⟨#[112]⟩ = nsS by decide +kernel), if_pos (show preS (nmP ⟨#[112]⟩) = nsS by decide +kernel)]
    exact congrArg some (show locS (nmP ⟨#[112]⟩) = ⟨#[112]⟩ by decide +kernel)
  · rw [if_neg (show ¬ nmP ⟨#[113]⟩ = nsS by decide +kernel), if_pos (show preS (nmP ⟨#[113]⟩) = nsS by decide +kernel)]
    exact congrArg some (show locS (nmP ⟨#[113]⟩) = ⟨#[113]⟩ by decide +kernel)
  · rw [if_neg (show ¬ nmP ⟨#[122]⟩ = nsS by decide +kernel), if_pos (show preS (nmP ⟨#[122]⟩) = nsS by decide +kernel)]
    exact congrArg some (show locS (nmP ⟨#[122]⟩) = ⟨#[122]⟩ by decide +kernel)

/-- A name with a prefix, put together again. -/
theorem name_again {l : List UInt8} (hn : nameL l = true) (hp : ¬ partP l = []) : l = partP l ++ 58 :: partL l ∧ 1 ≤ (partL l).length := by
  unfold partP at hp ⊢
  unfold partL
  rw [if_pos hn] at hp ⊢
  rw [if_pos hn]
  unfold nameL at hn
  unfold preL locL at *
  cases hc : colonAt l with
  | none => rw [hc] at hp; exact absurd rfl hp
  | some a =>
    rw [hc] at hn
    simp only [Bool.and_eq_true] at hn
    have h2 := hn.2
    unfold lettersL at h2
    simp only [Bool.and_eq_true, decide_eq_true_eq] at h2
    refine ⟨?_, h2.1.1⟩
    unfold colonAt at hc
    obtain ⟨hlt, h1, _⟩ := List.findIdx?_eq_some_iff_getElem.1 hc
    have e : l[a] = 58 := by
      have : l[a].toNat = 58 := by simpa using h1
      exact UInt8.toNat_inj.1 this
    conv => lhs; rw [← List.take_append_drop a l, List.drop_eq_getElem_cons hlt, e]

theorem declF_nm {p : ByteArray} (hp : prefS p) {x : At} (hn : nameL x.name.data.toList = true) : declF x = some p ↔ x.name = nmP p := by
  constructor
  · intro h
    unfold declF at h
    split at h
    · rename_i h1
      cases h
      rw [h1]
      rfl
    · split at h
      · rename_i h1 h2
        have h3 : locS x.name = p := by simpa using h
        have hpp : partP x.name.data.toList = [110, 115] := by
          have := congrArg (fun s : ByteArray => s.data.toList) h2
          simpa [preS, nsS] using this
        have hll : partL x.name.data.toList = p.data.toList := by
          have := congrArg (fun s : ByteArray => s.data.toList) h3
          simpa [locS] using this
        obtain ⟨e1, e2⟩ := name_again hn (by rw [hpp]; simp)
        rw [hpp, hll] at e1
        rw [hll] at e2
        have hps : ¬ p.size = 0 := by
          have : p.data.toList.length = p.size := rfl
          omega
        unfold nmP
        rw [if_neg hps]
        apply ByteArray.ext
        apply Array.toList_inj.1
        rw [e1]
        simp
      · cases h
  · intro h
    obtain ⟨n, v⟩ := x
    have h' : n = nmP p := h
    subst h'
    exact nmP_decl hp

theorem declB_nm {p : ByteArray} (hp : prefS p) {x : At} (hn : nameL x.name.data.toList = true) : declB p x = true ↔ x.name = nmP p := by
  unfold declB
  rw [decide_eq_true_eq]
  exact declF_nm hp hn

/-- Of two chains from one on each is the other. -/
theorem linked_one {ts : List Tk} : ∀ {c d : List Nat} {x : Nat}, Linked ts (x :: c) → Linked ts (x :: d) → c = d
  | [], [], x, _, _ => rfl
  | [], z :: d, x, h, k => by
    have h0 : x = 0 := h
    have := k.2.1
    omega
  | y :: c, [], x, h, k => by
    have h0 : x = 0 := k
    have := h.2.1
    omega
  | y :: c, z :: d, x, h, k => by
    have e : y = z := by
      have h1 := h.1
      have k1 := k.1
      omega
    subst e
    rw [linked_one h.tail k.tail]

/-- The attrs from one on, outwards: his, and those of what is around him. -/
theorem outAts_root {ts : List Tk} {t : Tk} (h : ts[0]? = some t) : outAts ts 0 = t.attrs := by
  unfold outAts upAts
  show List.flatMap _ [0] = _
  simp [h]

theorem outAts_up {ts : List Tk} (hT : TreeP ts) {k : Nat} {t : Tk} (ht : ts[k]? = some t) (hk : ¬ k = 0) : ∃ p : Nat, (p : Int) = t.kind ∧ p < k ∧ elN ts p ∧ outAts ts k = t.attrs ++ outAts ts p := by
  have hkl : k < ts.length := by
    rcases Nat.lt_or_ge k ts.length with h | h
    · exact h
    · rw [List.getElem?_eq_none h] at ht; cases ht
  have hup : ∀ j, j < ts.length → UpOk ts j := fun j hj => (hT.2.2.2.2 j hj).2.1
  have e1 : t.kind = parI ts k := by unfold parI; rw [ht]
  rcases hup k hkl with h0 | ⟨p, hp, hpk, hel⟩
  · exact absurd h0 hk
  · obtain ⟨i, rfl⟩ : ∃ i, k = i + 1 := ⟨k - 1, by omega⟩
    have hL := linked_all (ts := ts) i (fun j hj => hup j (by omega))
    obtain ⟨h3, q, r, e, eq, hq⟩ := linked_next hL.1 (hup _ hkl) (by omega) hL.2
    have eqp : q = p := by omega
    subst eqp
    refine ⟨q, by rw [e1]; exact eq, hq, hel, ?_⟩
    have hL2 := linked_all (ts := ts) q (fun j hj => hup j (by omega))
    obtain ⟨r2, e2⟩ := chain_head ts q
    have er : r = r2 := by
      rw [e] at h3
      rw [e2] at hL2
      exact linked_one h3.tail hL2.1
    unfold outAts
    rw [e, e2, ← er]
    unfold upAts
    rw [List.flatMap_cons, ht]

/-- What is not declared here is as it is further out. -/
theorem mean_out {ts : List Tk} (hT : TreeP ts) {k : Nat} {t : Tk} (ht : ts[k]? = some t) (hk : ¬ k = 0) {p : ByteArray} (hno : t.attrs.find? (declB p) = none) (hs : (meanF ts k p).isSome = true) : ∃ q : Nat, (q : Int) = t.kind ∧ q < k ∧ elN ts q ∧ meanF ts q p = meanF ts k p := by
  obtain ⟨q, h1, h2, h3, h4⟩ := outAts_up hT ht hk
  refine ⟨q, h1, h2, h3, ?_⟩
  rw [meanF_out] at hs
  have hr : (outAts ts k).all rightB = true := by
    cases hr : (outAts ts k).all rightB with
    | true => rfl
    | false => rw [meanL_not p hr] at hs; cases hs
  have hr2 : (outAts ts q).all rightB = true := by
    rw [h4, List.all_append, Bool.and_eq_true] at hr
    exact hr.2
  rw [meanF_out, meanF_out, meanL_look p hr, meanL_look p hr2, h4, lookL_none _ hno]

/-- The tree with one attr more. -/
def moreT (ts : List Tk) (k : Nat) (t : Tk) (x : At) : List Tk := ts.set k ⟨t.kind, t.name, t.attrs ++ [x], t.text⟩

section
variable {ts : List Tk} {k : Nat} {t : Tk} {x : At}

theorem more_len : (moreT ts k t x).length = ts.length := by unfold moreT; rw [List.length_set]

theorem more_at (h : ts[k]? = some t) : (moreT ts k t x)[k]? = some ⟨t.kind, t.name, t.attrs ++ [x], t.text⟩ := by
  unfold moreT
  rw [List.getElem?_set]
  have hk : k < ts.length := by
    rcases Nat.lt_or_ge k ts.length with h' | h'
    · exact h'
    · rw [List.getElem?_eq_none h'] at h; cases h
  simp [hk]

theorem more_ne {j : Nat} (h : ¬ j = k) : (moreT ts k t x)[j]? = ts[j]? := by
  unfold moreT
  rw [List.getElem?_set]
  rw [if_neg (fun e => h e.symm)]

/-- Each is as it was, but for his attrs. -/
theorem more_like (h : ts[k]? = some t) (j : Nat) : ((moreT ts k t x)[j]?.map fun u => (u.kind, u.name, u.text)) = (ts[j]?.map fun u => (u.kind, u.name, u.text)) := by
  by_cases e : j = k
  · subst e; rw [more_at h, h]; rfl
  · rw [more_ne e]

theorem more_par (h : ts[k]? = some t) (j : Nat) : parI (moreT ts k t x) j = parI ts j := by
  have e := more_like (x := x) h j
  unfold parI
  cases h1 : (moreT ts k t x)[j]? with
  | none =>
    rw [h1] at e
    cases h2 : ts[j]? with
    | none => rfl
    | some u => rw [h2] at e; cases e
  | some v =>
    rw [h1] at e
    cases h2 : ts[j]? with
    | none => rw [h2] at e; cases e
    | some u =>
      rw [h2] at e
      simp only [Option.map_some, Option.some.injEq, Prod.mk.injEq] at e
      exact e.1

theorem more_chain (h : ts[k]? = some t) : ∀ i, chainF (moreT ts k t x) i = chainF ts i
  | 0 => rfl
  | i + 1 => by
    show i :: _ = i :: _
    rw [more_chain h i, more_par h i]

theorem more_name (h : ts[k]? = some t) {j : Nat} (hj : j < ts.length) (hj2 : j < (moreT ts k t x).length) : ((moreT ts k t x)[j]'hj2).name = ts[j].name ∧ ((moreT ts k t x)[j]'hj2).kind = ts[j].kind := by
  have e := more_like (x := x) h j
  rw [List.getElem?_eq_getElem hj2, List.getElem?_eq_getElem hj] at e
  simp only [Option.map_some, Option.some.injEq, Prod.mk.injEq] at e
  exact ⟨e.2.1, e.1⟩

theorem more_el (h : ts[k]? = some t) {j : Nat} (he : elN ts j) : elN (moreT ts k t x) j := by
  obtain ⟨hj, hn⟩ := he
  have hj2 : j < (moreT ts k t x).length := by rw [more_len]; exact hj
  exact ⟨hj2, by rw [(more_name h hj hj2).1]; exact hn⟩

theorem more_ok {l : List At} (h : attrsB l = true) (h5 : l.length ≤ 5) (hx : atOk x) (hno : ∀ y ∈ l, ¬ y.name = x.name) : attrsB (l ++ [x]) = true := by
  have ha : AttrsOk l := by unfold attrsB at h; simpa using h
  refine attrsB_t ⟨by rw [List.length_append]; show _ + 1 ≤ 6; omega, fun j hj hlt => ?_, fun i j hi hj hlt => ?_⟩
  · by_cases hjl : j < l.length
    · rw [List.getElem_append_left hjl]
      exact ha.2.1 j hjl hjl
    · rw [List.getElem_append_right (by omega)]
      have : j - l.length = 0 := by rw [List.length_append] at hj; have : [x].length = 1 := rfl; omega
      simp only [this, List.getElem_cons_zero]
      exact hx
  · by_cases hil : i < l.length
    · rw [List.getElem_append_left hil, List.getElem_append_left (show j < l.length by omega)]
      exact ha.2.2 i j hil hj hil
    · have e0 : i - l.length = 0 := by rw [List.length_append] at hi; have : [x].length = 1 := rfl; omega
      have hjl : j < l.length := by rw [List.length_append] at hi; have : [x].length = 1 := rfl; omega
      have e1 : (l ++ [x])[i] = x := by
        rw [List.getElem_append_right (by omega)]
        simp only [e0, List.getElem_cons_zero]
      have e2 : (l ++ [x])[j] = l[j] := List.getElem_append_left hjl
      rw [e1, e2]
      exact hno _ (List.getElem_mem hjl)

theorem more_tree (hT : TreeP ts) (h : ts[k]? = some t) (hne : ¬ t.name.size = 0) (h5 : t.attrs.length ≤ 5) (hx : atOk x) (hno : ∀ y ∈ t.attrs, ¬ y.name = x.name) : TreeP (moreT ts k t x) := by
  refine ⟨by rw [more_len]; exact hT.1, by rw [more_len]; exact hT.2.1, by rw [more_par h]; exact hT.2.2.1, more_el h hT.2.2.2.1, fun i hi => ?_⟩
  have hi' : i < ts.length := by rw [more_len] at hi; exact hi
  obtain ⟨⟨_, n1⟩, n2, n3, n4⟩ := hT.2.2.2.2 i hi'
  refine ⟨⟨hi, ?_⟩, ?_, by rw [more_chain h]; exact n3, ?_⟩
  · by_cases e : i = k
    · subst e
      have e1 : (moreT ts i t x)[i] = ⟨t.kind, t.name, t.attrs ++ [x], t.text⟩ := by
        have := more_at (x := x) h
        rw [List.getElem?_eq_getElem hi] at this
        exact Option.some.inj this
      have e2 : ts[i] = t := by
        rw [List.getElem?_eq_getElem hi'] at h
        exact Option.some.inj h
      rw [e2, nodeB_el hne] at n1
      rw [e1, nodeB_el (t := ⟨t.kind, t.name, t.attrs ++ [x], t.text⟩) hne]
      simp only [Bool.and_eq_true] at n1 ⊢
      exact ⟨n1.1, more_ok n1.2.1 h5 hx hno, n1.2.2⟩
    · have e1 : (moreT ts k t x)[i] = ts[i] := by
        have := more_ne (ts := ts) (t := t) (x := x) e
        rw [List.getElem?_eq_getElem hi, List.getElem?_eq_getElem hi'] at this
        exact Option.some.inj this
      rw [e1]
      exact n1
  · rcases n2 with n2 | ⟨p, p1, p2, p3⟩
    · exact .inl n2
    · exact .inr ⟨p, by rw [more_chain h]; exact p1, by rw [more_par h]; exact p2, more_el h p3⟩
  · rintro ⟨g1, g2, g3, g4, g5⟩
    have hm : i - 1 < (moreT ts k t x).length := by omega
    have a1 := more_name (x := x) h hi' g1
    have a2 := more_name (x := x) h (show i - 1 < ts.length by omega) hm
    refine n4 ⟨hi', g2, ?_, ?_, ?_⟩
    · rw [← a1.1]; exact g3
    · rw [← a2.1]; exact g4
    · rw [← a2.2, ← a1.2]; exact g5

theorem more_out (hT : TreeP ts) (h : ts[k]? = some t) : ∃ R, outAts ts k = t.attrs ++ R ∧ outAts (moreT ts k t x) k = (t.attrs ++ [x]) ++ R := by
  have hkl : k < ts.length := by
    rcases Nat.lt_or_ge k ts.length with h' | h'
    · exact h'
    · rw [List.getElem?_eq_none h'] at h; cases h
  have hL := linked_all (ts := ts) k (fun j hj => (hT.2.2.2.2 j (by omega)).2.1)
  obtain ⟨r, e⟩ := chain_head ts k
  rw [e] at hL
  have hlt : ∀ j ∈ r, j < k := by
    intro j hj
    match r, hL.1, hj with
    | y :: r', hl, hj =>
      have h1 := hl.2.1
      have h2 := hl.tail.le j hj
      omega
  refine ⟨upAts ts r, ?_, ?_⟩
  · unfold outAts
    rw [e]
    unfold upAts
    rw [List.flatMap_cons, h]
  · unfold outAts
    rw [more_chain h, e]
    unfold upAts
    rw [List.flatMap_cons, more_at h]
    congr 1
    unfold List.flatMap
    congr 1
    refine List.map_congr_left fun j hj => ?_
    rw [more_ne (show ¬ j = k by have := hlt j hj; omega)]

/-- One more declaration further in hides what is around. -/
theorem more_mean (hT : TreeP ts) (h : ts[k]? = some t) {p : ByteArray} (hp : prefS p) (hno : t.attrs.find? (declB p) = none) (hs : (meanF ts k p).isSome = true) : meanF (moreT ts k t ⟨nmP p, freshS⟩) k p = some freshS := by
  obtain ⟨R, e1, e2⟩ := more_out (x := ⟨nmP p, freshS⟩) hT h
  have hr : (outAts ts k).all rightB = true := by
    cases hr : (outAts ts k).all rightB with
    | true => rfl
    | false => rw [meanF_out, meanL_not p hr] at hs; cases hs
  have hx : rightB ⟨nmP p, freshS⟩ = true := by
    unfold rightB
    rw [nmP_decl hp]
    rcases hp with rfl | rfl | rfl | rfl <;> decide +kernel
  have hr2 : (outAts (moreT ts k t ⟨nmP p, freshS⟩) k).all rightB = true := by
    rw [e1, List.all_append, Bool.and_eq_true] at hr
    rw [e2, List.all_append, List.all_append, hr.1, hr.2]
    simp [hx]
  have hd : declB p ⟨nmP p, freshS⟩ = true := by
    unfold declB
    rw [decide_eq_true_eq]
    exact nmP_decl hp
  rw [meanF_out, meanL_look p hr2, e2]
  unfold lookL
  rw [List.find?_append, List.find?_append, hno]
  simp [hd]

/-- The first that declares it here tells it. -/
theorem mean_here (hT : TreeP ts) (h : ts[k]? = some t) {p : ByteArray} {i : Nat} (hi : i < t.attrs.length) (h0 : (t.attrs.take i).find? (declB p) = none) (h1 : declB p t.attrs[i] = true) (hs : (meanF ts k p).isSome = true) : meanF ts k p = some t.attrs[i].value := by
  obtain ⟨R, e1, _⟩ := more_out (x := ⟨⟨#[]⟩, ⟨#[]⟩⟩) hT h
  have hr : (outAts ts k).all rightB = true := by
    cases hr : (outAts ts k).all rightB with
    | true => rfl
    | false => rw [meanF_out, meanL_not p hr] at hs; cases hs
  rw [meanF_out, meanL_look p hr, e1]
  exact lookL_hit hi h0 h1

/-- The attrs of an element of a tree. -/
theorem tree_attrs (hT : TreeP ts) (h : ts[k]? = some t) (hne : ¬ t.name.size = 0) : AttrsOk t.attrs := by
  have hkl : k < ts.length := by
    rcases Nat.lt_or_ge k ts.length with h' | h'
    · exact h'
    · rw [List.getElem?_eq_none h'] at h; cases h
  obtain ⟨⟨_, n1⟩, _⟩ := hT.2.2.2.2 k hkl
  rw [List.getElem?_eq_getElem hkl] at h
  rw [Option.some.inj h, nodeB_el hne] at n1
  simp only [Bool.and_eq_true] at n1
  have := n1.2.1
  unfold attrsB at this
  simpa using this

theorem fresh_ok {p : ByteArray} (hp : prefS p) : atOk ⟨nmP p, freshS⟩ := ⟨nmP_name hp, (show plainL freshS.data.toList = true by decide +kernel), (show freshS.size ≤ 60 by decide)⟩

end

end Go.Proofs.YtkejmifkjgpdjaaGreat

namespace Go.Proofs.YtkejmifkjgpdjaaGreat
open Go.RowKit
set_option linter.unusedVariables false

/-- A prefix: none, or one to ten letters. -/
def PreOk (p : ByteArray) : Prop := p.size = 0 ∨ lettersL p.data.toList = true

theorem preS_ok (s : ByteArray) : PreOk (preS s) := by
  unfold PreOk preS partP
  by_cases h : nameL s.data.toList = true
  · rw [if_pos h]
    unfold nameL at h
    unfold preL at h ⊢
    cases hc : colonAt s.data.toList with
    | none => exact .inl rfl
    | some a =>
      rw [hc] at h
      simp only [Bool.and_eq_true] at h
      exact .inr h.1
  · rw [if_neg h]
    exact .inl rfl

theorem preOk_sz {p : ByteArray} (h : PreOk p) : p.size ≤ 10 := by
  rcases h with h | h
  · omega
  · unfold lettersL at h
    simp only [Bool.and_eq_true, decide_eq_true_eq] at h
    exact h.1.2

theorem colon_ns {l : List UInt8} : colonAt (110 :: 115 :: 58 :: l) = some 2 := by
  unfold colonAt
  rfl

theorem nmD_decl {p : ByteArray} (hp : PreOk p) (m : ByteArray) : declF ⟨nmD p, m⟩ = some p := by
  by_cases h0 : p.size = 0
  · have e : nmD p = nsS := by unfold nmD; rw [if_pos h0]; rfl
    unfold declF
    rw [if_pos e, empty_of p h0]
  · have hl : lettersL p.data.toList = true := hp.resolve_left h0
    have e : nmD p = (⟨#[110, 115, 58]⟩ : ByteArray) ++ p := by unfold nmD; rw [if_neg h0]
    have el : ((⟨#[110, 115, 58]⟩ : ByteArray) ++ p).data.toList = 110 :: 115 :: 58 :: p.data.toList := by
      rw [ByteArray.data_append, Array.toList_append]
      rfl
    have hn : nameL ((⟨#[110, 115, 58]⟩ : ByteArray) ++ p).data.toList = true := by
      unfold nameL preL locL
      rw [el, colon_ns]
      simp only [List.drop_succ_cons, List.drop_zero, hl, Bool.and_true]
      rfl
    have h1 : preS ((⟨#[110, 115, 58]⟩ : ByteArray) ++ p) = nsS := by
      unfold preS partP
      rw [if_pos hn]
      unfold preL
      rw [el, colon_ns]
      rfl
    have h2 : locS ((⟨#[110, 115, 58]⟩ : ByteArray) ++ p) = p := by
      unfold locS partL
      rw [if_pos hn]
      unfold locL
      rw [el, colon_ns]
      rfl
    unfold declF
    rw [e]
    have h3 : ¬ ((⟨#[110, 115, 58]⟩ : ByteArray) ++ p) = nsS := by
      intro q
      have := congrArg ByteArray.size q
      rw [ByteArray.size_append] at this
      have e3 : (⟨#[110, 115, 58]⟩ : ByteArray).size = 3 := rfl
      have e2 : nsS.size = 2 := rfl
      omega
    rw [if_neg h3, if_pos h1, h2]

/-- What was said, as the specification and as the program keep it. -/
def SaidR (l2 sd : List At) : Prop := ∀ p, PreOk p → lookL l2 p = match lastF sd p with | some x => some x | none => if p.size = 0 then some ⟨#[]⟩ else none

theorem saidR_nil : SaidR [] [] := fun p _ => rfl

theorem last_snoc (sd : List At) (x : At) (q : ByteArray) : lastF (sd ++ [x]) q = (if x.name = q then some x.value else lastF sd q) := by
  unfold lastF
  rw [List.reverse_append]
  simp only [List.reverse_cons, List.reverse_nil, List.nil_append, List.singleton_append, List.find?_cons]
  by_cases h : x.name = q
  · simp [h]
  · simp [h]

theorem last_app {sd ad : List At} {q : ByteArray} (h : ∀ x ∈ ad, ¬ x.name = q) : lastF (sd ++ ad) q = lastF sd q := by
  induction ad generalizing sd with
  | nil => rw [List.append_nil]
  | cons x ad ih =>
    rw [show sd ++ x :: ad = (sd ++ [x]) ++ ad by simp, ih (fun y hy => h y (by simp [hy])), last_snoc, if_neg (h x (by simp))]

theorem skip_more {sd : List At} {x : At} {q m : ByteArray} (h : ¬ x.name = q) : skipB (sd ++ [x]) q m = skipB sd q m := by
  unfold skipB
  rw [last_snoc, if_neg h]

/-- Those that are written. -/
noncomputable def newF (ts : List Tk) (k : Nat) (sd : List At) (ps : List ByteArray) : List ByteArray := ps.filter fun p => !skipB sd p (mnF ts k p)

theorem dcl_flat (ts : List Tk) (k : Nat) : ∀ (ps : List ByteArray) (sd : List At) (s : ByteArray), ps.Nodup → dclL ts k sd s ps = (sd ++ (newF ts k sd ps).map (fun p => ⟨p, mnF ts k p⟩), (newF ts k sd ps).foldl (fun s p => dclS s p (mnF ts k p)) s)
  | [], sd, s, _ => by simp [dclL, newF]
  | p :: ps, sd, s, h => by
    obtain ⟨h1, h2⟩ := List.nodup_cons.1 h
    have e : dclL ts k sd s (p :: ps) = dclL ts k (dclF ts k (sd, s) p).1 (dclF ts k (sd, s) p).2 ps := rfl
    rw [e]
    unfold dclF
    simp only
    cases hq : skipB sd p (mnF ts k p) with
    | true =>
      simp only [if_true]
      rw [dcl_flat ts k ps sd s h2]
      have e2 : newF ts k sd (p :: ps) = newF ts k sd ps := by unfold newF; rw [List.filter_cons, if_neg (by rw [hq]; decide)]
      rw [e2]
    | false =>
      simp only [Bool.false_eq_true, if_false]
      rw [dcl_flat ts k ps _ _ h2]
      have e3 : newF ts k (sd ++ [⟨p, mnF ts k p⟩]) ps = newF ts k sd ps := by
        unfold newF
        refine List.filter_congr fun q hq2 => ?_
        rw [skip_more (fun (e : p = q) => h1 (by rw [e]; exact hq2))]
      have e2 : newF ts k sd (p :: ps) = p :: newF ts k sd ps := by unfold newF; rw [List.filter_cons, if_pos (by rw [hq]; rfl)]
      rw [e2, e3]
      simp

theorem need_skip {ts : List Tk} {k : Nat} {l2 sd : List At} (hr : (outAts ts k).all rightB = true) (hS : SaidR l2 sd) {p : ByteArray} (hp : PreOk p) : needB (outAts ts k) l2 p = !skipB sd p (mnF ts k p) := by
  unfold needB skipB mnF
  rw [meanF_look hr, hS p hp]
  generalize (lookL (outAts ts k) p).getD ⟨#[]⟩ = m
  cases hl : lastF sd p with
  | some x => simp
  | none =>
    by_cases h0 : p.size = 0
    · simp only [h0, if_true]
      by_cases hm : m.size = 0
      · rw [empty_of m hm]
        simp
        rfl
      · have : ¬ (⟨#[]⟩ : ByteArray) = m := fun e => hm (by rw [← e]; rfl)
        simp only [Option.isSome_some, Option.getD_some, Bool.not_true, Bool.false_or, decide_eq_false this, decide_eq_false hm, decide_true, Bool.and_false]
    · simp [h0]

/-- What is shown of a declaration is what the specification writes. -/
theorem esc_mean {m : ByteArray} (h : m.data.toList.all (fun c => sgnS.data.toList.any fun d => decide (d = c)) = true) : escS true m = m := by
  have one : ∀ c : UInt8, (sgnS.data.toList.any fun d => decide (d = c)) = true → plainB c.toNat = true ∧ escB true c = [c] := by
    have key : ∀ n : Fin 256, (sgnS.data.toList.any fun d => decide (d = UInt8.ofNat n.val)) = true → plainB (UInt8.ofNat n.val).toNat = true ∧ escB true (UInt8.ofNat n.val) = [UInt8.ofNat n.val] := by decide +kernel
    intro c hc
    have e : UInt8.ofNat c.toNat = c := by simp
    have := key ⟨c.toNat, c.toNat_lt⟩
    simp only [e] at this
    exact this hc
  have hp : plainL m.data.toList = true := by
    unfold plainL
    rw [List.all_eq_true] at h ⊢
    exact fun c hc => (one c (h c hc)).1
  have he : ∀ l : List UInt8, l.all (fun c => sgnS.data.toList.any fun d => decide (d = c)) = true → escL true l = l := by
    intro l
    induction l with
    | nil => intro _; rfl
    | cons c l ih =>
      intro hl
      rw [List.all_cons, Bool.and_eq_true] at hl
      show escB true c ++ escL true l = c :: l
      rw [(one c hl.1).2, ih hl.2]
      rfl
  unfold escS escapedL
  rw [if_pos hp, he _ h]

theorem mean_signs {ts : List Tk} {k : Nat} (hr : (outAts ts k).all rightB = true) (p : ByteArray) : (mnF ts k p).data.toList.all (fun c => sgnS.data.toList.any fun d => decide (d = c)) = true := by
  unfold mnF
  rw [meanF_look hr]
  unfold lookL
  cases hf : (outAts ts k).find? (declB p) with
  | none =>
    simp only
    split <;> rfl
  | some x =>
    have h1 := List.mem_of_find?_eq_some hf
    have h2 := List.find?_some hf
    have h3 := List.all_eq_true.1 hr x h1
    unfold declB at h2
    rw [decide_eq_true_eq] at h2
    unfold rightB at h3
    rw [h2] at h3
    simp only [Bool.and_eq_true] at h3
    have h4 := h3.1
    unfold ofB at h4
    rw [Bool.and_eq_true] at h4
    exact h4.1

theorem dclS_at {s p m : ByteArray} (h : escS true m = m) : dclS s p m = s ++ atS ⟨nmD p, m⟩ := by
  unfold dclS atS
  simp only [h]
  apply ByteArray.ext
  simp only [ByteArray.data_append, Array.append_assoc]

theorem fold_dcl {ts : List Tk} {k : Nat} (hr : (outAts ts k).all rightB = true) : ∀ (F : List ByteArray) (s : ByteArray), F.foldl (fun s p => dclS s p (mnF ts k p)) s = atsS (F.map fun p => ⟨nmD p, mnF ts k p⟩) s
  | [], s => rfl
  | p :: F, s => by
    rw [List.foldl_cons, List.map_cons, dclS_at (esc_mean (mean_signs hr p)), fold_dcl hr F]
    rfl

/-- What is said further in. -/
theorem SaidR.next {ts : List Tk} {k : Nat} {l2 sd : List At} (hS : SaidR l2 sd) {F : List ByteArray} (hF : F.Nodup) (hp : ∀ p ∈ F, PreOk p) : SaidR ((F.map fun p => (⟨nmD p, mnF ts k p⟩ : At)) ++ l2) (sd ++ F.map fun p => ⟨p, mnF ts k p⟩) := by
  induction F generalizing l2 sd with
  | nil => simpa using hS
  | cons p F ih =>
    obtain ⟨h1, h2⟩ := List.nodup_cons.1 hF
    intro q hq
    by_cases e : q = p
    · subst e
      have hd : declB q ⟨nmD q, mnF ts k q⟩ = true := by unfold declB; rw [nmD_decl hq]; simp
      have e1 : lookL (((q :: F).map fun p => (⟨nmD p, mnF ts k p⟩ : At)) ++ l2) q = some (mnF ts k q) := by
        unfold lookL
        rw [List.map_cons, List.cons_append, List.find?_cons, hd]
      have e2 : lastF (sd ++ (q :: F).map fun p => (⟨p, mnF ts k p⟩ : At)) q = some (mnF ts k q) := by
        rw [List.map_cons, show ∀ (a : At) (l : List At), sd ++ a :: l = (sd ++ [a]) ++ l from fun a l => by simp, last_app (fun x hx => ?_), last_snoc, if_pos rfl]
        obtain ⟨z, hz, rfl⟩ := List.mem_map.1 hx
        exact fun e => h1 (by rw [← e]; exact hz)
      rw [e1, e2]
    · have hd : declB q ⟨nmD p, mnF ts k p⟩ = false := by
        unfold declB
        rw [nmD_decl (hp p (by simp))]
        simp [Ne.symm e]
      have e1 : lookL (((p :: F).map fun p => (⟨nmD p, mnF ts k p⟩ : At)) ++ l2) q = lookL ((F.map fun p => (⟨nmD p, mnF ts k p⟩ : At)) ++ l2) q := by
        unfold lookL
        rw [List.map_cons, List.cons_append, List.find?_cons, hd]
      have e2 : lastF (sd ++ (p :: F).map fun p => (⟨p, mnF ts k p⟩ : At)) q = lastF (sd ++ F.map fun p => (⟨p, mnF ts k p⟩ : At)) q := by
        have key : ∀ (l : List At) (sd : List At), lastF ((sd ++ [⟨p, mnF ts k p⟩]) ++ l) q = lastF (sd ++ l) q := by
          intro l
          induction l using List.reverseRecOn' with
          | nil => intro sd; rw [List.append_nil, List.append_nil, last_snoc, if_neg (fun h => e h.symm)]
          | snoc l x ih2 => intro sd; rw [← List.append_assoc, ← List.append_assoc, last_snoc, last_snoc, ih2]
        rw [List.map_cons, show ∀ (a : At) (l : List At), sd ++ a :: l = (sd ++ [a]) ++ l from fun a l => by simp, key]
      rw [e1, e2]
      exact ih hS h2 (fun z hz => hp z (by simp [hz])) q hq
where
  List.reverseRecOn' {α : Type} {motive : List α → Prop} (l : List α) (nil : motive []) (snoc : ∀ l x, motive l → motive (l ++ [x])) : motive l := by
    rw [← List.reverse_reverse l]
    induction l.reverse with
    | nil => exact nil
    | cons x r ih => rw [List.reverse_cons]; exact snoc _ _ ih

theorem lt_ahead {ts : List Tk} {k : Nat} (hr : (outAts ts k).all rightB = true) : ltA (outAts ts k) = aheadF ts k := by
  funext x y
  unfold ltA cmpA
  rw [mnL_mean hr, mnL_mean hr]
  exact cmpN_ahead

theorem oth_sort (ts : List Tk) (k : Nat) (l : List At) : othL ts k l = sortG (aheadF ts k) (l.filter nodeclB) := by
  unfold othL sortG
  have key : ∀ (l m : List At), l.foldl (accB ts k) m = (l.filter nodeclB).foldl (insG (aheadF ts k)) m := by
    intro l
    induction l with
    | nil => intro m; rfl
    | cons x l ih =>
      intro m
      rw [List.foldl_cons, List.filter_cons]
      cases hq : nodeclB x with
      | true =>
        have h1 : (declF x).isSome = false := by unfold nodeclB at hq; simpa using hq
        rw [if_pos rfl, List.foldl_cons, accB_put h1, ih]
        rfl
      | false =>
        have h1 : (declF x).isSome = true := by unfold nodeclB at hq; simpa using hq
        rw [if_neg Bool.false_ne_true, accB_no h1, ih]
  exact key l []

/-- It is another one. -/
def notB (but : Int) (j : Nat) : Bool := !decide ((j : Int) = but)

theorem fold_cat (g : Nat → ByteArray) (but : Int) (l : List Nat) (s : ByteArray) (hb : ∀ j : Nat, (j : Int) = but → g j = ⟨#[]⟩) : l.foldl (fun s j => s ++ g j) s = s ++ catL ((l.filter (notB but)).map g) := by
  have app_nil : ∀ s : ByteArray, s ++ (⟨#[]⟩ : ByteArray) = s := fun s => by apply ByteArray.ext; simp [ByteArray.data_append]
  have cat_from : ∀ (ss : List ByteArray) (s : ByteArray), ss.foldl (fun s x => s ++ x) s = s ++ catL ss := by
    intro ss
    induction ss with
    | nil => intro s; exact (app_nil s).symm
    | cons x ss ih =>
      intro s
      unfold catL
      rw [List.foldl_cons, List.foldl_cons, ih, ih (⟨#[]⟩ ++ x)]
      apply ByteArray.ext
      simp [ByteArray.data_append, Array.append_assoc]
  induction l generalizing s with
  | nil => exact (app_nil s).symm
  | cons j l ih =>
    rw [List.foldl_cons, ih, List.filter_cons]
    by_cases h : (j : Int) = but
    · rw [hb j h, if_neg (by unfold notB; rw [decide_eq_true h]; decide), app_nil]
    · rw [if_pos (by unfold notB; rw [decide_eq_false h]; rfl), List.map_cons]
      conv => rhs; unfold catL
      rw [List.foldl_cons, cat_from]
      apply ByteArray.ext
      simp [ByteArray.data_append, Array.append_assoc]

/-- What is written of an element. -/
structure ElIs (ts : List Tk) (but : Int) (f k : Nat) (sd l2 : List At) (t : Tk) (O D : List At) (ss : List ByteArray) : Prop where
  text : canonN ts but (f + 1) k sd = elS t.name D O ss
  said : SaidR (D ++ l2) (saidL ts k sd t)
  osz : AtSz 1048576 O
  olen : O.length ≤ 6
  dsz : AtSz 1048576 D
  dlen : D.length ≤ 7
  psz : ∀ p ∈ needL t.name O, p.size ≤ 1048576
  plen : (needL t.name O).length ≤ 12

theorem el_is {ts : List Tk} {but : Int} {f k : Nat} {sd l2 : List At} {t : Tk} (hT : TreeP ts) (hz : TksSz 1048576 ts) (ht : nodeAt ts k = t) (hb : ¬ (k : Int) = but) (hne : ¬ t.name.size = 0) (hr : (outAts ts k).all rightB = true) (hS : SaidR l2 sd) {O D : List At} {ss : List ByteArray}
    (hO : sortG (ltA (outAts ts k)) (t.attrs.filter nodeclB) = O) (hD : dclP (outAts ts k) l2 (needL t.name O) = D) (hss : ((kidsN ts k).filter (notB but)).map (fun j => canonN ts but f j (saidL ts k sd t)) = ss) :
    ElIs ts but f k sd l2 t O D ss := by
  have hsz : TkSz 1048576 t := by rw [← ht]; exact nodeAt_sz hz k
  have h6 : t.attrs.length ≤ 6 := by rw [← ht]; exact six_at hT k (by rw [ht]; exact hne)
  have eO : othL ts k t.attrs = O := by rw [oth_sort, ← lt_ahead hr]; exact hO
  have hmO : ∀ x, x ∈ O ↔ x ∈ t.attrs.filter fun x => !(declF x).isSome := by
    intro x
    rw [← hO]
    exact (sort_all (by rw [lt_ahead hr]; exact ahead_ord ts k) _).2.2 x
  have hP : needL t.name O = preL7 t.name t.attrs := need_is hmO
  obtain ⟨c1, c2⟩ := pre_strict t.name t.attrs
  have hnd : (preL7 t.name t.attrs).Nodup := c1.imp fun {a b} h e => by rw [e, ltB_irr] at h; cases h
  have hok : ∀ p ∈ preL7 t.name t.attrs, PreOk p := fun p hp => by
    rcases (c2 p).1 hp with rfl | ⟨x, _, _, rfl⟩
    · exact preS_ok _
    · exact preS_ok _
  obtain ⟨p1, p2, p3⟩ := preL7_all (nm := t.name) (b := 1048576) (preS_sz hsz.1) t.attrs (fun x hx => preS_sz (hsz.2.2.1 x hx).1)
  obtain ⟨o1, o2⟩ := othL_all (ts := ts) (k := k) t.attrs
  have eN : (preL7 t.name t.attrs).filter (needB (outAts ts k) l2) = newF ts k sd (preL7 t.name t.attrs) := by
    unfold newF
    exact List.filter_congr fun p hp => need_skip hr hS (hok p hp)
  have eD : D = (newF ts k sd (preL7 t.name t.attrs)).map fun p => ⟨nmD p, mnF ts k p⟩ := by
    rw [← hD, hP]
    unfold dclP
    rw [eN]
    refine List.map_congr_left fun p _ => ?_
    unfold mnF
    rw [meanF_look hr]
  have hfl := dcl_flat ts k (preL7 t.name t.attrs) sd ((⟨#[60]⟩ : ByteArray) ++ t.name) hnd
  have hnF : (newF ts k sd (preL7 t.name t.attrs)).Nodup := hnd.filter _
  have hokF : ∀ p ∈ newF ts k sd (preL7 t.name t.attrs), PreOk p := fun p hp => hok p (List.mem_filter.1 hp).1
  refine ⟨?_, ?_, ?_, ?_, ?_, ?_, ?_, ?_⟩
  · rw [canonN_el ht hb hne, fold_cat _ but _ _ (fun j hj => by
      cases f with
      | zero => rfl
      | succ f' => exact canonN_but hj), hss]
    unfold headS elS
    rw [hfl, eO]
    simp only
    rw [fold_dcl hr, ← eD, atsS_app O, atsS_app D]
  · unfold saidL
    rw [hfl, eD]
    exact hS.next hnF hokF
  · intro x hx
    rw [← eO] at hx
    exact hsz.2.2.1 x (o2 x hx)
  · rw [← eO]; omega
  · intro x hx
    rw [eD] at hx
    obtain ⟨p, hp, rfl⟩ := List.mem_map.1 hx
    have := preOk_sz (hokF p hp)
    have h2 := nmD_size p
    exact ⟨by show (nmD p).size ≤ _; omega, meanF_sz hz p⟩
  · rw [eD, List.length_map]
    have := List.length_filter_le (fun p => !skipB sd p (mnF ts k p)) (preL7 t.name t.attrs)
    unfold newF
    omega
  · rw [hP]; exact p3
  · rw [hP]; omega

end Go.Proofs.YtkejmifkjgpdjaaGreat

namespace Go.Proofs.YtkejmifkjgpdjaaGreat
open Go.RowKit
set_option linter.unusedVariables false
set_option linter.unusedSimpArgs false

/-- What node answers, with so much room. -/
def NodeC (ts : List Tk) (a : Option Addr) (cap : Nat) (but : Int) (f : Nat) : Prop :=
  ∀ (k : Nat) (sd l2 pl : List At) (F F2 : FuncId) (C C2 : Array Value) (w : World), TkRow w a ts → k < ts.length → ts.length ≤ f + k → ¬ (k : Int) = but → outAts ts k = (nodeAt ts k).attrs ++ pl → SaidR l2 sd → Asks F C w pl → Asks F2 C2 w l2 →
    Calls Tryz.prog 59 #[.agg #[.slice a ts.length cap, .int .i64 but], .int .i64 (k : Int), .func (.func F) #[] C, .func (.func F2) #[] C2] w fun e w' =>
      ∃ v, e = .returned v ∧ ShAt (fun g => w.heap.size ≤ g) w' f v (canonN ts but f k sd) ∧ Below w.heap.size w w'

/-- A row of shapes of one's own; none of them lies in the row's own block. -/
def ShRow (w : World) (B f : Nat) (a : Option Addr) (c : Nat) (ss : List ByteArray) : Prop := ∃ us : List Value, us.length = ss.length ∧ w.ownsRow B 91 1 (.slice a ss.length c) ss.length us ∧
  ∀ i (h : i < ss.length) u, us[i]? = some u → ShAt (fun g => B ≤ g ∧ ¬ (Value.slice a ss.length c).ownBlock = some g) w f u ss[i]

theorem ShRow.nil (w : World) (B f : Nat) : ShRow w B f none 0 [] := ⟨[], rfl, World.ownsRow_nil _ _ _ _, fun i h => absurd h (Nat.not_lt_zero _)⟩

theorem ShRow.below {w w' : World} {B f : Nat} {a : Option Addr} {c : Nat} {ss : List ByteArray} (h : ShRow w B f a c ss) (hb : Below w.heap.size w w') : ShRow w' B f a c ss := by
  obtain ⟨us, h1, h2, h3⟩ := h
  exact ⟨us, h1, ownsRow_below h2 hb, fun i hi u hu => (h3 i hi u hu).below hb⟩

theorem ShAt.cell {X : Nat → Prop} {w : World} {f : Nat} {v : Value} {s : ByteArray} (h : ShAt X w f v s) : v.oneCell' = true := by
  cases f with
  | zero => exact h.elim
  | succ f =>
    obtain ⟨_, ⟨t, rfl, _⟩ | ⟨_, _, _, _, _, _, _, _, _, _, rfl, _⟩⟩ := h <;> rfl

theorem ShAt.face {X : Nat → Prop} {w : World} {f : Nat} {v : Value} {s : ByteArray} (h : ShAt X w f v s) : ∃ T x, v = .iface T x := by
  cases f with
  | zero => exact h.elim
  | succ f =>
    obtain ⟨_, ⟨t, rfl, _⟩ | ⟨_, _, _, _, _, _, _, _, _, _, rfl, _⟩⟩ := h
    · exact ⟨_, _, rfl⟩
    · exact ⟨_, _, rfl⟩

theorem ShRow.kids {w : World} {B f : Nat} {a : Option Addr} {c : Nat} {ss : List ByteArray} (h : ShRow w B f a c ss) : KidsAt (fun g => B ≤ g) w f a ss := by
  obtain ⟨us, h1, h2, h3⟩ := h
  intro i hi
  rcases h2.2 with ⟨_, h0⟩ | ⟨g, cap, cur, e, q1, q2, q3, q4, q5, q6⟩
  · omega
  · injection e with e1 e2 e3
    subst e1
    have hu : us[i]? = some us[i] := List.getElem?_eq_getElem (by omega)
    have hc := World.ownsRow.cellAt h2 i (by omega)
    refine ⟨g, 0, us[i], rfl, q1, lt_of_heap q2, by rw [Nat.zero_add, hc]; exact hu, (h3 i hi _ hu).keep (fun _ _ h => h.1) (Nat.le_refl _) (fun _ _ _ => rfl)⟩

theorem ShRow.more {W w' : World} {B f : Nat} {a : Option Addr} {c : Nat} {ss : List ByteArray} {us : List Value} {u v' : Value} {s : ByteArray} (h1 : us.length = ss.length) (h3 : ∀ i (h : i < ss.length) u, us[i]? = some u → ShAt (fun g => B ≤ g ∧ ¬ (Value.slice a ss.length c).ownBlock = some g) W f u ss[i])
    (hu : ShAt (fun g => B ≤ g ∧ ¬ (Value.slice a ss.length c).ownBlock = some g) W f u s) (hown : w'.ownsRow B 91 1 v' (ss.length + 1) (us ++ [u])) (hg : W.grownBy w' (Value.slice a ss.length c).ownBlock) (hat : v'.ownBlock = (Value.slice a ss.length c).ownBlock ∨ v'.ownBlock = some W.heap.size) :
    ∃ a' c', v' = .slice a' (ss ++ [s]).length c' ∧ ShRow w' B f a' c' (ss ++ [s]) := by
  have e2 : (ss ++ [s]).length = ss.length + 1 := by simp
  have keepA : ∀ {x : Value} {y : ByteArray}, ShAt (fun g => B ≤ g ∧ ¬ (Value.slice a ss.length c).ownBlock = some g) W f x y → ShAt (fun g => B ≤ g ∧ ¬ v'.ownBlock = some g) w' f x y := fun h =>
    h.keep (fun g hg2 hX => ⟨hX.1, fun e => by
      rcases hat with q | q
      · exact hX.2 (q ▸ e)
      · rw [q] at e; injection e with e; omega⟩) hg.size (fun g hg2 hX => hg.block g hg2 (fun e => hX.2 e.symm))
  rcases hown.2 with ⟨_, h0⟩ | ⟨g, c', cu, hv, hr⟩
  · omega
  · refine ⟨some ⟨g, 0, none⟩, c', by rw [e2]; exact hv, us ++ [u], by simp [h1], by rw [e2, ← hv]; exact hown, fun i hi x hx => ?_⟩
    rw [e2, ← hv]
    by_cases hl : i < ss.length
    · rw [List.getElem?_append_left (by omega)] at hx
      rw [List.getElem_append_left hl]
      exact keepA (h3 i hl x hx)
    · have hi' : i = ss.length := by rw [e2] at hi; omega
      subst hi'
      rw [List.getElem?_append_right (by omega), h1, Nat.sub_self] at hx
      cases hx
      simp only [List.getElem_append_right (Nat.le_refl _), Nat.sub_self, List.getElem_cons_zero]
      exact keepA hu

noncomputable def kidSS (ts : List Tk) (but : Int) (f : Nat) (sd : List At) (l : List Nat) : List ByteArray := (l.filter (notB but)).map fun j => canonN ts but f j sd

theorem kidSS_next (ts : List Tk) (but : Int) (f : Nat) (sd : List At) {l : List Nat} {i : Nat} (h : i < l.length) : kidSS ts but f sd (l.take (i + 1)) = kidSS ts but f sd (l.take i) ++ (if ((l[i] : Nat) : Int) = but then [] else [canonN ts but f l[i] sd]) := by
  unfold kidSS
  rw [take_snocN h, List.filter_append, List.map_append]
  congr 1
  by_cases hq : ((l[i] : Nat) : Int) = but
  · rw [if_pos hq, List.filter_cons, if_neg (by unfold notB; rw [decide_eq_true hq]; decide)]
    rfl
  · rw [if_neg hq, List.filter_cons, if_pos (by unfold notB; rw [decide_eq_false hq]; rfl)]
    rfl

theorem infoSh : (Tryz.prog.info? 91).map (fun i => (i.zero, i.size, i.bytes)) = some (some .nilIface, 1, 16) := by kernel_rfl

theorem kid_out {ts : List Tk} (hT : TreeP ts) {k j : Nat} (hj : j ∈ kidsN ts k) : j < ts.length ∧ k < j ∧ outAts ts j = (nodeAt ts j).attrs ++ outAts ts k := by
  have h1 := kidsN_lt hj
  have h2 := (List.mem_filter.1 hj).2
  simp only [Bool.and_eq_true, decide_eq_true_eq] at h2
  have ht : ts[j]? = some ts[j] := List.getElem?_eq_getElem h1
  obtain ⟨p, hp, hpk, _, e⟩ := outAts_up hT ht (by omega)
  have e1 : parI ts j = ts[j].kind := by unfold parI; rw [ht]
  have : p = k := by rw [← e1, h2.2] at hp; omega
  subst this
  exact ⟨h1, h2.1, by rw [nodeAt_at h1]; exact e⟩

def IntR (w : World) (a : Option Addr) (l : List Nat) : Prop := ∀ j (h : j < l.length), ∃ b o, a = some ⟨b, o, none⟩ ∧ b < w.heap.size ∧ w.cell? ⟨b, o + j, none⟩ = some (.int .i64 (l[j] : Int))

theorem has_of {ts : List Tk} {k : Nat} (hT : TreeP ts) (hk : k < ts.length) : hasB ts (k : Int) = true := by
  rw [hasB_eq rfl, treeB_t hT, decide_eq_true (by omega), decide_eq_true (by omega)]
  rfl

theorem IntR.below {w w' : World} {a : Option Addr} {l : List Nat} (h : IntR w a l) (hb : Below w.heap.size w w') : IntR w' a l := by
  intro j hj
  obtain ⟨b, o, ha, hlt, c⟩ := h j hj
  exact ⟨b, o, ha, Nat.lt_of_lt_of_le hlt hb.size, (hb.cell (p := ⟨b, o + j, none⟩) hlt).trans c⟩

theorem IntR.of {w : World} {B : Nat} {v : Value} {l : List Nat} (h : w.ownsRow B 2 1 v l.length (intC l)) : ∃ a cap, v = .slice a l.length cap ∧ IntR w a l := by
  rcases h.2 with ⟨rfl, h0⟩ | ⟨g, cap, cur, rfl, hg, hh, hn, hc, hs, ht⟩
  · have : l = [] := List.eq_nil_of_length_eq_zero h0
    subst this
    exact ⟨none, 0, rfl, fun j hj => absurd hj (Nat.not_lt_zero _)⟩
  · refine ⟨_, _, rfl, fun j hj => ⟨g, 0, rfl, lt_of_heap hh, ?_⟩⟩
    have hc := World.ownsRow.cellAt (show w.ownsRow B 2 1 (.slice (some ⟨g, 0, none⟩) l.length cap) l.length (intC l) from ⟨h.1, .inr ⟨g, cap, cur, rfl, hg, hh, hn, hc, hs, ht⟩⟩) j (by omega)
    rw [Nat.zero_add, hc]
    unfold intC
    rw [List.getElem?_map, List.getElem?_eq_getElem hj]
    rfl

set_option maxRecDepth 8000 in
set_option maxHeartbeats 4000000 in
theorem cInside (ts : List Tk) (a : Option Addr) (cap : Nat) (but : Int) (f : Nat) (CN : NodeC ts a cap but f) (hT : TreeP ts) (hz : TksSz 1048576 ts) (k : Nat) (sd l2 : List At) (F F2 : FuncId) (C C2 : Array Value) (w : World) (hR : TkRow w a ts) (hk : k < ts.length) (hf : ts.length ≤ f + k + 1) (hS : SaidR l2 sd) (hA : Asks F C w (outAts ts k)) (hA2 : Asks F2 C2 w l2) :
    Calls Tryz.prog 100 #[.agg #[.slice a ts.length cap, .int .i64 but], .int .i64 (k : Int), .func (.func F) #[] C, .func (.func F2) #[] C2] w fun e w' =>
      ∃ a3 c3, e = .returned (.slice a3 (kidSS ts but f sd (kidsN ts k)).length c3) ∧ KidsAt (fun g => w.heap.size ≤ g) w' f a3 (kidSS ts but f sd (kidsN ts k)) ∧ Below w.heap.size w w' := by
  have h50 : ts.length ≤ 50 := hT.2.1
  obtain ⟨i0, hi, hz0, hz1, hz2⟩ := info_parts infoSh
  have HI := hid (And.intro hi (And.intro hz0 (And.intro hz1 hz2)))
  clear hi hz0 hz1 hz2
  have HB0 := hid ((Below.refl w.heap.size w).alloc (Nat.le_refl _) (.cells #[.slice a ts.length cap, .int .i64 but] 93))
  have M0 := hid (heap_alloc_new w (.cells #[.slice a ts.length cap, .int .i64 but] 93))
  have CK := hid (fun wx (hb : Below w.heap.size w wx) => cKidsOfI a cap ts (k : Int) wx (hR.below hb) (by omega) hz)
  have hki : kidsI ts (k : Int) = kidsN ts k := by
    unfold kidsI
    rw [if_pos (has_of hT hk)]
    rfl
  rw [hki] at CK
  have HKM := hid (show ∀ j ∈ kidsN ts k, j < ts.length ∧ k < j ∧ outAts ts j = (nodeAt ts j).attrs ++ outAts ts k from fun j hj => kid_out hT hj)
  have HKL := hid (show (kidsN ts k).length ≤ 50 from Nat.le_trans (kidsTo_len ts k ts.length) h50)
  have CC := hid (fun (j : Nat) (hj : j ∈ kidsN ts k) (hne : ¬ (j : Int) = but) (wx : World) (hb : Below w.heap.size w wx) => CN j sd l2 (outAts ts k) F F2 C C2 wx (hR.below hb) (HKM.out j hj).1 (by have := (HKM.out j hj).2.1; omega) hne (HKM.out j hj).2.2 hS (hA.below hb) (hA2.below hb))
  have HNX := hid (fun (i : Nat) (h : i < (kidsN ts k).length) => kidSS_next ts but f sd h)
  have HSZ := hid (show kidSS ts but f sd ((kidsN ts k).take 0) = [] from rfl)
  have HLE := hid (show ∀ i, (kidSS ts but f sd ((kidsN ts k).take i)).length ≤ i from fun i => by
    unfold kidSS
    rw [List.length_map]
    have h1 := List.length_filter_le (notB but) ((kidsN ts k).take i)
    rw [List.length_take] at h1
    omega)
  have HFIN := hid (show kidSS ts but f sd ((kidsN ts k).take (kidsN ts k).length) = kidSS ts but f sd (kidsN ts k) by rw [List.take_length])
  obtain ⟨S, hS'⟩ : ∃ S, kidSS ts but f sd (kidsN ts k) = S := ⟨_, rfl⟩
  rw [hS'] at HFIN ⊢
  obtain ⟨KS, hKS⟩ : ∃ KS, kidsN ts k = KS := ⟨_, rfl⟩
  rw [hKS] at CK HKL CC HNX HSZ HLE HFIN
  clear hki HKM hKS hS' CN hz hR hS hA hA2 hT hk hf h50
  generalize ts.length = tn at *
  go_enter Tryz.func100, Tryz.ntmps100
  go_wp2_with fail
  refine (CK.out _ HB0.out).mono ?_
  rintro e w2 ⟨vk, rfl, hok, hb2⟩
  obtain ⟨ak, ck, rfl, hik⟩ := IntR.of hok
  have HIK := hid hik
  have HB2 := hid (bb HB0.out hb2)
  have M2 := hid (blk_below M0.out hb2)
  clear hok hik hb2 CK HB0 M0
  obtain ⟨n, hnn⟩ : ∃ n, KS.length = n := ⟨_, rfl⟩
  have HN := hid hnn
  have hn : n ≤ 50 := by rw [← hnn]; exact HKL.out
  rw [hnn] at HFIN ⊢
  clear hnn HKL
  go_wp2_with fail
  go_loopw [9, 17] (fun v9 v17 wr => ∃ (j : Nat) (a8 : Option Addr) (c8 : Nat) (ss : List ByteArray), v17 = .int .i64 (j : Int) ∧ j ≤ n ∧ v9 = .slice a8 ss.length c8 ∧ ss.length ≤ j ∧ Hid (ss = kidSS ts but f sd (KS.take j)) ∧ Hid (ShRow wr w2.heap.size f a8 c8 ss) ∧ Hid (Below w2.heap.size w2 wr)) (fun _ v17 _ => n - (intOf v17).toNat)
  case atStart => exact ⟨0, none, 0, [], rfl, Nat.zero_le _, rfl, Nat.zero_le _, HSZ.out.symm, ShRow.nil _ _ _, Below.refl _ _⟩
  case round =>
    obtain ⟨j, a8, c8, ss, rfl, hj, rfl, hss, HK, HSR, HB⟩ := hrel
    obtain ⟨⟨d0, d1⟩, _⟩ := box2e (blk_below M2.out HB.out)
    by_cases hjl : j < n
    · have hjt : j < KS.length := by rw [HN.out]; exact hjl
      have hjn : (j : Int) < (n : Int) := by omega
      obtain ⟨b, o, rfl, hb, c1⟩ := (HIK.out.below HB.out) j hjt
      have HTS := hid (HNX.out j hjt)
      rw [← HK.out] at HTS
      have HCJ := hid (CC.out KS[j] (List.getElem_mem hjt))
      obtain ⟨q, hq⟩ : ∃ q, KS[j] = q := ⟨_, rfl⟩
      rw [hq] at c1 HTS HCJ
      clear hq
      have HBW := hid (show Below w.heap.size w wr from HB2.out.trans (HB.out.mono HB2.out.size))
      by_cases hqb : (q : Int) = but
      · have hd : ((q : Int) != but) = false := by simp [hqb]
        have HE := hid (show ss = kidSS ts but f sd (KS.take (j + 1)) by rw [HTS.out, if_pos hqb, List.append_nil])
        clear hqb HCJ
        obtain ⟨nk, hnk⟩ : ∃ nk, ss.length = nk := ⟨_, rfl⟩
        have HNK := hid hnk
        rw [hnk] at hss ⊢
        clear hnk
        go_wp2_with fail
        go_roundw
        case rel => exact ⟨j + 1, a8, c8, ss, by go_num, by omega, by rw [HNK.out], by rw [HNK.out]; omega, HE.out, HSR.out, HB.out⟩
        case measure => simp [intOf]; omega
      · have hd : ((q : Int) != but) = true := by simp [hqb]
        have HE := hid (show ss ++ [canonN ts but f q sd] = kidSS ts but f sd (KS.take (j + 1)) by rw [HTS.out, if_neg hqb])
        have HU := hid (HCJ.out hqb wr HBW.out)
        generalize canonN ts but f q sd = y at *
        clear hqb HCJ
        obtain ⟨us, u1, u2, u3⟩ := HSR.out
        have HUS := hid u1
        have HO := hid u2
        have HU3 := hid u3
        clear u1 u2 u3 HSR
        obtain ⟨nk, hnk⟩ : ∃ nk, ss.length = nk := ⟨_, rfl⟩
        have HNK := hid hnk
        rw [hnk] at hss HO ⊢
        clear hnk
        have HLT := hid (show ∀ x, (Value.slice a8 nk c8).ownBlock = some x → x < wr.heap.size from fun x hx => (HO.out.lt x hx).2)
        go_wp2_with fail
        refine HU.out.mono ?_
        rintro e w3 ⟨vs, rfl, hvs, hb3⟩
        obtain ⟨VT, vx, rfl⟩ := hvs.face
        have HB3 := hid (bb HB.out hb3)
        have HO3 := hid (ownsRow_below HO.out hb3)
        have HB4 := hid ((Below.refl w3.heap.size w3).alloc (Nat.le_refl _) (.cells #[.iface VT vx] 91))
        have HVC := hid (show ∀ u ∈ [Value.iface VT vx], u.oneCell' = true from fun u hu => by rw [List.mem_singleton.1 hu]; exact hvs.cell)
        have HV4 := hid (show ShAt (fun g => w2.heap.size ≤ g ∧ ¬ (Value.slice a8 nk c8).ownBlock = some g) (w3.alloc (.cells #[.iface VT vx] 91)) f (.iface VT vx) y from
          hvs.keep (fun g _ hX => ⟨Nat.le_trans HB.out.size hX, fun e => by have := HLT.out g e; omega⟩) HB4.out.size (fun g hg _ => HB4.out.block g hg))
        have HU4 := hid (show ∀ i (h : i < ss.length) u, us[i]? = some u → ShAt (fun g => w2.heap.size ≤ g ∧ ¬ (Value.slice a8 ss.length c8).ownBlock = some g) (w3.alloc (.cells #[.iface VT vx] 91)) f u ss[i] from fun i h u hu => ((HU3.out i h u hu).below hb3).below HB4.out)
        have hsz := HB3.out.size
        clear hb3 hvs HU HO HU3 HLT d0 d1 c1
        go_wp2_with (at_builtin; refine wpList_append_own_at _ rfl _ _ 126 rfl w2.heap.size 91 i0 .nilIface 1 16 Tryz.underlying126 HI.out.1 HI.out.2.1 HI.out.2.2.1 HI.out.2.2.2 rfl (by decide) _ _ _ rfl (HO3.out.alloc _) ⟨w3.heap.size, 0, none⟩ 1 1 [.iface VT vx] rfl rfl (one_cell _ _ _) HVC.out (by unfold maxLen; omega) (by omega) (by simp; omega) ?_)
        intro v' w7 hown' hgrow _ hat
        have HB7 := hid ((HB3.out.alloc hsz _).grown hgrow (by simp; omega) (fun k hk => (HO3.out.lt k hk).1))
        rw [← HNK.out] at hown' hgrow hat HV4
        obtain ⟨a9, c9, rfl, ho9⟩ := ShRow.more HUS.out HU4.out HV4.out hown' hgrow (by rw [show (w3.alloc (.cells #[Value.iface VT vx] 91)).heap.size = w3.heap.size + 1 by simp]; exact hat)
        have HO9 := hid ho9
        clear hown' hgrow ho9 hat
        have HL9 := hid (show (ss ++ [y]).length ≤ j + 1 by rw [List.length_append, HNK.out]; show _ + 1 ≤ _; omega)
        generalize ss ++ [y] = ss9 at *
        go_wp2_with fail
        go_roundw
        case rel => exact ⟨j + 1, a9, c9, ss9, by go_num, by omega, rfl, HL9.out, HE.out, HO9.out, HB7.out⟩
        case measure => simp [intOf]; omega
    · have hjn : j = n := by omega
      subst hjn
      have HE := hid (show ss = S by rw [← HFIN.out]; exact HK.out)
      have HBW := hid (show Below w.heap.size w wr from HB2.out.trans (HB.out.mono HB2.out.size))
      have HKD := hid (show KidsAt (fun g => w.heap.size ≤ g) wr f a8 S from by
        rw [← HE.out]
        intro i hi
        obtain ⟨g, o, u, q1, q2, q3, q4, q5⟩ := HSR.out.kids i hi
        exact ⟨g, o, u, q1, Nat.le_trans HB2.out.size q2, q3, q4, q5.keep (fun _ _ h => Nat.le_trans HB2.out.size h) (Nat.le_refl _) (fun _ _ _ => rfl)⟩)
      have HLN := hid (show ss.length = S.length by rw [HE.out])
      generalize ss.length = nk at *
      clear d0 d1
      go_wp2_with fail
      go_ret
      exact ⟨a8, c8, by rw [← HLN.out]; rfl, HKD.out, HBW.out⟩

end Go.Proofs.YtkejmifkjgpdjaaGreat
