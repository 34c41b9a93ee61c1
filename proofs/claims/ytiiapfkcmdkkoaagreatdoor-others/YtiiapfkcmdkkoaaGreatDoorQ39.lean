import Derived.Test.YtiiapfkcmdkkoaaGreatDoorQ38
import Derived.Test.YtiiapfkcmdkkoaaGreatDoorQ22
/-
  The program's reader and the document's: the head.
-/
namespace Go.Proofs.YtiiapfkcmdkkoaaGreatDoor
open Go.RowKit

def eL (t : Nat) : List UInt8 := (endOf t).data.toList
theorem ba_get (x : ByteArray) (m : Nat) : x[m]? = x.data.toList[m]? := by
  by_cases h : m < x.size
  · rw [getElem?_pos x m h, List.getElem?_eq_getElem (by rw [size_list]; exact h)]
    rfl
  · rw [getElem?_neg x m h, List.getElem?_eq_none (by rw [size_list]; omega)]
theorem eL_get (t m : Nat) : (endOf t)[m]? = (eL t)[m]? := ba_get _ _
theorem eL_size (t : Nat) : (endOf t).size = (eL t).length := (size_list _).symm

theorem take_next {e : List UInt8} {m : Nat} {b : UInt8} (h : e[m]? = some b) : e.take m ++ [b] = e.take (m + 1) := by
  obtain ⟨h1, h2⟩ := List.getElem?_eq_some_iff.1 h
  rw [List.take_succ_eq_append_getElem h1, h2]
theorem take_last {e : List UInt8} {m : Nat} {b : UInt8} (h : e[m]? = some b) (hl : ¬ m + 1 < e.length) : e.take m ++ [b] = e := by
  rw [take_next h, List.take_of_length_le (by omega)]

/-- How a piece goes on. -/
theorem piece_cases (σ : RS) (b : UInt8) (hph : (σ.ph = 0 ∧ σ.met = 0) ∨ (σ.ph = 1 ∧ 1 ≤ σ.met)) (hl : σ.ph = 1 → leastOf σ.tag σ.sz ≤ σ.kept) :
    (σ.ph = 0 ∧ σ.met = 0 ∧ σ.kept < mostOf σ.tag σ.sz ∧ clsOf σ.tag b = true ∧ σ.piece b = { σ.push (fldOf σ.tag) b with kept := σ.kept + 1 }) ∨
    (σ.met = 0 ∧ (clsOf σ.tag b = false ∨ mostOf σ.tag σ.sz ≤ σ.kept) ∧ σ.kept < leastOf σ.tag σ.sz ∧ σ.piece b = σ.failed 1) ∨
    ((σ.met = 0 → clsOf σ.tag b = false ∨ mostOf σ.tag σ.sz ≤ σ.kept) ∧ leastOf σ.tag σ.sz ≤ σ.kept ∧
      (((eL σ.tag)[σ.met]? = some b ∧ σ.met + 1 < (eL σ.tag).length ∧ σ.piece b = { σ with ph := 1, met := σ.met + 1 }) ∨
       ((eL σ.tag)[σ.met]? = some b ∧ ¬ σ.met + 1 < (eL σ.tag).length ∧ σ.piece b = σ.next) ∨
       (¬ (eL σ.tag)[σ.met]? = some b ∧ σ.piece b = σ.failed 1))) := by
  have hend : ((eL σ.tag)[σ.met]? = some b ∧ σ.met + 1 < (eL σ.tag).length ∧ σ.ending b = { σ with ph := 1, met := σ.met + 1 }) ∨ ((eL σ.tag)[σ.met]? = some b ∧ ¬ σ.met + 1 < (eL σ.tag).length ∧ σ.ending b = σ.next) ∨ (¬ (eL σ.tag)[σ.met]? = some b ∧ σ.ending b = σ.failed 1) := by
    unfold RS.ending
    rw [eL_get, eL_size]
    by_cases h1 : (eL σ.tag)[σ.met]? = some b
    · rw [if_pos h1]
      by_cases h2 : σ.met + 1 < (eL σ.tag).length
      · rw [if_pos h2]; exact Or.inl ⟨h1, h2, rfl⟩
      · rw [if_neg h2]; exact Or.inr (Or.inl ⟨h1, h2, rfl⟩)
    · rw [if_neg h1]; exact Or.inr (Or.inr ⟨h1, rfl⟩)
  unfold RS.piece
  rcases hph with ⟨p0, m0⟩ | ⟨p1, m1⟩
  · rw [if_pos p0]
    by_cases h1 : σ.kept < mostOf σ.tag σ.sz ∧ clsOf σ.tag b = true
    · rw [if_pos h1]
      exact Or.inl ⟨p0, m0, h1.1, h1.2, rfl⟩
    · rw [if_neg h1]
      have hc : clsOf σ.tag b = false ∨ mostOf σ.tag σ.sz ≤ σ.kept := by
        by_cases g : σ.kept < mostOf σ.tag σ.sz
        · left; cases g2 : clsOf σ.tag b
          · rfl
          · exact absurd ⟨g, g2⟩ h1
        · right; omega
      by_cases h2 : σ.kept < leastOf σ.tag σ.sz
      · rw [if_pos h2]
        exact Or.inr (Or.inl ⟨m0, hc, h2, rfl⟩)
      · rw [if_neg h2]
        exact Or.inr (Or.inr ⟨fun _ => hc, by omega, hend⟩)
  · rw [if_neg (by omega)]
    exact Or.inr (Or.inr ⟨fun h => by omega, hl p1, hend⟩)

/-- The same, of a piece whose bounds are known. -/
theorem piece_goes (σ : RS) (b : UInt8) {least most : Nat} {c : Bool} {e : List UInt8} (h1 : leastOf σ.tag σ.sz = least) (h2 : mostOf σ.tag σ.sz = most) (h3 : clsOf σ.tag b = c) (h4 : eL σ.tag = e) (hph : (σ.ph = 0 ∧ σ.met = 0) ∨ (σ.ph = 1 ∧ 1 ≤ σ.met)) (hl : σ.ph = 1 → least ≤ σ.kept) :
    (σ.ph = 0 ∧ σ.met = 0 ∧ σ.kept < most ∧ c = true ∧ σ.piece b = { σ.push (fldOf σ.tag) b with kept := σ.kept + 1 }) ∨
    (σ.met = 0 ∧ (c = false ∨ most ≤ σ.kept) ∧ σ.kept < least ∧ σ.piece b = σ.failed 1) ∨
    ((σ.met = 0 → c = false ∨ most ≤ σ.kept) ∧ least ≤ σ.kept ∧
      ((e[σ.met]? = some b ∧ σ.met + 1 < e.length ∧ σ.piece b = { σ with ph := 1, met := σ.met + 1 }) ∨
       (e[σ.met]? = some b ∧ ¬ σ.met + 1 < e.length ∧ σ.piece b = σ.next) ∨
       (¬ e[σ.met]? = some b ∧ σ.piece b = σ.failed 1))) := by
  subst h1 h2 h3 h4
  exact piece_cases σ b hph hl

/-- Behind the first letters of a head; between two fields; behind a head; between two chunks: whatever comes then. -/
def MAt (l : List UInt8) : Prop := ∀ t, h2 (bl (l ++ t)) = pn (l ++ t) l.length
def FAt (l : List UInt8) (fs : List Fd) : Prop := ∀ t, ∃ f, t.length < f ∧ fieldsP ((bl (l ++ t)).size + 1) (h4 (bl (l ++ t))) [] = fieldsP f (pn (l ++ t) l.length) fs
def HAt (l : List UInt8) (fs : List Fd) : Prop := ∀ t, fieldsP ((bl (l ++ t)).size + 1) (h4 (bl (l ++ t))) [] = (pn (l ++ t) l.length, fs)
def CAt (l : List UInt8) (n : Nat) : Prop := ∀ t, ∃ f r, t.length < f ∧ r.text.length = n ∧ readP (bl (l ++ t)) = chunksP f (pn (l ++ t) l.length) r

/-- What was read, by the reader's state. -/
def St (l : List UInt8) (σ : RS) : Prop :=
  match σ.tag with
  | 1 => ∃ fs, Told fs σ ∧ FAt l fs
  | 2 => ∃ l0 x fs, Told fs σ ∧ HAt l0 fs ∧ l0.length ≤ 200 ∧ (σ.kind = 0 ∨ σ.kind = 1) ∧ l = l0 ++ x ∧ x.length = σ.body.length
  | 3 => l = σ.method ++ (eL 3).take σ.met ∧ (∀ c ∈ σ.method, isCapB c.toNat = true) ∧ Told [] σ
  | 4 => ∃ l0, MAt l0 ∧ l = l0 ++ (σ.path ++ (eL 4).take σ.met) ∧ (∀ c ∈ σ.path, isPathB c.toNat = true) ∧ Told [] σ
  | 5 => ∃ l0 fs, Told fs σ ∧ FAt l0 fs ∧ l = l0 ++ (σ.name ++ (eL 5).take σ.met) ∧ σ.name ≠ []
  | 6 => ∃ l0 fs, Told fs σ ∧ FAt l0 fs ∧ l = l0 ++ (σ.name ++ [58] ++ (σ.value ++ (eL 6).take σ.met)) ∧ σ.name ≠ []
  | 7 => ∃ l0 fs, Told fs σ ∧ FAt l0 fs ∧ l = l0 ++ [13]
  | 8 => ∃ l0, CAt l0 σ.body.length ∧ l = l0 ++ (σ.signs ++ (eL 8).take σ.met)
  | 9 => ∃ l0 x n, CAt l0 n ∧ l = l0 ++ (σ.signs ++ [13, 10] ++ (x ++ (eL 9).take σ.met)) ∧ x.length = σ.kept ∧ σ.body.length = n + σ.kept ∧ hexVal σ.signs = σ.sz ∧ σ.signs ≠ []
  | 10 => ∃ l0, CAt l0 σ.body.length ∧ l = l0 ++ (σ.signs ++ [13, 10] ++ (eL 10).take σ.met) ∧ hexVal σ.signs = 0 ∧ σ.signs ≠ []
  | _ => False

/-- A piece's two phases. -/
def Phm (σ : RS) : Prop := 3 ≤ σ.tag → (σ.ph = 0 ∧ σ.met = 0) ∨ (σ.ph = 1 ∧ 1 ≤ σ.met)

theorem drop_pre {l l0 x : List UInt8} (h : l = l0 ++ x) : l.drop l0.length = x := by rw [h]; exact List.drop_left ..

/-- A field begins. -/
theorem FAt.enter {l0 : List UInt8} {fs : List Fd} (h : FAt l0 fs) {c : UInt8} {t : List UInt8} (hc : c ≠ 13) :
    ∃ f, t.length < f ∧ fieldsP ((bl (l0 ++ c :: t)).size + 1) (h4 (bl (l0 ++ c :: t))) [] = fieldsP f (pn (l0 ++ c :: t) l0.length).f4 (fs ++ [(pn (l0 ++ c :: t) l0.length).fd]) := by
  obtain ⟨f, hf, he⟩ := h (c :: t)
  obtain ⟨f', rfl⟩ : ∃ f', f = f' + 1 := ⟨f - 1, by simp only [List.length_cons] at hf; omega⟩
  refine ⟨f', by simp only [List.length_cons] at hf; omega, ?_⟩
  rw [he]
  simp only [fieldsP]
  rw [if_pos (pn_on _ _), if_neg]
  show ¬ (bl (l0 ++ c :: t)).data.toList[l0.length]? = some 13
  rw [bl_list]
  simpa using hc
theorem h5_eq (s : ByteArray) : h5 s = (fieldsP (s.size + 1) (h4 s) []).1 := rfl
theorem FAt.bad {l0 : List UInt8} {fs : List Fd} (h : FAt l0 fs) {c : UInt8} {t : List UInt8} (hc : c ≠ 13) (hb : (pn (l0 ++ c :: t) l0.length).f4.bad = true) : (h5 (bl (l0 ++ c :: t))).bad = true := by
  obtain ⟨f, hf, he⟩ := h.enter (t := t) hc
  rw [h5_eq, he, fieldsP_off _ _ _ (off_bad hb)]
  exact hb
theorem FAt.off {l0 : List UInt8} {fs : List Fd} (h : FAt l0 fs) {c : UInt8} {t : List UInt8} (hc : c ≠ 13) (hb : (pn (l0 ++ c :: t) l0.length).f4.on = false) : (h5 (bl (l0 ++ c :: t))).on = false := by
  obtain ⟨f, hf, he⟩ := h.enter (t := t) hc
  rw [h5_eq, he, fieldsP_off _ _ _ hb]
  exact hb
theorem f2_eq (p : Pn) : p.f2 = p.rx 110 1 20 [58] := rfl
theorem f4_eq (p : Pn) : p.f4 = p.f2.rx 118 0 p.s.size [13, 10] := rfl
theorem f4_bad {p : Pn} (h : p.f2.bad = true) : p.f4.bad = true := by rw [f4_eq, rx_off _ _ _ _ _ (off_bad h)]; exact h
theorem f4_off {p : Pn} (h : p.f2.on = false) : p.f4.on = false := by rw [f4_eq, rx_off _ _ _ _ _ h]; exact h

theorem name_ne {c : UInt8} (h : isNameB c.toNat = true) : c ≠ 13 := by intro e; subst e; exact absurd h (by decide)
theorem in_name (c : UInt8) : inK 110 c = isNameB c.toNat := rfl
theorem in_val (c : UInt8) : inK 118 c = isValB c.toNat := rfl
theorem in_cap (c : UInt8) : inK 109 c = isCapB c.toNat := rfl
theorem in_path (c : UInt8) : inK 116 c = isPathB c.toNat := rfl
theorem in_sign (c : UInt8) : inK 120 c = isSignB c.toNat := rfl

/-- A name and its colon. -/
theorem f2_done {l l0 nm t : List UInt8} (hl : l = l0 ++ (nm ++ [58] ++ t)) (hn : ∀ c ∈ nm, isNameB c.toNat = true) (h1 : nm ≠ []) (h2 : nm.length ≤ 20) : (pn l l0.length).f2 = pn l (l0.length + (nm.length + 1)) ∧ (pn l l0.length).rowS 110 20 = nm := by
  have h1' : 1 ≤ nm.length := by cases nm with | nil => exact absurd rfl h1 | cons => simp
  rw [f2_eq]
  exact rx_done 110 1 20 (drop_pre hl) hn h2 h1' (by decide)
theorem drop_pre2 {l l0 a t : List UInt8} {n : Nat} (hl : l = l0 ++ (a ++ t)) (hn : n = a.length) : l.drop (l0.length + n) = t := by
  subst hn
  exact drop_add (drop_pre hl)

/-- A field is over. -/
theorem FAt.field {l0 : List UInt8} {fs : List Fd} (h : FAt l0 fs) {nm v : List UInt8} (hn : ∀ c ∈ nm, isNameB c.toNat = true) (h1 : nm ≠ []) (h2 : nm.length ≤ 20) (hv : ∀ c ∈ v, isValB c.toNat = true) : FAt (l0 ++ (nm ++ [58] ++ (v ++ [13, 10]))) (fs ++ [(smallL nm, trimR v)]) := by
  intro t
  obtain ⟨c, nm', rfl⟩ : ∃ c nm', nm = c :: nm' := by cases nm with | nil => exact absurd rfl h1 | cons c m => exact ⟨c, m, rfl⟩
  obtain ⟨f, hf, he⟩ := h.enter (c := c) (t := nm' ++ [58] ++ (v ++ [13, 10]) ++ t) (name_ne (hn c (by simp)))
  refine ⟨f, by simp at hf; omega, ?_⟩
  have el : l0 ++ (c :: nm' ++ [58] ++ (v ++ [13, 10])) ++ t = l0 ++ c :: (nm' ++ [58] ++ (v ++ [13, 10]) ++ t) := by simp
  rw [el, he]
  have e2 : l0 ++ c :: (nm' ++ [58] ++ (v ++ [13, 10]) ++ t) = l0 ++ (c :: nm' ++ [58] ++ (v ++ [13, 10] ++ t)) := by simp
  obtain ⟨k1, k2⟩ := f2_done e2 hn h1 h2
  have hd := drop_pre2 (n := (c :: nm').length + 1) e2 (by simp)
  obtain ⟨k3, k4⟩ := rx_done 118 0 (bl (l0 ++ c :: (nm' ++ [58] ++ (v ++ [13, 10]) ++ t))).size hd hv (by rw [bl_size]; simp; omega) (Nat.zero_le _) (by decide)
  have e4 : (pn (l0 ++ c :: (nm' ++ [58] ++ (v ++ [13, 10]) ++ t)) l0.length).f4 = pn (l0 ++ c :: (nm' ++ [58] ++ (v ++ [13, 10]) ++ t)) (l0 ++ (c :: nm' ++ [58] ++ (v ++ [13, 10]))).length := by
    rw [f4_eq, k1]
    refine k3.trans ?_
    congr 1
    simp; omega
  have e5 : (pn (l0 ++ c :: (nm' ++ [58] ++ (v ++ [13, 10]) ++ t)) l0.length).fd = (smallL (c :: nm'), trimR v) := by
    unfold Pn.fd
    rw [k2, k1]
    exact congrArg (fun x => (smallL (c :: nm'), trimR x)) k4
  rw [e4, e5]

/-- What became of a byte in the head. -/
def HFate (l : List UInt8) (σ : RS) : Prop :=
  ((σ.tag ≠ 0 ∧ σ.tag ≠ 2 ∧ σ.tag ≤ 7) ∧ σ.headOver = false ∧ Phm σ ∧ St l σ) ∨ (σ.tag = 0 ∧ (h5 (bl l)).bad = true) ∨ ∃ fs τ, Told fs τ ∧ HAt l fs ∧ τ.body = [] ∧ σ = τ.endHead

theorem phm0 {σ : RS} (h1 : σ.ph = 0) (h2 : σ.met = 0) : Phm σ := fun _ => Or.inl ⟨h1, h2⟩
theorem phm1 {σ : RS} (h1 : σ.ph = 1) (h2 : 1 ≤ σ.met) : Phm σ := fun _ => Or.inr ⟨h1, h2⟩

theorem h2_eq (l : List UInt8) : h2 (bl l) = (pn l 0).rx 109 1 8 [32, 47] := rfl
theorem h4_eq (s : ByteArray) : h4 s = (h2 s).rx 116 0 30 httpTail := rfl
theorem h5_off {s : ByteArray} (h : (h4 s).on = false) : h5 s = h4 s := by rw [h5_eq, fieldsP_off _ _ _ h]
theorem h5_bad2 {s : ByteArray} (h : (h2 s).bad = true) : (h5 s).bad = true := by
  have e : h4 s = h2 s := by rw [h4_eq, rx_off _ _ _ _ _ (off_bad h)]
  rw [h5_off (by rw [e]; exact off_bad h), e]; exact h
theorem h5_bad4 {s : ByteArray} (h : (h4 s).bad = true) : (h5 s).bad = true := by
  rw [h5_off (off_bad h)]; exact h

theorem step3 {l : List UInt8} {σ : RS} {b : UInt8} (ht : σ.tag = 3) (hi : RInv 1 σ) (hp : Phm σ) (hs : St l σ) : HFate (l ++ [b]) (σ.piece b) := by
  obtain ⟨tag, sz, ph, kept, met, count, ho, fault, method, path, name, value, close, kind, length, signs, body⟩ := σ
  simp only at ht
  subst ht
  obtain ⟨rfl, hcap, htold⟩ := hs
  obtain ⟨q1, q2, q3, q4, q5, q6, q7⟩ := hi.spec
  have hlen := hi.lens.1
  simp only at hcap htold q1 q2 q3 q4 q5 q6 q7 hlen
  subst q5
  have e3 : eL 3 = [32, 47] := rfl
  have hE : ∀ c, ([32, 47] : List UInt8)[0]? = some c → inK 109 c = false := by intro c h; cases h; decide
  rcases piece_goes _ b (least := 1) (most := 8) (c := isCapB b.toNat) (e := eL 3) rfl rfl rfl rfl (hp (show 3 ≤ 3 by decide)) q6 with ⟨p1, p2, p3, p4, p5⟩ | ⟨p1, p2, p3, p5⟩ | ⟨p1, p2, ⟨p3, p4, p5⟩ | ⟨p3, p4, p5⟩ | ⟨p3, p5⟩⟩ <;> (rw [p5]; clear p5 hi hp; try (dsimp only at p2); try (dsimp only at p1); try (dsimp only at p3); try (dsimp only at p4))
  · subst p1 p2
    refine Or.inl ⟨show (3 : Nat) ≠ 0 ∧ 3 ≠ 2 ∧ 3 ≤ 7 by decide, q1, phm0 rfl rfl, ?_, mem_snoc hcap p4, htold⟩
    show method ++ (eL 3).take 0 ++ [b] = (method ++ [b]) ++ (eL 3).take 0
    simp
  · subst p1
    refine Or.inr (Or.inl ⟨rfl, h5_bad2 ?_⟩)
    rw [h2_eq]
    exact rx_least (l := method ++ (eL 3).take 0 ++ [b]) (i := 0) (r := method) (b := b) (t := []) 109 1 8 _ (by simp) hcap hlen (by omega) (by rcases p2 with h | h; exact Or.inl h; right; omega)
  · refine Or.inl ⟨show (3 : Nat) ≠ 0 ∧ 3 ≠ 2 ∧ 3 ≤ 7 by decide, q1, phm1 rfl (by show 1 ≤ met + 1; omega), ?_, hcap, htold⟩
    show method ++ (eL 3).take met ++ [b] = method ++ (eL 3).take (met + 1)
    rw [List.append_assoc, take_next p3]
  · subst q7
    refine Or.inl ⟨show (4 : Nat) ≠ 0 ∧ 4 ≠ 2 ∧ 4 ≤ 7 by decide, q1, phm0 rfl rfl, method ++ eL 3, ?_, ?_, ?_, htold⟩
    · intro t
      rw [h2_eq]
      have := (rx_done (l := method ++ eL 3 ++ t) (i := 0) (r := method) (t := t) (c := 32) (e := [47]) 109 1 8 (by rw [e3]; simp) hcap hlen p2 (by decide)).1
      refine this.trans ?_
      congr 1
      rw [e3]; simp
    · show method ++ (eL 3).take met ++ [b] = method ++ eL 3 ++ ([] ++ (eL 4).take 0)
      rw [List.append_assoc, take_last p3 p4]
      simp
    · show ∀ c ∈ ([] : List UInt8), _
      simp
  · refine Or.inr (Or.inl ⟨rfl, h5_bad2 ?_⟩)
    rw [h2_eq]
    refine (rx_bad (l := method ++ (eL 3).take met ++ [b]) (i := 0) (r := method) (m := met) (b := b) (t := []) 109 1 8 [32, 47] (by rw [e3]; simp) hcap hlen p2 hE (fun h => ?_) q4 p3).1
    rcases p1 h with h | h
    · exact Or.inl h
    · right; omega

theorem step4 {l : List UInt8} {σ : RS} {b : UInt8} (ht : σ.tag = 4) (hi : RInv 1 σ) (hp : Phm σ) (hs : St l σ) : HFate (l ++ [b]) (σ.piece b) := by
  obtain ⟨tag, sz, ph, kept, met, count, ho, fault, method, path, name, value, close, kind, length, signs, body⟩ := σ
  simp only at ht
  subst ht
  obtain ⟨l0, hm, rfl, hcap, htold⟩ := hs
  obtain ⟨q1, q2, q3, q4, q5⟩ := hi.spec
  have hlen := hi.lens.2.1
  simp only at hcap htold q1 q2 q3 q4 q5 hlen
  subst q5
  have e3 : eL 4 = httpTail := rfl
  have hE : ∀ c, httpTail[0]? = some c → inK 116 c = false := by intro c h; cases h; decide
  rcases piece_goes _ b (least := 0) (most := 30) (c := isPathB b.toNat) (e := eL 4) rfl rfl rfl rfl (hp (show 3 ≤ 4 by decide)) (fun _ => Nat.zero_le _) with ⟨p1, p2, p3, p4, p5⟩ | ⟨p1, p2, p3, p5⟩ | ⟨p1, p2, ⟨p3, p4, p5⟩ | ⟨p3, p4, p5⟩ | ⟨p3, p5⟩⟩ <;> (rw [p5]; clear p5 hi hp; try (dsimp only at p2); try (dsimp only at p1); try (dsimp only at p3); try (dsimp only at p4))
  · subst p1 p2
    refine Or.inl ⟨show (4 : Nat) ≠ 0 ∧ 4 ≠ 2 ∧ 4 ≤ 7 by decide, q1, phm0 rfl rfl, l0, hm, ?_, mem_snoc hcap p4, htold⟩
    show l0 ++ (path ++ (eL 4).take 0) ++ [b] = l0 ++ (path ++ [b] ++ (eL 4).take 0)
    simp
  · omega
  · refine Or.inl ⟨show (4 : Nat) ≠ 0 ∧ 4 ≠ 2 ∧ 4 ≤ 7 by decide, q1, phm1 rfl (by show 1 ≤ met + 1; omega), l0, hm, ?_, hcap, htold⟩
    show l0 ++ (path ++ (eL 4).take met) ++ [b] = l0 ++ (path ++ (eL 4).take (met + 1))
    rw [List.append_assoc, List.append_assoc, take_next p3]
  · refine Or.inl ⟨show (1 : Nat) ≠ 0 ∧ 1 ≠ 2 ∧ 1 ≤ 7 by decide, q1, fun h => absurd h (by show ¬ 3 ≤ 1; decide), [], htold, ?_⟩
    have el : l0 ++ (path ++ (eL 4).take met) ++ [b] = l0 ++ (path ++ httpTail) := by
      have := take_last p3 p4
      rw [e3] at this
      rw [List.append_assoc, List.append_assoc, e3, this]
    show FAt (l0 ++ (path ++ (eL 4).take met) ++ [b]) []
    rw [el]
    intro t
    refine ⟨(bl (l0 ++ (path ++ httpTail) ++ t)).size + 1, by rw [bl_size]; simp; omega, ?_⟩
    rw [h4_eq, show l0 ++ (path ++ httpTail) ++ t = l0 ++ (path ++ httpTail ++ t) by simp, hm]
    have := (rx_done (l := l0 ++ (path ++ httpTail ++ t)) (i := l0.length) (r := path) (t := t) (c := 32) (e := httpTail.tail) 116 0 30 (drop_pre rfl) hcap hlen p2 (by decide)).1
    rw [show (32 : UInt8) :: httpTail.tail = httpTail from rfl] at this
    rw [this]
    congr 2
    simp
  · refine Or.inr (Or.inl ⟨rfl, h5_bad4 ?_⟩)
    rw [h4_eq, show l0 ++ (path ++ (eL 4).take met) ++ [b] = l0 ++ (path ++ httpTail.take met ++ b :: []) by rw [e3]; simp, hm]
    refine (rx_bad (r := path) (m := met) (b := b) (t := []) 116 0 30 httpTail (drop_pre rfl) hcap hlen p2 hE (fun h => ?_) q4 p3).1
    rcases p1 h with h | h
    · exact Or.inl h
    · right; omega

theorem step5 {l : List UInt8} {σ : RS} {b : UInt8} (ht : σ.tag = 5) (hi : RInv 1 σ) (hp : Phm σ) (hs : St l σ) : HFate (l ++ [b]) (σ.piece b) := by
  obtain ⟨tag, sz, ph, kept, met, count, ho, fault, method, path, name, value, close, kind, length, signs, body⟩ := σ
  simp only at ht
  subst ht
  obtain ⟨l0, fs, htold, hf, rfl, hne⟩ := hs
  obtain ⟨q1, q2, q3, q4, q5, q6, q7⟩ := hi.spec
  have hlen := hi.lens.2.2.1
  have hcap := hi.name
  simp only at hcap htold q1 q2 q3 q4 q5 q6 q7 hlen hne
  have hm0 : met = 0 := by omega
  subst q5
  have e3 : eL 5 = [58] := rfl
  have hE : ∀ c, ([58] : List UInt8)[0]? = some c → inK 110 c = false := by intro c h; cases h; decide
  have h1 : 1 ≤ name.length := by cases name with | nil => exact absurd rfl hne | cons => simp
  rcases piece_goes _ b (least := 1) (most := 20) (c := isNameB b.toNat) (e := [58]) rfl rfl rfl rfl (hp (show 3 ≤ 5 by decide)) q6 with ⟨p1, p2, p3, p4, p5⟩ | ⟨p1, p2, p3, p5⟩ | ⟨p1, p2, ⟨p3, p4, p5⟩ | ⟨p3, p4, p5⟩ | ⟨p3, p5⟩⟩ <;> (rw [p5]; clear p5 hi hp; try (dsimp only at p2); try (dsimp only at p1); try (dsimp only at p3); try (dsimp only at p4))
  · subst p1 p2
    refine Or.inl ⟨show (5 : Nat) ≠ 0 ∧ 5 ≠ 2 ∧ 5 ≤ 7 by decide, q1, phm0 rfl rfl, l0, fs, htold, hf, ?_, ?_⟩
    · show l0 ++ (name ++ (eL 5).take 0) ++ [b] = l0 ++ (name ++ [b] ++ (eL 5).take 0)
      simp
    · show name ++ [b] ≠ []
      simp
  · omega
  · simp at p4
  · subst hm0
    refine Or.inl ⟨show (6 : Nat) ≠ 0 ∧ 6 ≠ 2 ∧ 6 ≤ 7 by decide, q1, phm0 rfl rfl, l0, fs, htold, hf, ?_, hne⟩
    obtain rfl : b = 58 := by simpa using p3.symm
    show l0 ++ (name ++ (eL 5).take 0) ++ [58] = l0 ++ (name ++ [58] ++ (value ++ (eL 6).take 0))
    rw [q7]
    simp
  · subst hm0
    obtain ⟨c, nm', rfl⟩ : ∃ c nm', name = c :: nm' := by cases name with | nil => exact absurd rfl hne | cons c m => exact ⟨c, m, rfl⟩
    have hc : c ≠ 13 := name_ne (hcap c (by simp))
    have el : l0 ++ (c :: nm' ++ (eL 5).take 0) ++ [b] = l0 ++ c :: (nm' ++ [b]) := by simp
    rw [el]
    refine Or.inr (Or.inl ⟨rfl, hf.bad hc (f4_bad ?_)⟩)
    rw [f2_eq]
    refine (rx_bad (r := c :: nm') (m := 0) (b := b) (t := []) 110 1 20 [58] (drop_pre (by simp)) hcap hlen h1 hE (fun h => ?_) (by decide) p3).1
    rcases p1 rfl with h | h
    · exact Or.inl h
    · right; omega

theorem step6 {l : List UInt8} {σ : RS} {b : UInt8} (ht : σ.tag = 6) (hi : RInv 1 σ) (hp : Phm σ) (hl : l.length ≤ 200) (hs : St l σ) : HFate (l ++ [b]) (σ.piece b) := by
  obtain ⟨tag, sz, ph, kept, met, count, ho, fault, method, path, name, value, close, kind, length, signs, body⟩ := σ
  simp only at ht
  subst ht
  obtain ⟨l0, fs, htold, hf, rfl, hne⟩ := hs
  obtain ⟨q1, q2, q3, q4, q5⟩ := hi.spec
  have hlen := hi.lens.2.2.1
  have hcap := hi.name
  have hval := hi.value
  simp only at hcap htold q1 q2 q3 q4 q5 hlen hne hval hl
  have e3 : eL 6 = [13, 10] := rfl
  have hE : ∀ c, ([13, 10] : List UInt8)[0]? = some c → inK 118 c = false := by intro c h; cases h; decide
  have h1 : 1 ≤ name.length := by cases name with | nil => exact absurd rfl hne | cons => simp
  subst q5
  have hk : value.length < 200 := by simp at hl; omega
  rcases piece_goes _ b (least := 0) (most := 200) (c := isValB b.toNat) (e := eL 6) rfl rfl rfl rfl (hp (show 3 ≤ 6 by decide)) (fun _ => Nat.zero_le _) with ⟨p1, p2, p3, p4, p5⟩ | ⟨p1, p2, p3, p5⟩ | ⟨p1, p2, ⟨p3, p4, p5⟩ | ⟨p3, p4, p5⟩ | ⟨p3, p5⟩⟩ <;> (rw [p5]; clear p5 hi hp; try (dsimp only at p2); try (dsimp only at p1); try (dsimp only at p3); try (dsimp only at p4))
  · subst p1 p2
    refine Or.inl ⟨show (6 : Nat) ≠ 0 ∧ 6 ≠ 2 ∧ 6 ≤ 7 by decide, q1, phm0 rfl rfl, l0, fs, htold, hf, ?_, hne⟩
    show l0 ++ (name ++ [58] ++ (value ++ (eL 6).take 0)) ++ [b] = l0 ++ (name ++ [58] ++ (value ++ [b] ++ (eL 6).take 0))
    simp
  · omega
  · refine Or.inl ⟨show (6 : Nat) ≠ 0 ∧ 6 ≠ 2 ∧ 6 ≤ 7 by decide, q1, phm1 rfl (by show 1 ≤ met + 1; omega), l0, fs, htold, hf, ?_, hne⟩
    show l0 ++ (name ++ [58] ++ (value ++ (eL 6).take met)) ++ [b] = l0 ++ (name ++ [58] ++ (value ++ (eL 6).take (met + 1)))
    rw [← take_next p3]
    simp
  · refine Or.inl ?_
    have e : (⟨6, sz, ph, value.length, met, count, ho, fault, method, path, name, value, close, kind, length, signs, body⟩ : RS).next = (⟨6, sz, ph, value.length, met, count, ho, fault, method, path, name, value, close, kind, length, signs, body⟩ : RS).endField := rfl
    rw [e]
    have et : ∀ τ : RS, τ.endField.tag = 1 ∧ τ.endField.headOver = τ.headOver := by
      intro τ
      unfold RS.endField
      split
      · exact ⟨rfl, rfl⟩
      · split
        · exact ⟨rfl, rfl⟩
        · split <;> exact ⟨rfl, rfl⟩
    obtain ⟨t1, t2⟩ := et ⟨6, sz, ph, value.length, met, count, ho, fault, method, path, name, value, close, kind, length, signs, body⟩
    refine ⟨by rw [t1]; decide, by rw [t2]; exact q1, fun h => by rw [t1] at h; omega, ?_⟩
    unfold St
    rw [t1]
    refine ⟨_, htold.field, ?_⟩
    have := hf.field hcap hne hlen hval
    have el : l0 ++ (name ++ [58] ++ (value ++ (eL 6).take met)) ++ [b] = l0 ++ (name ++ [58] ++ (value ++ [13, 10])) := by
      have := take_last p3 p4
      rw [e3] at this
      rw [e3]
      simp only [List.append_assoc, this]
    show FAt (l0 ++ (name ++ [58] ++ (value ++ (eL 6).take met)) ++ [b]) _
    rw [el]
    exact this
  · obtain ⟨c, nm', rfl⟩ : ∃ c nm', name = c :: nm' := by cases name with | nil => exact absurd rfl hne | cons c m => exact ⟨c, m, rfl⟩
    have hc : c ≠ 13 := name_ne (hcap c (by simp))
    have el : l0 ++ (c :: nm' ++ [58] ++ (value ++ (eL 6).take met)) ++ [b] = l0 ++ c :: (nm' ++ [58] ++ (value ++ [13, 10].take met ++ [b])) := by rw [e3]; simp
    have e2 : l0 ++ c :: (nm' ++ [58] ++ (value ++ [13, 10].take met ++ [b])) = l0 ++ (c :: nm' ++ [58] ++ (value ++ [13, 10].take met ++ b :: [])) := by simp
    rw [el]
    refine Or.inr (Or.inl ⟨rfl, hf.bad hc ?_⟩)
    rw [f4_eq, (f2_done e2 hcap hne hlen).1]
    have hd := drop_pre2 (n := (c :: nm').length + 1) e2 (by simp)
    refine (rx_bad (r := value) (m := met) (b := b) (t := []) 118 0 _ [13, 10] hd hval ?_ (Nat.zero_le _) hE (fun h => ?_) q4 p3).1
    · show value.length ≤ (bl _).size
      rw [bl_size]; simp; omega
    · rcases p1 h with h | h
      · exact Or.inl h
      · omega

theorem step7 {l : List UInt8} {σ : RS} {b : UInt8} (ht : σ.tag = 7) (hi : RInv 1 σ) (hp : Phm σ) (hs : St l σ) : HFate (l ++ [b]) (σ.piece b) := by
  obtain ⟨tag, sz, ph, kept, met, count, ho, fault, method, path, name, value, close, kind, length, signs, body⟩ := σ
  simp only at ht
  subst ht
  obtain ⟨l0, fs, htold, hf, rfl⟩ := hs
  obtain ⟨q1, q2, q3, q4, q5⟩ := hi.spec
  simp only at htold q1 q2 q3 q4 q5
  have hm0 : met = 0 := by omega
  have e3 : eL 7 = [10] := rfl
  have hgo : ∀ t, fieldsP ((bl (l0 ++ 13 :: t)).size + 1) (h4 (bl (l0 ++ 13 :: t))) [] = ((pn (l0 ++ 13 :: t) l0.length).exact [13, 10], fs) := by
    intro t
    obtain ⟨f, h1, h2⟩ := hf (13 :: t)
    obtain ⟨f', rfl⟩ : ∃ f', f = f' + 1 := ⟨f - 1, by simp only [List.length_cons] at h1; omega⟩
    rw [h2]
    simp only [fieldsP]
    rw [if_pos (pn_on _ _), if_pos]
    show (bl (l0 ++ 13 :: t)).data.toList[l0.length]? = some 13
    rw [bl_list]
    simp
  rcases piece_goes _ b (least := 0) (most := 0) (c := false) (e := [10]) rfl rfl rfl rfl (hp (show 3 ≤ 7 by decide)) (fun _ => Nat.zero_le _) with ⟨p1, p2, p3, p4, p5⟩ | ⟨p1, p2, p3, p5⟩ | ⟨p1, p2, ⟨p3, p4, p5⟩ | ⟨p3, p4, p5⟩ | ⟨p3, p5⟩⟩ <;> (rw [p5]; clear p5 hi hp; try (dsimp only at p2); try (dsimp only at p1); try (dsimp only at p3); try (dsimp only at p4))
  · omega
  · omega
  · simp at p4
  · subst hm0
    obtain rfl : b = 10 := by simpa using p3.symm
    refine Or.inr (Or.inr ⟨fs, _, htold, ?_, q3, rfl⟩)
    intro t
    rw [show l0 ++ [13] ++ [10] ++ t = l0 ++ 13 :: (10 :: t) by simp, hgo, (ex_done [13, 10] (drop_pre (show l0 ++ 13 :: 10 :: t = l0 ++ ([13, 10] ++ t) by simp))).1]
    congr 2
    simp
  · subst hm0
    have hb : b ≠ 10 := fun h => p3 (by rw [h]; rfl)
    refine Or.inr (Or.inl ⟨rfl, ?_⟩)
    rw [show l0 ++ [13] ++ [b] = l0 ++ 13 :: [b] by simp, h5_eq, hgo]
    show ((pn _ _).exact ([13] ++ 10 :: [])).bad = true
    rw [ex_bad [13] [] (drop_pre (show l0 ++ 13 :: [b] = l0 ++ ([13] ++ b :: []) by simp)) hb]

theorem step1 {l : List UInt8} {σ : RS} {b : UInt8} (ht : σ.tag = 1) (hi : RInv 1 σ) (hs : St l σ) : HFate (l ++ [b]) (σ.fields b) := by
  obtain ⟨tag, sz, ph, kept, met, count, ho, fault, method, path, name, value, close, kind, length, signs, body⟩ := σ
  simp only at ht
  subst ht
  obtain ⟨fs, htold, hf⟩ := hs
  obtain ⟨q1, q2, q3⟩ := hi.spec
  simp only at htold q1 q2 q3
  unfold RS.fields
  by_cases hb : b = 13
  · rw [if_pos hb]
    subst hb
    exact Or.inl ⟨show (7 : Nat) ≠ 0 ∧ 7 ≠ 2 ∧ 7 ≤ 7 by decide, q1, phm0 rfl rfl, l, fs, htold, hf, rfl⟩
  · rw [if_neg hb]
    by_cases hn : isNameB b.toNat = true
    · have e : RS.piece (({ (⟨1, sz, ph, kept, met, count, ho, fault, method, path, name, value, close, kind, length, signs, body⟩ : RS) with name := [], value := [] } : RS).fresh 5) b = ⟨5, sz, 0, 1, 0, count, ho, fault, method, path, [b], [], close, kind, length, signs, body⟩ := by
        unfold RS.piece
        refine (if_pos rfl).trans ((if_pos ⟨show 0 < 20 by decide, hn⟩).trans ?_)
        rfl
      rw [e]
      refine Or.inl ⟨show (5 : Nat) ≠ 0 ∧ 5 ≠ 2 ∧ 5 ≤ 7 by decide, q1, phm0 rfl rfl, l, fs, htold, hf, ?_, ?_⟩
      · show l ++ [b] = l ++ ([b] ++ (eL 5).take 0)
        simp
      · show [b] ≠ []
        simp
    · have e : RS.piece (({ (⟨1, sz, ph, kept, met, count, ho, fault, method, path, name, value, close, kind, length, signs, body⟩ : RS) with name := [], value := [] } : RS).fresh 5) b = (({ (⟨1, sz, ph, kept, met, count, ho, fault, method, path, name, value, close, kind, length, signs, body⟩ : RS) with name := [], value := [] } : RS).fresh 5).failed 1 := by
        unfold RS.piece
        exact (if_pos rfl).trans ((if_neg (fun h => hn h.2)).trans (if_pos (show 0 < 1 by decide)))
      rw [e]
      refine Or.inr (Or.inl ⟨rfl, hf.bad hb (f4_bad ?_)⟩)
      rw [f2_eq]
      exact rx_least (r := []) (b := b) (t := []) 110 1 20 _ (drop_pre (by simp)) (by simp) (by decide) (by decide) (Or.inl (by rw [in_name]; simpa using hn))

/-- A byte in the head. -/
theorem head_step {l : List UInt8} {σ : RS} {b : UInt8} (h0 : σ.tag ≠ 0) (hi : RInv 1 σ) (hnb : σ.tag ≠ 2 ∧ σ.tag ≤ 7) (hp : Phm σ) (hl : l.length ≤ 200) (hs : St l σ) : HFate (l ++ [b]) (σ.step b) := by
  unfold RS.step
  have ht : σ.tag = 1 ∨ σ.tag = 3 ∨ σ.tag = 4 ∨ σ.tag = 5 ∨ σ.tag = 6 ∨ σ.tag = 7 := by omega
  rcases ht with h | h | h | h | h | h
  · rw [h]; exact step1 h hi hs
  · rw [h]; exact step3 h hi hp hs
  · rw [h]; exact step4 h hi hp hs
  · rw [h]; exact step5 h hi hp hs
  · rw [h]; exact step6 h hi hp hl hs
  · rw [h]; exact step7 h hi hp hs

end Go.Proofs.YtiiapfkcmdkkoaaGreatDoor

/-
  The program's reader and the document's: the body; and that the reader is over only where the document's says that the request is.
-/
namespace Go.Proofs.YtiiapfkcmdkkoaaGreatDoor
open Go.RowKit

theorem c2_eq (p : Pn) : p.c2 = p.rx 120 1 4 [13, 10] := rfl
theorem chunks_bad {f : Nat} {p : Pn} {r : Rq} (h : p.c2.bad = true) : chunksP (f + 1) p r = wrongR 400 := by
  have ho : ¬ (p.c2.on = true) := by rw [off_bad h]; decide
  simp only [chunksP]
  have e : (p.c2.c3 p.cn).exact [13, 10] = p.c2 := by
    unfold Pn.c3
    rw [if_neg (fun q => ho q.1)]
    exact exact_off _ _ (off_bad h)
  rw [if_neg (fun q => ho q.1), e, if_pos h]
/-- The bytes behind a chunk are not as they should be. -/
theorem chunks_bad4 {f : Nat} {p : Pn} {r : Rq} (h : ((p.c2.c3 p.cn).exact [13, 10]).bad = true) : 1 < (chunksP (f + 1) p r).kind := by
  simp only [chunksP]
  split
  · show 1 < 3; decide
  · show 1 < 3; decide
theorem CAt.go {l0 : List UInt8} {n : Nat} (h : CAt l0 n) {t : List UInt8} (ht : 1 ≤ t.length) : ∃ f r, t.length ≤ f ∧ r.text.length = n ∧ readP (bl (l0 ++ t)) = chunksP (f + 1) (pn (l0 ++ t) l0.length) r := by
  obtain ⟨f, r, h1, h2, h3⟩ := h t
  obtain ⟨f', rfl⟩ : ∃ f', f = f' + 1 := ⟨f - 1, by omega⟩
  exact ⟨f', r, by omega, h2, h3⟩
theorem CAt.bad {l0 : List UInt8} {n : Nat} (h : CAt l0 n) {t : List UInt8} (ht : 1 ≤ t.length) (hb : (pn (l0 ++ t) l0.length).c2.bad = true) : 1 < (readP (bl (l0 ++ t))).kind := by
  obtain ⟨f, r, h1, h2, h3⟩ := h.go ht
  rw [h3, chunks_bad hb]
  show 1 < 3
  decide
theorem CAt.bad4 {l0 : List UInt8} {n : Nat} (h : CAt l0 n) {t : List UInt8} (ht : 1 ≤ t.length) (hb : (((pn (l0 ++ t) l0.length).c2.c3 (pn (l0 ++ t) l0.length).cn).exact [13, 10]).bad = true) : 1 < (readP (bl (l0 ++ t))).kind := by
  obtain ⟨f, r, h1, h2, h3⟩ := h.go ht
  rw [h3]
  exact chunks_bad4 hb

/-- A chunk's signs. -/
theorem c2_done {l l0 sg t : List UInt8} (hl : l = l0 ++ (sg ++ [13, 10] ++ t)) (hn : ∀ c ∈ sg, isSignB c.toNat = true) (h1 : 1 ≤ sg.length) (h2 : sg.length ≤ 4) : (pn l l0.length).c2 = pn l (l0.length + (sg.length + 2)) ∧ (pn l l0.length).cn = hexVal sg := by
  obtain ⟨k1, k2⟩ := rx_done (e := [10]) 120 1 4 (drop_pre hl) hn h2 h1 (by decide)
  refine ⟨k1, ?_⟩
  unfold Pn.cn
  rw [k2]
/-- And its bytes. -/
theorem c3_done {l l0 sg x t : List UInt8} (hl : l = l0 ++ (sg ++ [13, 10] ++ (x ++ t))) (hn : ∀ c ∈ sg, isSignB c.toNat = true) (h1 : 1 ≤ sg.length) (h2 : sg.length ≤ 4) (hx : hexVal sg = x.length) :
    (pn l l0.length).c2.c3 (pn l l0.length).cn = pn l (l0.length + (sg.length + 2) + x.length) ∧ l.drop (l0.length + (sg.length + 2) + x.length) = t ∧ ((pn l l0.length).c2.ct (pn l l0.length).cn).length = x.length := by
  obtain ⟨k1, k2⟩ := c2_done hl hn h1 h2
  have hd := drop_pre2 (n := sg.length + 2) hl (by simp)
  rw [k1, k2, hx]
  refine ⟨?_, drop_add hd, ?_⟩
  · unfold Pn.c3
    by_cases h0 : 0 < x.length
    · rw [if_pos ⟨pn_on _ _, h0⟩, if_neg]
      · rfl
      · show ¬ (bl l).size - (l0.length + (sg.length + 2)) < x.length
        rw [bl_size, hl]; simp; omega
    · rw [if_neg (fun q => h0 q.2)]
      rw [show x.length = 0 by omega]; rfl
  · unfold Pn.ct
    by_cases h0 : 0 < x.length
    · rw [if_pos ⟨pn_on _ _, h0⟩]
      show (((bl l).data.toList.drop (l0.length + (sg.length + 2))).take x.length).length = _
      rw [bl_list, hd]; simp
    · rw [if_neg (fun q => h0 q.2)]
      simp; omega

/-- What became of a byte in the body. -/
def BFate (l : List UInt8) (σ : RS) : Prop :=
  ((σ.tag = 2 ∨ 8 ≤ σ.tag) ∧ σ.headOver = true ∧ Phm σ ∧ St l σ) ∨ (σ.tag = 0 ∧ 1 < (readP (bl l)).kind)

theorem step8 {l : List UInt8} {σ : RS} {b : UInt8} (ht : σ.tag = 8) (hi : RInv 1 σ) (ho : σ.headOver = true) (hp : Phm σ) (hs : St l σ) : BFate (l ++ [b]) (σ.piece b) := by
  obtain ⟨tag, sz, ph, kept, met, count, ho', fault, method, path, name, value, close, kind, length, signs, body⟩ := σ
  simp only at ht ho
  subst ht ho
  obtain ⟨l0, hc, rfl⟩ := hs
  obtain ⟨q4, q5, q6, _⟩ := hi.spec
  have hlen := hi.lens.2.2.2.2.1
  have hsg := hi.signs
  simp only at hc q4 q5 q6 hlen hsg
  subst q5
  have e3 : eL 8 = [13, 10] := rfl
  have hE : ∀ c, ([13, 10] : List UInt8)[0]? = some c → inK 120 c = false := by intro c h; cases h; decide
  rcases piece_goes _ b (least := 1) (most := 4) (c := isSignB b.toNat) (e := eL 8) rfl rfl rfl rfl (hp (show 3 ≤ 8 by decide)) q6 with ⟨p1, p2, p3, p4, p5⟩ | ⟨p1, p2, p3, p5⟩ | ⟨p1, p2, ⟨p3, p4, p5⟩ | ⟨p3, p4, p5⟩ | ⟨p3, p5⟩⟩ <;> (rw [p5]; clear p5 hi hp; try (dsimp only at p2); try (dsimp only at p1); try (dsimp only at p3); try (dsimp only at p4))
  · subst p1 p2
    refine Or.inl ⟨Or.inr (show 8 ≤ 8 by decide), rfl, phm0 rfl rfl, l0, hc, ?_⟩
    show l0 ++ (signs ++ (eL 8).take 0) ++ [b] = l0 ++ (signs ++ [b] ++ (eL 8).take 0)
    simp
  · subst p1
    refine Or.inr ⟨rfl, ?_⟩
    show 1 < (readP (bl (l0 ++ (signs ++ (eL 8).take 0) ++ [b]))).kind
    rw [show l0 ++ (signs ++ (eL 8).take 0) ++ [b] = l0 ++ (signs ++ b :: []) by simp]
    refine hc.bad (by simp) ?_
    rw [c2_eq]
    exact rx_least (r := signs) (b := b) (t := []) 120 1 4 _ (drop_pre rfl) hsg hlen (by omega) p2
  · refine Or.inl ⟨Or.inr (show 8 ≤ 8 by decide), rfl, phm1 rfl (by show 1 ≤ met + 1; omega), l0, hc, ?_⟩
    show l0 ++ (signs ++ (eL 8).take met) ++ [b] = l0 ++ (signs ++ (eL 8).take (met + 1))
    rw [← take_next p3]
    simp
  · have el : l0 ++ (signs ++ (eL 8).take met) ++ [b] = l0 ++ (signs ++ [13, 10]) := by
      have := take_last p3 p4
      rw [e3] at this
      rw [e3]
      simp only [List.append_assoc, this]
    show BFate (l0 ++ (signs ++ (eL 8).take met) ++ [b]) (RS.endSigns _)
    rw [el]
    have hne : signs ≠ [] := by intro h; subst h; simp at p2
    unfold RS.endSigns
    by_cases g1 : hexVal signs = 0
    · rw [if_pos g1]
      refine Or.inl ⟨Or.inr (show 8 ≤ 10 by decide), rfl, phm0 rfl rfl, l0, hc, ?_, g1, hne⟩
      show l0 ++ (signs ++ [13, 10]) = l0 ++ (signs ++ [13, 10] ++ (eL 10).take 0)
      simp
    · rw [if_neg g1]
      by_cases g2 : 100 < body.length + hexVal signs
      · rw [if_pos g2]
        refine Or.inr ⟨rfl, ?_⟩
        obtain ⟨f, r, k1, k2, k3⟩ := hc.go (t := signs ++ [13, 10]) (by simp)
        obtain ⟨j1, j2⟩ := c2_done (t := []) (show l0 ++ (signs ++ [13, 10]) = l0 ++ (signs ++ [13, 10] ++ []) by simp) hsg p2 hlen
        rw [k3]
        simp only [chunksP]
        rw [if_pos]
        · show 1 < 3; decide
        · rw [j1, j2, k2]; exact ⟨pn_on _ _, g2⟩
      · rw [if_neg g2]
        refine Or.inl ⟨Or.inr (show 8 ≤ 9 by decide), rfl, phm0 rfl rfl, l0, [], body.length, hc, ?_, rfl, rfl, rfl, hne⟩
        show l0 ++ (signs ++ [13, 10]) = l0 ++ (signs ++ [13, 10] ++ ([] ++ (eL 9).take 0))
        simp
  · refine Or.inr ⟨rfl, ?_⟩
    show 1 < (readP (bl (l0 ++ (signs ++ (eL 8).take met) ++ [b]))).kind
    rw [show l0 ++ (signs ++ (eL 8).take met) ++ [b] = l0 ++ (signs ++ [13, 10].take met ++ b :: []) by rw [e3]; simp]
    refine hc.bad (by simp; omega) ?_
    rw [c2_eq]
    exact (rx_bad (r := signs) (m := met) (b := b) (t := []) 120 1 4 [13, 10] (drop_pre rfl) hsg hlen p2 hE p1 q4 p3).1

theorem step9 {l : List UInt8} {σ : RS} {b : UInt8} (ht : σ.tag = 9) (hi : RInv 1 σ) (ho : σ.headOver = true) (hp : Phm σ) (hs : St l σ) : BFate (l ++ [b]) (σ.piece b) := by
  obtain ⟨tag, sz, ph, kept, met, count, ho', fault, method, path, name, value, close, kind, length, signs, body⟩ := σ
  simp only at ht ho
  subst ht ho
  obtain ⟨l0, x, n, hc, rfl, hx, hb, hh, hne⟩ := hs
  obtain ⟨q4, q5, q6, q7, q8, _⟩ := hi.spec
  have hlen := hi.lens.2.2.2.2.1
  have hsg := hi.signs
  simp only at hc q4 q5 q6 q7 q8 hlen hsg hx hb hh hne
  have h1 : 1 ≤ signs.length := by cases signs with | nil => exact absurd rfl hne | cons => simp
  have e3 : eL 9 = [13, 10] := rfl
  rcases piece_goes _ b (least := sz) (most := sz) (c := true) (e := eL 9) rfl rfl rfl rfl (hp (show 3 ≤ 9 by decide)) q7 with ⟨p1, p2, p3, p4, p5⟩ | ⟨p1, p2, p3, p5⟩ | ⟨p1, p2, ⟨p3, p4, p5⟩ | ⟨p3, p4, p5⟩ | ⟨p3, p5⟩⟩ <;> (rw [p5]; clear p5 hi hp; try (dsimp only at p2); try (dsimp only at p1); try (dsimp only at p3); try (dsimp only at p4))
  · subst p1 p2
    refine Or.inl ⟨Or.inr (show 8 ≤ 9 by decide), rfl, phm0 rfl rfl, l0, x ++ [b], n, hc, ?_, ?_, ?_, hh, hne⟩
    · show l0 ++ (signs ++ [13, 10] ++ (x ++ (eL 9).take 0)) ++ [b] = l0 ++ (signs ++ [13, 10] ++ (x ++ [b] ++ (eL 9).take 0))
      simp
    · show (x ++ [b]).length = kept + 1
      simp; omega
    · show (body ++ [b]).length = n + (kept + 1)
      simp; omega
  · rcases p2 with h | h
    · cases h
    · omega
  · refine Or.inl ⟨Or.inr (show 8 ≤ 9 by decide), rfl, phm1 rfl (by show 1 ≤ met + 1; omega), l0, x, n, hc, ?_, hx, hb, hh, hne⟩
    show l0 ++ (signs ++ [13, 10] ++ (x ++ (eL 9).take met)) ++ [b] = l0 ++ (signs ++ [13, 10] ++ (x ++ (eL 9).take (met + 1)))
    rw [← take_next p3]
    simp
  · have el : l0 ++ (signs ++ [13, 10] ++ (x ++ (eL 9).take met)) ++ [b] = l0 ++ (signs ++ [13, 10] ++ (x ++ [13, 10])) := by
      have := take_last p3 p4
      rw [e3] at this
      rw [e3]
      simp only [List.append_assoc, this]
    show BFate (l0 ++ (signs ++ [13, 10] ++ (x ++ (eL 9).take met)) ++ [b]) _
    rw [el]
    refine Or.inl ⟨Or.inr (show 8 ≤ 8 by decide), rfl, phm0 rfl rfl, l0 ++ (signs ++ [13, 10] ++ (x ++ [13, 10])), ?_, ?_⟩
    · show CAt _ body.length
      intro t
      obtain ⟨f, r, k1, k2, k3⟩ := hc.go (t := signs ++ [13, 10] ++ (x ++ ([13, 10] ++ t))) (by simp; omega)
      have e1 : l0 ++ (signs ++ [13, 10] ++ (x ++ [13, 10])) ++ t = l0 ++ (signs ++ [13, 10] ++ (x ++ ([13, 10] ++ t))) := by simp
      obtain ⟨j1, j2⟩ := c2_done (l0 := l0) (sg := signs) (t := x ++ ([13, 10] ++ t)) rfl hsg h1 hlen
      obtain ⟨j3, j4, j5⟩ := c3_done (l0 := l0) (sg := signs) (x := x) (t := [13, 10] ++ t) rfl hsg h1 hlen (by omega)
      have j6 := (ex_done [13, 10] j4).1
      refine ⟨f, { r with text := r.text ++ (pn (l0 ++ (signs ++ [13, 10] ++ (x ++ ([13, 10] ++ t)))) l0.length).c2.ct (pn (l0 ++ (signs ++ [13, 10] ++ (x ++ ([13, 10] ++ t)))) l0.length).cn }, by simp at k1; omega, ?_, ?_⟩
      · show (r.text ++ _).length = _
        rw [List.length_append, j5]; omega
      · rw [e1, k3]
        simp only [chunksP]
        rw [j3, j6, if_neg (fun q => by have := q.2; rw [j2, k2] at this; omega), if_neg (show ¬ (pn _ _).bad = true from Bool.false_ne_true), if_neg (show ¬ (pn _ _).more = true from Bool.false_ne_true), if_neg (by rw [j2]; omega)]
        congr 2
        simp; omega
    · show l0 ++ (signs ++ [13, 10] ++ (x ++ [13, 10])) = l0 ++ (signs ++ [13, 10] ++ (x ++ [13, 10])) ++ ([] ++ (eL 8).take 0)
      simp
  · refine Or.inr ⟨rfl, ?_⟩
    show 1 < (readP (bl (l0 ++ (signs ++ [13, 10] ++ (x ++ (eL 9).take met)) ++ [b]))).kind
    rw [show l0 ++ (signs ++ [13, 10] ++ (x ++ (eL 9).take met)) ++ [b] = l0 ++ (signs ++ [13, 10] ++ (x ++ ([13, 10].take met ++ b :: []))) by rw [e3]; simp]
    refine hc.bad4 (by simp; omega) ?_
    obtain ⟨j3, j4, j5⟩ := c3_done (l0 := l0) (sg := signs) (x := x) (t := [13, 10].take met ++ b :: []) rfl hsg h1 hlen (by omega)
    rw [j3]
    have hlt : met < ([13, 10] : List UInt8).length := q4
    have hbe : b ≠ ([13, 10] : List UInt8)[met] := fun h => p3 (by rw [e3, List.getElem?_eq_getElem hlt, h])
    have h2 := ex_bad _ (([13, 10] : List UInt8).drop (met + 1)) j4 hbe
    rw [← split_at hlt] at h2
    rw [h2]

theorem step10 {l : List UInt8} {σ : RS} {b : UInt8} (ht : σ.tag = 10) (hi : RInv 1 σ) (ho : σ.headOver = true) (hp : Phm σ) (hs : St l σ) : BFate (l ++ [b]) (σ.piece b) := by
  obtain ⟨tag, sz, ph, kept, met, count, ho', fault, method, path, name, value, close, kind, length, signs, body⟩ := σ
  simp only at ht ho
  subst ht ho
  obtain ⟨l0, hc, rfl, hh, hne⟩ := hs
  obtain ⟨q4, q5, _⟩ := hi.spec
  have hlen := hi.lens.2.2.2.2.1
  have hsg := hi.signs
  simp only at hc q4 q5 hlen hsg hh hne
  have h1 : 1 ≤ signs.length := by cases signs with | nil => exact absurd rfl hne | cons => simp
  have e3 : eL 10 = [13, 10] := rfl
  rcases piece_goes _ b (least := 0) (most := 0) (c := false) (e := eL 10) rfl rfl rfl rfl (hp (show 3 ≤ 10 by decide)) (fun _ => Nat.zero_le _) with ⟨p1, p2, p3, p4, p5⟩ | ⟨p1, p2, p3, p5⟩ | ⟨p1, p2, ⟨p3, p4, p5⟩ | ⟨p3, p4, p5⟩ | ⟨p3, p5⟩⟩ <;> (rw [p5]; clear p5 hi hp; try (dsimp only at p2); try (dsimp only at p1); try (dsimp only at p3); try (dsimp only at p4))
  · cases p4
  · omega
  · refine Or.inl ⟨Or.inr (show 8 ≤ 10 by decide), rfl, phm1 rfl (by show 1 ≤ met + 1; omega), l0, hc, ?_, hh, hne⟩
    show l0 ++ (signs ++ [13, 10] ++ (eL 10).take met) ++ [b] = l0 ++ (signs ++ [13, 10] ++ (eL 10).take (met + 1))
    rw [← take_next p3]
    simp
  · have el : l0 ++ (signs ++ [13, 10] ++ (eL 10).take met) ++ [b] = l0 ++ (signs ++ [13, 10] ++ ([] ++ ([13, 10] ++ []))) := by
      have := take_last p3 p4
      rw [e3] at this
      rw [e3]
      simp only [List.append_assoc, this, List.nil_append, List.append_nil]
    refine Or.inr ⟨rfl, ?_⟩
    show 1 < (readP (bl (l0 ++ (signs ++ [13, 10] ++ (eL 10).take met) ++ [b]))).kind
    rw [el]
    obtain ⟨f, r, k1, k2, k3⟩ := hc.go (t := signs ++ [13, 10] ++ ([] ++ ([13, 10] ++ []))) (by simp)
    obtain ⟨j1, j2⟩ := c2_done (l0 := l0) (sg := signs) (t := [] ++ ([13, 10] ++ [])) rfl hsg h1 hlen
    obtain ⟨j3, j4, j5⟩ := c3_done (l0 := l0) (sg := signs) (x := []) (t := [13, 10] ++ []) rfl hsg h1 hlen hh
    have j6 := (ex_done [13, 10] j4).1
    rw [k3]
    simp only [chunksP]
    rw [j3, j6]
    split
    · show 1 < 3; decide
    · rw [if_neg (show ¬ (pn _ _).bad = true from Bool.false_ne_true), if_neg (show ¬ (pn _ _).more = true from Bool.false_ne_true), if_pos (by rw [j2]; exact hh)]
      show 1 < 2; decide
  · refine Or.inr ⟨rfl, ?_⟩
    show 1 < (readP (bl (l0 ++ (signs ++ [13, 10] ++ (eL 10).take met) ++ [b]))).kind
    rw [show l0 ++ (signs ++ [13, 10] ++ (eL 10).take met) ++ [b] = l0 ++ (signs ++ [13, 10] ++ ([] ++ ([13, 10].take met ++ b :: []))) by rw [e3]; simp]
    refine hc.bad4 (by simp; omega) ?_
    obtain ⟨j3, j4, j5⟩ := c3_done (l0 := l0) (sg := signs) (x := []) (t := [13, 10].take met ++ b :: []) rfl hsg h1 hlen hh
    rw [j3]
    have hlt : met < ([13, 10] : List UInt8).length := q4
    have hbe : b ≠ ([13, 10] : List UInt8)[met] := fun h => p3 (by rw [e3, List.getElem?_eq_getElem hlt, h])
    have h2 := ex_bad _ (([13, 10] : List UInt8).drop (met + 1)) j4 hbe
    rw [← split_at hlt] at h2
    rw [h2]

/-- Behind a head. -/
theorem HAt.read {l : List UInt8} {fs : List Fd} (h : HAt l fs) (hl : l.length ≤ 200) (t : List UInt8) : readP (bl (l ++ t)) = bodyP (pn (l ++ t) l.length) (headR (bl (l ++ t))) (valuesP fs clenL) (valuesP fs tencL) := by
  have e1 : h5 (bl (l ++ t)) = pn (l ++ t) l.length := by rw [h5_eq, h t]
  have e2 : hf (bl (l ++ t)) = fs := by unfold hf; rw [h t]
  unfold readP
  rw [e1, e2, if_neg (fun q => by have := q.1; rw [pn_on] at this; cases this), if_neg (fun q => by have q2 : 200 < l.length := q.2; omega), if_neg (show ¬ (pn _ _).bad = true from Bool.false_ne_true), if_neg (show ¬ (pn _ _).more = true from Bool.false_ne_true)]
theorem bad_kind {s : ByteArray} (h : (h5 s).bad = true) : 1 < (readP s).kind := by
  unfold readP
  split
  · show 1 < 3; decide
  · rw [if_neg (fun q => by have := q.1; rw [off_bad h] at this; cases this)]
    show 1 < 3; decide
theorem off_kind {s : ByteArray} (h : (h5 s).on = false) (hs : 200 < s.size) : 1 < (readP s).kind := by
  unfold readP
  rw [if_pos ⟨h, hs⟩]
  show 1 < 3; decide
theorem HAt.far {l : List UInt8} {fs : List Fd} (h : HAt l fs) (hl : 200 < l.length) : 1 < (readP (bl l)).kind := by
  have e1 : h5 (bl l) = pn l l.length := by
    have := h []
    rw [List.append_nil] at this
    rw [h5_eq, this]
  unfold readP
  rw [e1, if_neg (fun q => by have := q.1; rw [pn_on] at this; cases this), if_pos ⟨pn_on _ _, hl⟩]
  show 1 < 3; decide

theorem count_over (p : Pn) (r : Rq) (n : Nat) (h : 100 < n) : 1 < (countP p r n).kind := by
  unfold countP
  rw [if_neg (by omega), if_pos (by omega)]
  show 1 < 3; decide
theorem count_done (l : List UInt8) (i n : Nat) (r : Rq) (h : n + i ≤ l.length) : 1 < (countP (pn l i) r n).kind := by
  unfold countP
  rw [if_neg (by omega)]
  split
  · show 1 < 3; decide
  · rw [if_neg]
    · show 1 < 2; decide
    · show ¬ ((bl l).size : Int) - i < n
      rw [bl_size]; omega

theorem headOver_step {l : List UInt8} {fs : List Fd} {τ : RS} (ht : Told fs τ) (h : HAt l fs) (hb : τ.body = []) (hl : l.length ≤ 200) : BFate l τ.endHead := by
  have hr := h.read hl []
  rw [List.append_nil] at hr
  unfold RS.endHead RS.readBody
  by_cases k3 : τ.kind = 3
  · rw [if_pos k3]
    refine Or.inr ⟨rfl, ?_⟩
    unfold Told at ht
    rw [k3] at ht
    rw [hr, ht.bad]
    show 1 < 3; decide
  · rw [if_neg k3]
    by_cases k2 : τ.kind = 2
    · rw [if_pos k2]
      refine Or.inl ⟨Or.inr (show 8 ≤ 8 by decide), rfl, phm0 rfl rfl, l, ?_, ?_⟩
      · show CAt l τ.body.length
        rw [hb]
        intro t
        unfold Told at ht
        rw [k2] at ht
        refine ⟨_, headR (bl (l ++ t)), ?_, rfl, (h.read hl t).trans (ht.chunked _ _)⟩
        show t.length < (bl (l ++ t)).size + 1
        rw [bl_size]; simp; omega
      · show l = l ++ ([] ++ (eL 8).take 0)
        simp
    · rw [if_neg k2]
      have hk := Says.kinds ht
      have k01 : τ.kind = 0 ∨ τ.kind = 1 := by omega
      rw [Says.counted ht k01] at hr
      by_cases g1 : 100 < τ.length
      · rw [if_pos g1]
        refine Or.inr ⟨rfl, ?_⟩
        rw [hr]
        exact count_over _ _ _ g1
      · rw [if_neg g1]
        by_cases g2 : 0 < τ.length
        · rw [if_pos g2]
          refine Or.inl ⟨Or.inl rfl, rfl, fun h => absurd h (show ¬ 3 ≤ 2 by decide), l, [], fs, ht, h, hl, k01, ?_, ?_⟩
          · simp
          · show 0 = τ.body.length
            rw [hb]; rfl
        · rw [if_neg g2]
          refine Or.inr ⟨rfl, ?_⟩
          rw [hr]
          exact count_done _ _ _ _ (by show τ.length + l.length ≤ l.length; omega)

theorem step2 {l : List UInt8} {σ : RS} {b : UInt8} (ht : σ.tag = 2) (hi : RInv 1 σ) (ho : σ.headOver = true) (hs : St l σ) : BFate (l ++ [b]) (σ.counted b) := by
  obtain ⟨tag, sz, ph, kept, met, count, ho', fault, method, path, name, value, close, kind, length, signs, body⟩ := σ
  simp only at ht ho
  subst ht ho
  obtain ⟨l0, x, fs, htold, hh, hl, hk, rfl, hx⟩ := hs
  obtain ⟨q4, q5, _⟩ := hi.spec
  simp only at htold hk q4 q5 hx
  unfold RS.counted
  by_cases g : body.length + 1 < length
  · rw [if_pos g]
    refine Or.inl ⟨Or.inl rfl, rfl, fun h => absurd h (show ¬ 3 ≤ 2 by decide), l0, x ++ [b], fs, htold, hh, hl, hk, ?_, ?_⟩
    · simp
    · show (x ++ [b]).length = (body ++ [b]).length
      simp; omega
  · rw [if_neg g]
    refine Or.inr ⟨rfl, ?_⟩
    show 1 < (readP (bl (l0 ++ x ++ [b]))).kind
    rw [List.append_assoc, hh.read hl, Says.counted htold hk]
    exact count_done _ _ _ _ (by show length + l0.length ≤ _; simp; omega)

theorem body_step {l : List UInt8} {σ : RS} {b : UInt8} (hi : RInv 1 σ) (ho : σ.headOver = true) (ht : σ.tag = 2 ∨ 8 ≤ σ.tag) (hp : Phm σ) (hs : St l σ) : BFate (l ++ [b]) (σ.step b) := by
  unfold RS.step
  have h10 := hi.tags
  have ht' : σ.tag = 2 ∨ σ.tag = 8 ∨ σ.tag = 9 ∨ σ.tag = 10 := by omega
  rcases ht' with h | h | h | h
  · rw [h]; exact step2 h hi ho hs
  · rw [h]; exact step8 h hi ho hp hs
  · rw [h]; exact step9 h hi ho hp hs
  · rw [h]; exact step10 h hi ho hp hs

end Go.Proofs.YtiiapfkcmdkkoaaGreatDoor
