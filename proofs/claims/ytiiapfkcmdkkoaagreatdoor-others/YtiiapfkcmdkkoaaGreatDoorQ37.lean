import Derived.Test.YtiiapfkcmdkkoaaGreatDoorQ36
import Derived.Test.YtiiapfkcmdkkoaaGreatDoorQ21
/-
  The document's own reader: Read, the pure part.
-/
namespace Go.Proofs.YtiiapfkcmdkkoaaGreatDoor
open Go.RowKit

def httpTail : List UInt8 := [32, 72, 84, 84, 80, 47, 49, 46, 49, 13, 10]
def connL : List UInt8 := [99, 111, 110, 110, 101, 99, 116, 105, 111, 110]
def clenL : List UInt8 := [99, 111, 110, 116, 101, 110, 116, 45, 108, 101, 110, 103, 116, 104]
def tencL : List UInt8 := [116, 114, 97, 110, 115, 102, 101, 114, 45, 101, 110, 99, 111, 100, 105, 110, 103]
def closL : List UInt8 := [99, 108, 111, 115, 101]
/-- The pen behind the method, behind " /", behind the target, behind the first line. -/
def h0 (s : ByteArray) : Pn := ⟨s, 0, false, false⟩
def h1 (s : ByteArray) : Pn := (h0 s).rowP 109 1 8
def h2 (s : ByteArray) : Pn := (h1 s).exact [32, 47]
def h3 (s : ByteArray) : Pn := (h2 s).rowP 116 0 30
def h4 (s : ByteArray) : Pn := (h3 s).exact httpTail
/-- Behind the head, and its fields. -/
def h5 (s : ByteArray) : Pn := (fieldsP (s.size + 1) (h4 s) []).1
def hf (s : ByteArray) : List Fd := (fieldsP (s.size + 1) (h4 s) []).2
/-- What a head says. -/
def headR (s : ByteArray) : Rq := ⟨0, 0, (h0 s).rowS 109 8, 47 :: (h2 s).rowS 116 30, (valuesP (hf s) connL).any (fun v => smallL v == closL), []⟩
def readP (s : ByteArray) : Rq :=
  if (h5 s).on = false ∧ 200 < s.size then wrongR 431 else
  if (h5 s).on = true ∧ 200 < (h5 s).i then wrongR 431 else
  if (h5 s).bad = true then wrongR 400 else
  if (h5 s).more = true then ⟨0, 0, [], [], false, []⟩ else
  bodyP (h5 s) (headR s) (valuesP (hf s) clenL) (valuesP (hf s) tencL)

theorem h_s (s : ByteArray) : (h1 s).s = s ∧ (h2 s).s = s ∧ (h3 s).s = s ∧ (h4 s).s = s := by
  have e1 : (h1 s).s = s := rowP_s _ _ _ _
  have e2 : (h2 s).s = s := (exact_s _ _).1.trans e1
  have e3 : (h3 s).s = s := (rowP_s _ _ _ _).trans e2
  exact ⟨e1, e2, e3, (exact_s _ _).1.trans e3⟩
theorem h_i (s : ByteArray) : (h1 s).i ≤ s.size ∧ (h2 s).i ≤ s.size ∧ (h3 s).i ≤ s.size ∧ (h4 s).i ≤ s.size := by
  obtain ⟨e1, e2, e3, _⟩ := h_s s
  have i1 : (h1 s).i ≤ s.size := (rowP_i (h0 s) _ _ _ (Nat.zero_le _)).1
  have i2 : (h2 s).i ≤ s.size := by have := (exact_s [32, 47] (h1 s)).2 (by rw [e1]; exact i1); rw [e1] at this; exact this
  have i3 : (h3 s).i ≤ s.size := by have := (rowP_i (h2 s) 116 0 30 (by rw [e2]; exact i2)).1; rw [e2] at this; exact this
  have i4 : (h4 s).i ≤ s.size := by have := (exact_s httpTail (h3 s)).2 (by rw [e3]; exact i3); rw [e3] at this; exact this
  exact ⟨i1, i2, i3, i4⟩

end Go.Proofs.YtiiapfkcmdkkoaaGreatDoor

/-
  The document's own reader: Read, walked.
-/
namespace Go.Proofs.YtiiapfkcmdkkoaaGreatDoor
open Go.RowKit

/-- Within Read: the result's block A, the pen's, the request's. -/
structure ReAt (w wr : World) (A : Nat) (s : ByteArray) (q : Pn) (r : Rq) : Prop where
  pen : PenAt wr (A + 1) q
  res : wr.heap[A]? = some zero6
  rq : wr.heap[A + 2]? = some (.cells (rqCells r) 47 (0, 0))
  upd : Upd (fun _ => False) w wr
  eqs : q.s = s
  le : q.i ≤ s.size
theorem ReAt.same {w wr w1 : World} {A : Nat} {s : ByteArray} {q : Pn} {r : Rq} (h : ReAt w wr A s q r) (hu : Upd (fun _ => False) wr w1) : ReAt w w1 A s q r :=
  ⟨hu.keep h.pen (fun h => h), hu.keep h.res (fun h => h), hu.keep h.rq (fun h => h), h.upd.trans hu, h.eqs, h.le⟩
theorem Upd.into {M : Nat → Prop} {w wr w1 : World} (h : Upd (fun _ => False) w wr) (hu : Upd M wr w1) (hM : ∀ k, M k → w.heap.size ≤ k) : Upd (fun _ => False) w w1 :=
  ⟨hu.os.trans h.os, hu.tape.trans h.tape, hu.output.trans h.output, Nat.le_trans h.size hu.size, fun k hk hn => (hu.block k (Nat.lt_of_lt_of_le hk h.size) (fun e => by have := hM k e; omega)).trans (h.block k hk hn)⟩
theorem ReAt.pn {w wr w1 : World} {A : Nat} {s : ByteArray} {q q' : Pn} {r : Rq} (h : ReAt w wr A s q r) (hA : w.heap.size ≤ A) (hx : PenX wr w1 (A + 1) q') (hs : q'.s = s) (hi : q'.i ≤ s.size) : ReAt w w1 A s q' r :=
  ⟨hx.1, hx.2.keep h.res (by omega), hx.2.keep h.rq (by omega), h.upd.into hx.2 (by intro k e; have e' : k = A + 1 := e; omega), hs, hi⟩
theorem ReAt.set {w wr : World} {A : Nat} {s : ByteArray} {q : Pn} {r r' : Rq} (h : ReAt w wr A s q r) (hA : w.heap.size ≤ A) (i : Nat) (v : Value) (hr : (rqCells r).setIfInBounds i v = rqCells r') : ReAt w (wr.setCell ⟨A + 2, i, none⟩ v) A s q r' := by
  have U : Upd (fun k => k = A + 2) wr (wr.setCell ⟨A + 2, i, none⟩ v) := Upd.one _ _ _ _
  refine ⟨U.keep h.pen (by omega), U.keep h.res (by omega), ?_, h.upd.into U (by intro k e; have e' : k = A + 2 := e; omega), h.eqs, h.le⟩
  have := heap_setCell h.rq i v
  rw [hr] at this
  exact this

theorem ReAt.cellsR {w wr : World} {A : Nat} {s : ByteArray} {q : Pn} {r : Rq} (h : ReAt w wr A s q r) : wr.cell? ⟨A + 2, 2, none⟩ = some (.string ⟨r.method.toArray⟩) ∧ wr.cell? ⟨A + 2, 3, none⟩ = some (.string ⟨r.target.toArray⟩) ∧ wr.cell? ⟨A + 2, 4, none⟩ = some (.bool r.close) ∧ (∀ i, wr.frozen? ⟨A + 2, i, none⟩ = false) :=
  ⟨cell_of_heap h.rq 2, cell_of_heap h.rq 3, cell_of_heap h.rq 4, unfrozen_of_heap h.rq⟩

theorem reat_begin (w : World) (s : ByteArray) : ReAt w (((w.alloc zero6).alloc (.cells #[.string s, .int .i64 0, .bool false, .bool false] 86)).alloc zero6) w.heap.size s (h0 s) ⟨0, 0, [], [], false, []⟩ := by
  have e1 : (w.alloc zero6).heap.size = w.heap.size + 1 := by simp
  have e2 : ((w.alloc zero6).alloc (.cells #[.string s, .int .i64 0, .bool false, .bool false] 86)).heap.size = w.heap.size + 2 := by simp
  have U : ∀ (X : World) (o : Obj), Upd (fun _ => False) X (X.alloc o) := fun X o => (Upd.refl _ X).alloc o
  refine ⟨?_, ?_, ?_, ((U w _).alloc _).alloc _, rfl, Nat.zero_le _⟩
  · refine (U _ _).keep ?_ (fun h => h)
    have := heap_alloc_new (w.alloc zero6) (.cells #[.string s, .int .i64 0, .bool false, .bool false] 86)
    rw [e1] at this
    exact this
  · exact (U _ _).keep ((U _ _).keep (heap_alloc_new w _) (fun h => h)) (fun h => h)
  · have := heap_alloc_new ((w.alloc zero6).alloc (.cells #[.string s, .int .i64 0, .bool false, .bool false] 86)) zero6
    rw [e2] at this
    exact this

theorem fieldsP_len : ∀ (n : Nat) (p : Pn) (fs : List Fd), (fieldsP n p fs).2.length ≤ fs.length + n
  | 0, _, fs => Nat.le_refl _
  | n + 1, p, fs => by
    simp only [fieldsP]
    split
    · split
      · simp
      · have := fieldsP_len n p.f4 (fs ++ [p.fd])
        rw [List.length_append, List.length_singleton] at this
        omega
    · simp
theorem rtrim_len : ∀ l : List UInt8, (rtrim l).length ≤ l.length
  | [] => by simp [rtrim]
  | c :: l => by
    unfold rtrim
    split
    · simp
    · have := rtrim_len l
      simp only [List.length_cons]
      omega
theorem rtrim_le (l : List UInt8) : (trimR l).length ≤ l.length := by
  unfold trimR
  have h1 : (l.dropWhile isSp).length ≤ l.length := (List.dropWhile_sublist _).length_le
  have h2 := rtrim_len (l.dropWhile isSp)
  omega
theorem fieldsP_small : ∀ (n : Nat) (p : Pn) (fs : List Fd), (∀ f ∈ fs, f.2.length ≤ p.s.size) → ∀ f ∈ (fieldsP n p fs).2, f.2.length ≤ p.s.size
  | 0, _, _, h => h
  | n + 1, p, fs, h => by
    simp only [fieldsP]
    split
    · split
      · exact h
      · have hs : p.f4.s = p.s := (f_s p).2.2.2
        have := fieldsP_small n p.f4 (fs ++ [p.fd]) (by
          intro f hf
          rw [hs]
          rcases List.mem_append.1 hf with h1 | h1
          · exact h f h1
          · have : f = p.fd := by simpa using h1
            rw [this]
            unfold Pn.fd
            have h2 := rowS_le p.f2 118 p.s.size
            rw [(f_s p).2.1] at h2
            exact Nat.le_trans (rtrim_le _) h2)
        rw [hs] at this
        exact this
    · exact h
theorem h5_facts (s : ByteArray) : (hf s).length ≤ s.size + 1 ∧ (∀ f ∈ hf s, f.2.length ≤ s.size) := by
  obtain ⟨s1, s2, s3, s4⟩ := h_s s
  refine ⟨?_, ?_⟩
  · have := fieldsP_len (s.size + 1) (h4 s) []
    simpa [hf] using this
  · have := fieldsP_small (s.size + 1) (h4 s) [] (by simp)
    rw [s4] at this
    exact this

/-- What Read answers, where it ends early. -/
theorem readP_early (s : ByteArray) : ((h5 s).on = false → 200 < s.size → readP s = wrongR 431) ∧ ((h5 s).on = true → 200 < (h5 s).i → readP s = wrongR 431) ∧ ((h5 s).on = false → ¬ 200 < s.size → (h5 s).bad = true → readP s = wrongR 400) ∧ ((h5 s).on = false → ¬ 200 < s.size → (h5 s).bad = false → (h5 s).more = true → readP s = ⟨0, 0, [], [], false, []⟩) ∧
    ((h5 s).on = true → ¬ 200 < (h5 s).i → (h5 s).bad = false → (h5 s).more = false → readP s = bodyP (h5 s) (headR s) (valuesP (hf s) clenL) (valuesP (hf s) tencL)) := by
  refine ⟨fun a b => ?_, fun a b => ?_, fun a b c => ?_, fun a b c d => ?_, fun a b c d => ?_⟩ <;> unfold readP
  · rw [if_pos ⟨a, b⟩]
  · rw [if_neg (by rw [a]; simp), if_pos ⟨a, b⟩]
  · rw [if_neg (fun h => b h.2), if_neg (by rw [a]; simp), if_pos c]
  · rw [if_neg (fun h => b h.2), if_neg (by rw [a]; simp), if_neg (by rw [c]; simp), if_pos d]
  · rw [if_neg (by rw [a]; simp), if_neg (fun h => b h.2), if_neg (by rw [c]; simp), if_neg (by rw [d]; simp)]

/-- A result is laid into the result's block. -/
theorem ReAt.done {w wr w1 : World} {A : Nat} {s : ByteArray} {q : Pn} {r : Rq} (h : ReAt w wr A s q r) (hA : w.heap.size ≤ A) (hu : Upd (fun k => k = A + 1) wr w1) (v : Rq) :
    ((w1.cell? ⟨A, 0, none⟩ = some (.int .i64 0) ∧ w1.cell? ⟨A, 1, none⟩ = some (.int .i64 0) ∧ w1.cell? ⟨A, 2, none⟩ = some (.string ⟨#[]⟩) ∧ w1.cell? ⟨A, 3, none⟩ = some (.string ⟨#[]⟩) ∧ w1.cell? ⟨A, 4, none⟩ = some (.bool false) ∧ w1.cell? ⟨A, 5, none⟩ = some (.string ⟨#[]⟩)) ∧
    (w1.frozen? ⟨A, 0, none⟩ = false ∧ w1.frozen? ⟨A, 1, none⟩ = false ∧ w1.frozen? ⟨A, 2, none⟩ = false ∧ w1.frozen? ⟨A, 3, none⟩ = false ∧ w1.frozen? ⟨A, 4, none⟩ = false ∧ w1.frozen? ⟨A, 5, none⟩ = false)) ∧
    Upd (fun _ => False) w ((((((w1.setCell ⟨A, 0, none⟩ (.int .i64 v.kind)).setCell ⟨A, 1, none⟩ (.int .i64 v.status)).setCell ⟨A, 2, none⟩ (.string ⟨v.method.toArray⟩)).setCell ⟨A, 3, none⟩ (.string ⟨v.target.toArray⟩)).setCell ⟨A, 4, none⟩ (.bool v.close)).setCell ⟨A, 5, none⟩ (.string ⟨v.text.toArray⟩)) := by
  have hb : w1.heap[A]? = some (.cells #[.int .i64 0, .int .i64 0, .string ⟨#[]⟩, .string ⟨#[]⟩, .bool false, .string ⟨#[]⟩] 47 (0, 0)) := hu.keep h.res (by omega)
  have U1 : Upd (fun _ => False) w w1 := h.upd.into hu (by intro k e; have e' : k = A + 1 := e; omega)
  exact ⟨cells6 hb, U1.six A hA _ _ _ _ _ _⟩

/-- Between two rounds over the values of 'connection'. -/
structure LpAt (w wr : World) (A : Nat) (s : ByteArray) (q : Pn) (r : Rq) (lv cv : Value) (fs : List Fd) (vs : List (List UInt8)) : Prop where
  re : ReAt w wr A s q r
  fl : FRow (A + 3) wr lv fs
  sl : SRow (A + 3) wr cv vs
theorem LpAt.same {w wr w1 : World} {A : Nat} {s : ByteArray} {q : Pn} {r : Rq} {lv cv : Value} {fs : List Fd} {vs : List (List UInt8)} (h : LpAt w wr A s q r lv cv fs vs) (hu : Upd (fun _ => False) wr w1) : LpAt w w1 A s q r lv cv fs vs :=
  ⟨h.re.same hu, h.fl.keep hu (fun _ _ h => h), h.sl.keep hu (fun _ _ h => h)⟩
theorem LpAt.close {w wr : World} {A : Nat} {s : ByteArray} {q : Pn} {r : Rq} {lv cv : Value} {fs : List Fd} {vs : List (List UInt8)} (h : LpAt w wr A s q r lv cv fs vs) (hA : w.heap.size ≤ A) (b : Bool) : LpAt w (wr.setCell ⟨A + 2, 4, none⟩ (.bool b)) A s q { r with close := b } lv cv fs vs := by
  have U : Upd (fun k => k = A + 2) wr (wr.setCell ⟨A + 2, 4, none⟩ (.bool b)) := Upd.one _ _ _ _
  exact ⟨h.re.set hA 4 (.bool b) rfl, h.fl.keep U (fun k hk e => by have := (h.fl.lt k hk).1; have e' : k = A + 2 := e; omega), h.sl.keep U (fun k hk e => by have := (h.sl.lt k hk).1; have e' : k = A + 2 := e; omega)⟩
theorem FRow.low {B B' : Nat} {w : World} {v : Value} {fs : List Fd} (h : FRow B w v fs) (hB : B' ≤ B) : FRow B' w v fs := by
  refine ⟨h.1, ?_⟩
  rcases h.2 with h2 | ⟨g, cap, cur, hv, hg, r⟩
  · exact Or.inl h2
  · exact Or.inr ⟨g, cap, cur, hv, by omega, r⟩
theorem SRow.low {B B' : Nat} {w : World} {v : Value} {ss : List (List UInt8)} (h : SRow B w v ss) (hB : B' ≤ B) : SRow B' w v ss := by
  refine ⟨h.1, ?_⟩
  rcases h.2 with h2 | ⟨g, cap, cur, hv, hg, r⟩
  · exact Or.inl h2
  · exact Or.inr ⟨g, cap, cur, hv, by omega, r⟩
def isClose (v : List UInt8) : Bool := smallL v == closL
theorem any_take (vs : List (List UInt8)) (k : Nat) (h : k < vs.length) : (vs.take (k + 1)).any isClose = ((vs.take k).any isClose || isClose vs[k]) := by
  rw [List.take_succ_eq_append_getElem h, List.any_append]
  simp

/-- A call of a function of four arguments, as one step of a region that draws. -/
theorem step_call4 {ops : Array Oper} {o : Oper} {a : Act} {w : World} {K : Act → World → Prop} {Q : Exit → Act → World → Prop} {E : Prop} {f : Nat} {v1 v2 v3 v4 : Value} {ts : Array TypeId} (R : Value → World → Prop)
    (hg : o.guard = none) (x1 x2 x3 x4 : Operand) (hop : o.op = Op.call { callee := Callee.value (.func f), args := #[x1, x2, x3, x4], argTypes := ts }) (hent : Ent f) (h1 : a.eval x1 = v1) (h2 : a.eval x2 = v2) (h3 : a.eval x3 = v3) (h4 : a.eval x4 = v4)
    (hc : Calls Tryz.prog f #[v1, v2, v3, v4] w fun e w' => ∃ r, e = .returned r ∧ R r w') (hK : ∀ r w', R r w' → K (a.put o.dst r) w') :
    if Region.wanted o (yielded ops a.tmps) = true then Oper.wp Tryz.prog o a w K Q else E := by
  have hw : Region.wanted o (yielded ops a.tmps) = true := by simp [Region.wanted, hg]
  rw [if_pos hw]
  have hrun : (execOp a.eval o).run Tryz.prog w = .ok (.enter f #[v1, v2, v3, v4]) w := by
    have hf : a.eval (.func f) = .func (.func f) #[] #[] := rfl
    have he := hent #[v1, v2, v3, v4] w
    simp [execOp, hop, resolve, invoke, hf, h1, h2, h3, h4, Deferred.ofValue, he]
  unfold Oper.wp
  rw [hrun, Oper.upon_enter]
  refine hc.mono ?_
  rintro e w' ⟨r, rfl, hR⟩
  exact hK r w' hR
theorem entValues : Ent 45 := enters_of Tryz.func45 (by kernel_rfl) rfl
theorem entBody : Ent 47 := enters_of Tryz.func47 (by kernel_rfl) rfl

/-- The values of a name, behind the loop. -/
theorem LpAt.values {w wr : World} {A : Nat} {s : ByteArray} {q : Pn} {r : Rq} {lv cv : Value} {fs : List Fd} {vs : List (List UInt8)} (h : LpAt w wr A s q r lv cv fs vs) (name : List UInt8) (hl : fs.length ≤ 10000000) (hz : A + 3 ≤ wr.heap.size) :
    Calls Tryz.prog 45 #[lv, .string ⟨name.toArray⟩] wr fun e w' => ∃ u, e = .returned u ∧ (SRow (A + 3) w' u (valuesP fs name) ∧ Upd (fun _ => False) wr w') := by
  refine (values_any (hid h.fl) name hl).mono ?_
  rintro e w' ⟨u, rfl, h1, h2⟩
  exact ⟨u, rfl, h1.low (by omega), h2⟩
theorem LpAt.size {w wr : World} {A : Nat} {s : ByteArray} {q : Pn} {r : Rq} {lv cv : Value} {fs : List Fd} {vs : List (List UInt8)} (h : LpAt w wr A s q r lv cv fs vs) : A + 3 ≤ wr.heap.size := lt_of_heap h.re.rq
theorem LpAt.rcells {w wr : World} {A : Nat} {s : ByteArray} {q : Pn} {r : Rq} {lv cv : Value} {fs : List Fd} {vs : List (List UInt8)} (h : LpAt w wr A s q r lv cv fs vs) : wr.cell? ⟨A + 2, 0, none⟩ = some (.int .i64 r.kind) ∧ wr.cell? ⟨A + 2, 1, none⟩ = some (.int .i64 r.status) ∧ wr.cell? ⟨A + 2, 2, none⟩ = some (.string ⟨r.method.toArray⟩) ∧ wr.cell? ⟨A + 2, 3, none⟩ = some (.string ⟨r.target.toArray⟩) ∧ wr.cell? ⟨A + 2, 4, none⟩ = some (.bool r.close) ∧ wr.cell? ⟨A + 2, 5, none⟩ = some (.string ⟨r.text.toArray⟩) := (cells6 h.re.rq).1

/-- The body's call. -/
theorem LpAt.body {w wr : World} {A : Nat} {s : ByteArray} {q : Pn} {r : Rq} {lv cv u1 u2 : Value} {fs : List Fd} {vs lens cods : List (List UInt8)} (h : LpAt w wr A s q r lv cv fs vs) (hs : s.size ≤ 2000000) (hr : r.text.length ≤ 100) (h1 : SRow (A + 3) wr u1 lens) (h2 : SRow (A + 3) wr u2 cods) (hb : ∀ x ∈ lens ++ cods, x.length ≤ 100000000) (hn : lens.length ≤ 100000000 ∧ cods.length ≤ 100000000) :
    Calls Tryz.prog 47 #[.pointer (some ⟨A + 1, 0, none⟩), .agg #[.int .i64 r.kind, .int .i64 r.status, .string ⟨r.method.toArray⟩, .string ⟨r.target.toArray⟩, .bool r.close, .string ⟨r.text.toArray⟩], u1, u2] wr fun e w' => ∃ v, e = .returned v ∧ (v = rqV (bodyP q r lens cods) ∧ Upd (fun k => k = A + 1) wr w') :=
  Calls.ret (body_any (hid h.re.pen) (by rw [h.re.eqs]; exact h.re.le) (by rw [h.re.eqs]; exact hs) r hr (hid h1) (hid h2) (hid hb) hn)
theorem vals_small {fs : List Fd} {n : Nat} (h : ∀ f ∈ fs, f.2.length ≤ n) (hn : n ≤ 2000000) (hl : fs.length ≤ 2000001) : (∀ x ∈ valuesP fs clenL ++ valuesP fs tencL, x.length ≤ 100000000) ∧ (valuesP fs clenL).length ≤ 100000000 ∧ (valuesP fs tencL).length ≤ 100000000 := by
  have h1 : ∀ name, ∀ x ∈ valuesP fs name, x.length ≤ n := by
    intro name x hx
    unfold valuesP at hx
    obtain ⟨f, hf', rfl⟩ := List.mem_map.1 hx
    exact h f (List.mem_filter.1 hf').1
  have h2 : ∀ name, (valuesP fs name).length ≤ fs.length := by
    intro name
    unfold valuesP; rw [List.length_map]; exact List.length_filter_le _ _
  refine ⟨fun x hx => ?_, by have := h2 clenL; omega, by have := h2 tencL; omega⟩
  rcases List.mem_append.1 hx with h3 | h3
  · have := h1 _ x h3; omega
  · have := h1 _ x h3; omega

set_option maxHeartbeats 12800000 in
set_option maxRecDepth 100000 in
theorem refRead_any (s : ByteArray) (hs : s.size ≤ 2000000) (w : World) :
    Calls Tryz.prog 18 #[.string s] w fun e w' => e = .returned (rqV (readP s)) ∧ Upd (fun _ => False) w w' := by
  obtain ⟨s1, s2, s3, s4⟩ := h_s s
  obtain ⟨i1, i2, i3, i4⟩ := h_i s
  have HB := hid (reat_begin w s)
  go_enter Tryz.func18, Tryz.ntmps18
  go_wp2_with fail
  unfold zero6 at HB
  generalize ((w.alloc (.cells #[.int .i64 0, .int .i64 0, .string ⟨#[]⟩, .string ⟨#[]⟩, .bool false, .string ⟨#[]⟩] 47)).alloc (.cells #[.string s, .int .i64 0, .bool false, .bool false] 86)).alloc (.cells #[.int .i64 0, .int .i64 0, .string ⟨#[]⟩, .string ⟨#[]⟩, .bool false, .string ⟨#[]⟩] 47) = X at *
  have hA : w.heap.size ≤ w.heap.size := Nat.le_refl _
  generalize hAz : w.heap.size = A at *
  simp only [Nat.add_assoc, Nat.reduceAdd]
  -- the method
  refine (row_any (hid HB.out.pen) (by show 0 ≤ s.size; omega) (by show s.size ≤ _; omega) 109 (by omega) 1 8 (by decide) (by decide)).mono ?_
  rintro e w1 ⟨rfl, hq⟩
  have hh1 := HB.out.pn (q' := h1 s) (by omega) hq s1 i1
  have H1 := hid (hh1.set (r' := ⟨0, 0, (h0 s).rowS 109 8, [], false, []⟩) (by omega) 2 (.string ⟨((h0 s).rowS 109 8).toArray⟩) rfl)
  obtain ⟨x2, x3, x4, x5⟩ := hh1.cellsR
  have x5' := x5 2
  clear hq hh1 HB x5
  have HM : Hid (∃ l, (h0 s).rowS 109 8 = l) := ⟨_, rfl⟩
  obtain ⟨lm, hlm⟩ := HM.out
  rw [hlm] at H1 ⊢
  clear HM
  go_wp2_with fail
  refine (exact_any (hid H1.out.pen) (by rw [s1]; exact i1) (by rw [s1]; omega) [32, 47] (by decide)).mono ?_
  rintro e w2 ⟨rfl, hq⟩
  have H2 := hid (H1.out.pn (q' := h2 s) (by omega) hq s2 i2)
  clear hq H1 x2 x3 x4 x5'
  go_wp2_with fail
  refine (row_any (hid H2.out.pen) (by rw [s2]; exact i2) (by rw [s2]; omega) 116 (by omega) 0 30 (by decide) (by decide)).mono ?_
  rintro e w3 ⟨rfl, hq⟩
  have hh3 := H2.out.pn (q' := h3 s) (by omega) hq s3 i3
  obtain ⟨x2, x3, x4, x5⟩ := hh3.cellsR
  have x5' := x5 3
  have HM : Hid (∃ l, (h2 s).rowS 116 30 = l) := ⟨_, rfl⟩
  obtain ⟨lt, hlt⟩ := HM.out
  have H3 := hid (hh3.set (r' := ⟨0, 0, lm, 47 :: lt, false, []⟩) (by omega) 3 (.string ⟨(47 :: lt).toArray⟩) rfl)
  have hltl : lt.length ≤ 30 := by rw [← hlt]; exact (rowS_in _ _ _).2
  have hcat : (⟨#[47]⟩ : ByteArray) ++ ⟨lt.toArray⟩ = ⟨(47 :: lt).toArray⟩ := by
    apply ByteArray.ext
    rw [ByteArray.data_append]
    simp
  rw [← hcat] at H3
  rw [hlt]
  clear hq hh3 H2 x5 HM hcat
  go_wp2_with fail
  refine (exact_any (hid H3.out.pen) (by rw [s3]; exact i3) (by rw [s3]; omega) httpTail (by decide)).mono ?_
  rintro e w4 ⟨rfl, hq⟩
  have H4 := hid (H3.out.pn (q' := h4 s) (by omega) hq s4 i4)
  clear hq H3 x2 x3 x4 x5'
  go_wp2_with fail
  refine (fields_any (hid H4.out.pen) (by rw [s4]; exact i4) (by rw [s4]; omega)).mono ?_
  rintro e w5 ⟨v, rfl, hfd⟩
  rw [s4] at hfd
  have H5 := hid (H4.out.pn (q' := h5 s) (by omega) ⟨hfd.pen, hfd.upd⟩ hfd.eqs hfd.le)
  have HR : Hid (FRow w4.heap.size w5 v (hf s)) := hfd.row
  have HZ : Hid (w4.heap.size ≤ w5.heap.size) := hfd.upd.size
  have hAw : A + 1 < w4.heap.size := lt_of_heap H4.out.pen
  have hAw2 : A + 2 < w4.heap.size := lt_of_heap H4.out.rq
  obtain ⟨ao, cp, hv, hcp⟩ := hfd.row.slice
  have hv' : v = .slice ao (hf s).length cp := hv
  subst hv'
  obtain ⟨hfl, hfs⟩ := h5_facts s
  obtain ⟨rp1, rp2, rp3, rp4, rp5⟩ := readP_early s
  have y1 : w5.cell? ⟨A + 1, 1, none⟩ = some (.int .i64 (h5 s).i) := cell_of_heap H5.out.pen 1
  have y2 : w5.cell? ⟨A + 1, 2, none⟩ = some (.bool (h5 s).more) := cell_of_heap H5.out.pen 2
  have y3 : w5.cell? ⟨A + 1, 3, none⟩ = some (.bool (h5 s).bad) := cell_of_heap H5.out.pen 3
  have HOn := hid (on_any (hid H5.out.pen))
  have HFS := hid hfs
  have HDf : Hid ((h5 s).on = (!(h5 s).more && !(h5 s).bad)) := rfl
  clear hfd H4 hv hfs
  cases hon : (h5 s).on
  · rw [hon] at HOn HDf
    by_cases hsz : 200 < s.size
    · have hsz' : (200 : Int) < (s.size : Int) := by omega
      have HP := hid (rp1 hon hsz)
      have HW := hid (fun X => wrong_any 431 X)
      go_wp2_with fail
      refine HOn.out.mono ?_
      rintro e w6 ⟨rfl, rfl⟩
      clear HOn
      go_wp2_with fail
      refine (HW.out _).mono ?_
      rintro e w6 ⟨rfl, hu6⟩
      obtain ⟨⟨⟨z0, z1, z2, z3, z4, z5⟩, ⟨f0, f1, f2, f3, f4, f5⟩⟩, hup⟩ := H5.out.done (by omega) (hu6.mono (fun _ _ h => h.elim)) (wrongR 431)
      have HUp := hid hup
      clear hup hu6 HW H5 HR y1 y2 y3 rp1 rp2 rp3 rp4 rp5 HDf hon
      unfold rqV
      unfold wrongR at *
      simp only at *
      go_wp2_with fail
      exact bodyPost_ret (v := rqV (wrongR 431)) (by simp [results, Tryz.results18, go_sem, z0, z1, z2, z3, z4, z5, rqV, wrongR]) rfl ⟨by rw [HP.out]; rfl, HUp.out⟩
    · have hsz' : ¬ (200 : Int) < (s.size : Int) := by omega
      cases hbad : (h5 s).bad
      · have hmore : (h5 s).more = true := by
          have hdef := HDf.out
          rw [hbad] at hdef
          cases hm : (h5 s).more
          · rw [hm] at hdef; cases hdef
          · rfl
        have HP := hid (rp4 hon hsz hbad hmore)
        rw [hbad] at y3
        rw [hmore] at y2
        go_wp2_with fail
        refine HOn.out.mono ?_
        rintro e w6 ⟨rfl, rfl⟩
        obtain ⟨⟨⟨z0, z1, z2, z3, z4, z5⟩, ⟨f0, f1, f2, f3, f4, f5⟩⟩, hup⟩ := H5.out.done (by omega) (Upd.refl _ _) ⟨0, 0, [], [], false, []⟩
        have HUp := hid hup
        clear hup H5 HR rp1 rp2 rp3 rp4 rp5 HDf hon HOn
        simp only at *
        go_wp2_with fail
        exact bodyPost_ret (v := rqV ⟨0, 0, [], [], false, []⟩) (by simp [results, Tryz.results18, go_sem, z0, z1, z2, z3, z4, z5, rqV]) rfl ⟨by rw [HP.out], HUp.out⟩
      · rw [hbad] at y3
        have HP := hid (rp3 hon hsz hbad)
        have HW := hid (fun X => wrong_any 400 X)
        go_wp2_with fail
        refine HOn.out.mono ?_
        rintro e w6 ⟨rfl, rfl⟩
        clear HOn
        go_wp2_with fail
        refine (HW.out _).mono ?_
        rintro e w6 ⟨rfl, hu6⟩
        obtain ⟨⟨⟨z0, z1, z2, z3, z4, z5⟩, ⟨f0, f1, f2, f3, f4, f5⟩⟩, hup⟩ := H5.out.done (by omega) (hu6.mono (fun _ _ h => h.elim)) (wrongR 400)
        have HUp := hid hup
        clear hup hu6 HW H5 HR y1 y2 y3 rp1 rp2 rp3 rp4 rp5 HDf hon
        unfold rqV
        unfold wrongR at *
        simp only at *
        go_wp2_with fail
        exact bodyPost_ret (v := rqV (wrongR 400)) (by simp [results, Tryz.results18, go_sem, z0, z1, z2, z3, z4, z5, rqV, wrongR]) rfl ⟨by rw [HP.out]; rfl, HUp.out⟩
  · rw [hon] at HOn HDf
    have hbad : (h5 s).bad = false := by
      cases hb : (h5 s).bad
      · rfl
      · have hdef := HDf.out; rw [hb] at hdef; simp at hdef
    have hmore : (h5 s).more = false := by
      cases hb : (h5 s).more
      · rfl
      · have hdef := HDf.out; rw [hb] at hdef; simp at hdef
    rw [hbad] at y3
    rw [hmore] at y2
    by_cases hsz : 200 < (h5 s).i
    · have hsz' : (200 : Int) < ((h5 s).i : Int) := by omega
      have HP := hid (rp2 hon hsz)
      have HW := hid (fun X => wrong_any 431 X)
      go_wp2_with fail
      refine HOn.out.mono ?_
      rintro e w6 ⟨rfl, rfl⟩
      clear HOn
      go_wp2_with fail
      refine (HW.out _).mono ?_
      rintro e w6 ⟨rfl, hu6⟩
      obtain ⟨⟨⟨z0, z1, z2, z3, z4, z5⟩, ⟨f0, f1, f2, f3, f4, f5⟩⟩, hup⟩ := H5.out.done (by omega) (hu6.mono (fun _ _ h => h.elim)) (wrongR 431)
      have HUp := hid hup
      clear hup hu6 HW H5 HR y1 y2 y3 rp1 rp2 rp3 rp4 rp5 HDf hon
      unfold rqV
      unfold wrongR at *
      simp only at *
      go_wp2_with fail
      exact bodyPost_ret (v := rqV (wrongR 431)) (by simp [results, Tryz.results18, go_sem, z0, z1, z2, z3, z4, z5, rqV, wrongR]) rfl ⟨by rw [HP.out]; rfl, HUp.out⟩
    · have hsz' : decide ((200 : Int) < ((h5 s).i : Int)) = false := decide_eq_false (by omega)
      have HP := hid (rp5 hon hsz hbad hmore)
      go_wp2_with fail
      refine HOn.out.mono ?_
      rintro e w6 ⟨rfl, rfl⟩
      clear HOn rp1 rp2 rp3 rp4 rp5
      go_wp2_with fail
      refine (values_any HR connL (by omega)).mono ?_
      rintro e w7 ⟨u, rfl, hsr, hu7⟩
      have hz6 : w4.heap.size ≤ w6.heap.size := HZ.out
      have H7 : Hid (LpAt w w7 A s (h5 s) ⟨0, 0, lm, 47 :: lt, false, []⟩ (.slice ao (hf s).length cp) u (hf s) (valuesP (hf s) connL)) := ⟨H5.out.same hu7, (HR.out.keep hu7 (fun _ _ h => h)).low (by omega), hsr.low (by omega)⟩
      obtain ⟨ao2, cp2, hv2, hcp2⟩ := hsr.slice
      subst hv2
      have hvl : (valuesP (hf s) connL).length ≤ (hf s).length := by unfold valuesP; rw [List.length_map]; exact List.length_filter_le _ _
      have HVs : Hid (∀ x ∈ valuesP (hf s) connL, x.length ≤ s.size) := by
        intro x hx
        unfold valuesP at hx
        obtain ⟨f, hf', rfl⟩ := List.mem_map.1 hx
        exact HFS.out f (List.mem_filter.1 hf').1
      clear hsr hu7 H5 HR y1 y2 y3
      have HCl : Hid ((headR s) = ⟨0, 0, lm, 47 :: lt, (valuesP (hf s) connL).any isClose, []⟩) := by
        show _ = _
        unfold headR
        rw [hlm, hlt]
        rfl
      generalize valuesP (hf s) connL = vs at *
      go_wp2_with fail
      go_loopw [9] (fun iv wr => ∃ k : Nat, iv = .int .i64 k ∧ k ≤ vs.length ∧ Hid (LpAt w wr A s (h5 s) ⟨0, 0, lm, 47 :: lt, (vs.take k).any isClose, []⟩ (.slice ao (hf s).length cp) (.slice ao2 vs.length cp2) (hf s) vs)) (fun iv _ => vs.length - (intOf iv).toNat)
      case atStart => exact ⟨0, rfl, Nat.zero_le _, H7⟩
      case round =>
        obtain ⟨k, rfl, hk, hlp⟩ := hrel
        clear H7
        by_cases hkl : k < vs.length
        · obtain ⟨x2, x3, x4, x5⟩ := hlp.out.re.cellsR
          have x5' := x5 4
          obtain ⟨g, rfl, hg⟩ := hlp.out.sl.get k hkl
          have hkv : vs[k].length ≤ s.size := HVs.out _ (List.getElem_mem hkl)
          have HAny := hid (any_take vs k hkl)
          unfold strV at hg
          cases hcb : (vs.take k).any isClose
          · rw [hcb] at x4 hlp HAny
            have HSm := hid (fun X => small_any ⟨vs[k].toArray⟩ X (by show vs[k].toArray.size ≤ _; simp; omega))
            generalize hvk : vs[k] = vk at *
            have HN : Hid (∀ X, Upd (fun _ => False) wr X → LpAt w (X.setCell ⟨A + 2, 4, none⟩ (.bool (isClose vk))) A s (h5 s) ⟨0, 0, lm, 47 :: lt, (vs.take (k + 1)).any isClose, []⟩ (.slice ao (hf s).length cp) (.slice (some ⟨g, 0, none⟩) vs.length cp2) (hf s) vs) := fun X hX => by
              rw [HAny.out, Bool.false_or]
              exact (hlp.out.same hX).close (by omega) (isClose vk)
            have HX5 : Hid (∀ X, Upd (fun _ => False) wr X → X.cell? ⟨A + 2, 4, none⟩ = some (.bool false) ∧ X.frozen? ⟨A + 2, 4, none⟩ = false) := fun X hX => ⟨(hlp.out.same hX).re.cellsR.2.2.1, (hlp.out.same hX).re.cellsR.2.2.2 4⟩
            obtain ⟨b, hb⟩ : ∃ b, (smallL vk == [99, 108, 111, 115, 101]) = b := ⟨_, rfl⟩
            have HNb : Hid (isClose vk = b) := hb
            rw [HNb.out] at HN
            go_wp2_with fail
            refine (HSm.out wr).mono ?_
            rintro e w8 ⟨rfl, hu8⟩
            obtain ⟨c4, f4⟩ := HX5.out w8 hu8
            have HE := hid (HN.out w8 hu8)
            clear hu8 HN HX5 HSm hlp x2 x3 x4 x5 x5' hvk hkv HAny
            generalize smallL vk = sv at hb
            go_wp2
            all_goals exact ⟨⟨k + 1, by go_num, by omega, HE⟩, by simp [intOf]; omega⟩
          · rw [hcb] at x4 hlp HAny
            have HE : Hid (LpAt w (wr.setCell ⟨A + 2, 4, none⟩ (.bool true)) A s (h5 s) ⟨0, 0, lm, 47 :: lt, (vs.take (k + 1)).any isClose, []⟩ (.slice ao (hf s).length cp) (.slice (some ⟨g, 0, none⟩) vs.length cp2) (hf s) vs) := by
              show LpAt _ _ _ _ _ _ _ _ _ _
              rw [HAny.out, Bool.true_or]
              exact hlp.out.close (by omega) true
            clear hlp HAny x5
            go_wp2
            exact ⟨⟨k + 1, by go_num, by omega, HE⟩, by simp [intOf]; omega⟩
        · obtain rfl : k = vs.length := by omega
          rw [List.take_length] at hlp
          have hfl' : (hf s).length ≤ 10000000 := by omega
          have HVS := hid (vals_small HFS.out hs (by omega))
          have h0d := hlp.out.same ((Upd.refl _ wr).drew)
          have HV1 : Hid (Calls Tryz.prog 45 #[.slice ao (hf s).length cp, .string ⟨#[99, 111, 110, 116, 101, 110, 116, 45, 108, 101, 110, 103, 116, 104]⟩] wr.drew fun e w' => ∃ u, e = .returned u ∧ (SRow (A + 3) w' u (valuesP (hf s) clenL) ∧ Upd (fun _ => False) wr.drew w')) := h0d.values clenL hfl' h0d.size
          obtain ⟨r0, r1, r2, r3, r4, r5⟩ := hlp.out.rcells
          obtain ⟨cl, hcl⟩ : ∃ b, vs.any isClose = b := ⟨_, rfl⟩
          rw [hcl] at hlp r4 HCl
          have HLp := hid hlp.out
          clear hlp hcl h0d HVs
          go_wp2_with fail
          go_region_law (
            (first
              | (refine step_call2 (v := .slice ao (hf s).length cp) (u := .string ⟨#[99, 111, 110, 116, 101, 110, 116, 45, 108, 101, 110, 103, 116, 104]⟩) _ rfl (.tmp 78) (.const (.string ⟨#[99, 111, 110, 116, 101, 110, 116, 45, 108, 101, 110, 103, 116, 104]⟩)) rfl entValues (by first | rfl | simp [Act.eval]) (by first | rfl | simp [Act.eval]) HV1.out ?_
                 rintro u1 w8 ⟨hs8, hu8⟩
                 have hu8' := ((Upd.refl _ wr).drew).trans hu8
                 have h8 := HLp.out.same hu8'
                 have HV2 : Hid (Calls Tryz.prog 45 #[.slice ao (hf s).length cp, .string ⟨#[116, 114, 97, 110, 115, 102, 101, 114, 45, 101, 110, 99, 111, 100, 105, 110, 103]⟩] w8 fun e w' => ∃ u, e = .returned u ∧ (SRow (A + 3) w' u (valuesP (hf s) tencL) ∧ Upd (fun _ => False) w8 w')) := h8.values tencL hfl' h8.size
                 obtain ⟨q0, q1, q2, q3, q4, q5⟩ := h8.rcells
                 have H8 := hid h8
                 have HS8 := hid hs8
                 clear hu8 hu8' h8 hs8 HV1)
              | (refine step_call2 (v := .slice ao (hf s).length cp) (u := .string ⟨#[116, 114, 97, 110, 115, 102, 101, 114, 45, 101, 110, 99, 111, 100, 105, 110, 103]⟩) _ rfl (.tmp 80) (.const (.string ⟨#[116, 114, 97, 110, 115, 102, 101, 114, 45, 101, 110, 99, 111, 100, 105, 110, 103]⟩)) rfl entValues (by first | rfl | simp [Act.eval]) (by first | rfl | simp [Act.eval]) HV2.out ?_
                 rintro u2 w9 ⟨hs9, hu9⟩
                 have h9 := H8.out.same hu9
                 have hs8' := HS8.out.keep hu9 (fun _ _ h => h)
                 have HB := hid (h9.body hs (Nat.zero_le _) hs8' hs9 HVS.out.1 HVS.out.2)
                 obtain ⟨p0, p1, p2, p3, p4, p5⟩ := h9.rcells
                 have H9 := hid h9
                 clear hu9 h9 hs8' hs9 HV2 HS8)
              | (refine step_call4 (v1 := .pointer (some ⟨A + 1, 0, none⟩)) (v2 := .agg #[.int .i64 (0 : Nat), .int .i64 (0 : Nat), .string ⟨lm.toArray⟩, .string ⟨(47 :: lt).toArray⟩, .bool cl, .string ⟨([] : List UInt8).toArray⟩]) (v3 := u1) (v4 := u2) _ rfl (.tmp 76) (.tmp 77) (.tmp 79) (.tmp 81) rfl entBody (by first | rfl | simp [Act.eval]) (by first | rfl | simp [Act.eval]) (by first | rfl | simp [Act.eval]) (by first | rfl | simp [Act.eval]) HB.out ?_
                 rintro rr w10 ⟨rfl, hu10⟩
                 have hdn := H9.out.re.done (by omega) hu10 (bodyP (h5 s) ⟨0, 0, lm, 47 :: lt, cl, []⟩ (valuesP (hf s) clenL) (valuesP (hf s) tencL))
                 obtain ⟨⟨⟨z0, z1, z2, z3, z4, z5⟩, ⟨f0, f1, f2, f3, f4, f5⟩⟩, hup⟩ := hdn
                 have HUp := hid hup
                 have HPb : Hid (readP s = bodyP (h5 s) ⟨0, 0, lm, 47 :: lt, cl, []⟩ (valuesP (hf s) clenL) (valuesP (hf s) tencL)) := by
                   show _ = _
                   rw [HP.out, HCl.out]
                 clear hup hu10 HB
                 generalize bodyP (h5 s) ⟨0, 0, lm, 47 :: lt, cl, []⟩ (valuesP (hf s) clenL) (valuesP (hf s) tencL) = br at HUp HPb ⊢
                 unfold rqV)))
          all_goals
            go_wp2_with fail
            exact bodyPost_ret (v := rqV br) (by simp [results, Tryz.results18, go_sem, z0, z1, z2, z3, z4, z5, rqV]) rfl ⟨by rw [HPb.out], HUp.out⟩

end Go.Proofs.YtiiapfkcmdkkoaaGreatDoor
