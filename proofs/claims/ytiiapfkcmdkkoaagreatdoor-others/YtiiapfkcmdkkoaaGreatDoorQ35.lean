import Derived.Test.YtiiapfkcmdkkoaaGreatDoorQ34
/-
  The document's own reader: values.
-/
namespace Go.Proofs.YtiiapfkcmdkkoaaGreatDoor
open Go.RowKit

/-- A row of strings, in a block that was not there at B. -/
def SRow (B : Nat) (w : World) (v : Value) (ss : List (List UInt8)) : Prop := w.ownsRow B 9 1 v ss.length (ss.map strV)
theorem SRow.nil (B : Nat) (w : World) : SRow B w (.slice none 0 0) [] := World.ownsRow_nil w B _ 1
theorem SRow.keep {B : Nat} {M : Nat → Prop} {w w' : World} {v : Value} {ss : List (List UInt8)} (h : SRow B w v ss) (hu : Upd M w w') (hm : ∀ k, v.ownBlock = some k → ¬ M k) : SRow B w' v ss := by
  refine ⟨h.1, ?_⟩
  rcases h.2 with h2 | ⟨g, cap, cur, hv, hg, hh, r⟩
  · exact Or.inl h2
  · exact Or.inr ⟨g, cap, cur, hv, hg, hu.keep hh (hm g (by rw [hv]; rfl)), r⟩
theorem SRow.lt {B : Nat} {w : World} {v : Value} {ss : List (List UInt8)} (h : SRow B w v ss) : ∀ k, v.ownBlock = some k → B ≤ k ∧ k < w.heap.size := fun k hk => World.ownsRow.lt h k hk
theorem SRow.slice {B : Nat} {w : World} {v : Value} {ss : List (List UInt8)} (h : SRow B w v ss) : ∃ ao cp, v = .slice ao ss.length cp ∧ ss.length ≤ cp := by
  rcases h.2 with ⟨h1, h2⟩ | ⟨g', cap', cur, hv, _, hh, hnc, hcm, hcs, htake⟩
  · exact ⟨none, 0, by rw [h1, h2], by omega⟩
  · exact ⟨_, _, hv, hnc⟩
theorem SRow.get {B : Nat} {w : World} {ao : Option Addr} {n cp : Nat} {ss : List (List UInt8)} (h : SRow B w (.slice ao n cp) ss) (i : Nat) (hi : i < ss.length) : ∃ g, ao = some ⟨g, 0, none⟩ ∧ w.cell? ⟨g, i, none⟩ = some (strV ss[i]) := by
  rcases h.2 with ⟨h1, h2⟩ | ⟨g, cap', cur, hv, _, hh, hnc, hcm, hcs, htake⟩
  · omega
  · injection hv with hv1 _ _
    refine ⟨g, hv1, ?_⟩
    have := World.ownsRow.cells h (g := g) (by rw [hv1]; rfl) i (strV ss[i]) (by simp [hi])
    rw [Go.WideShapes.add_plain] at this
    simpa using this
theorem FRow.get {B : Nat} {w : World} {ao : Option Addr} {n cp : Nat} {fs : List Fd} (h : FRow B w (.slice ao n cp) fs) (i : Nat) (hi : i < fs.length) : ∃ g, ao = some ⟨g, 0, none⟩ ∧ w.cell? ⟨g, i * 2, none⟩ = some (strV fs[i].1) ∧ w.cell? ⟨g, i * 2 + 1, none⟩ = some (strV fs[i].2) := by
  have hcells : ∀ (fs : List Fd) (i : Nat) (hi : i < fs.length), (fdCells fs)[i * 2]? = some (strV fs[i].1) ∧ (fdCells fs)[i * 2 + 1]? = some (strV fs[i].2) := by
    intro fs
    induction fs with
    | nil => intro i hi; simp at hi
    | cons f fs ih =>
      intro i hi
      have e : fdCells (f :: fs) = strV f.1 :: strV f.2 :: fdCells fs := rfl
      rw [e]
      match i with
      | 0 => exact ⟨rfl, rfl⟩
      | i + 1 =>
        have := ih i (by simpa using hi)
        have e1 : (i + 1) * 2 = i * 2 + 1 + 1 := by omega
        rw [e1]
        simpa using this
  rcases h.2 with ⟨h1, h2⟩ | ⟨g, cap', cur, hv, _, hh, hnc, hcm, hcs, htake⟩
  · omega
  · injection hv with hv1 _ _
    obtain ⟨k0, k1⟩ := hcells fs i hi
    refine ⟨g, hv1, ?_, ?_⟩
    · have := World.ownsRow.cells h (g := g) (by rw [hv1]; rfl) (i * 2) _ k0
      rw [Go.WideShapes.add_plain] at this
      simpa using this
    · have := World.ownsRow.cells h (g := g) (by rw [hv1]; rfl) (i * 2 + 1) _ k1
      rw [Go.WideShapes.add_plain] at this
      simpa using this

theorem infoString : ∃ i, Tryz.prog.info? 9 = some i ∧ i.zero = some (.string ⟨#[]⟩) ∧ i.size = 1 ∧ i.bytes = 16 := by
  have h : (Tryz.prog.info? 9).map (fun i => (i.zero, i.size, i.bytes)) = some (some (.string ⟨#[]⟩), 1, 16) := by kernel_rfl
  cases hi : Tryz.prog.info? 9 with
  | none => rw [hi] at h; cases h
  | some i =>
    rw [hi] at h
    simp only [Option.map_some, Option.some.injEq, Prod.mk.injEq] at h
    exact ⟨i, rfl, h.1, h.2.1, h.2.2⟩
theorem undStrs : Tryz.prog.underlying 45 = some (.slice 9) := by kernel_rfl

theorem wpList_append_s {ops : Array Oper} {rest : List Oper} {o : Oper} {a : Act} {w : World} {Q : Exit → Act → World → Prop} {B : Nat}
    (hg : o.guard = none) (s x : Operand) (hop : o.op = Op.call { callee := Callee.builtin Builtin.append, args := #[s, x], argTypes := #[45, 45] })
    (v : Value) (ss : List (List UInt8)) (hs : a.eval s = v) (hown : SRow B w v ss) (hB : B ≤ w.heap.size) (ad : Addr) (c : Nat) (f : List UInt8) (hx : a.eval x = .slice (some ad) 1 c) (hc0 : w.cell? ad = some (strV f)) (hb : ss.length ≤ 100000000)
    (hK : ∀ v' w', SRow B w' v' (ss ++ [f]) → w.grownBy w' v.ownBlock → wpList Tryz.prog ops Q rest (a.put o.dst v') w') :
    wpList Tryz.prog ops Q (o :: rest) a w := by
  obtain ⟨i, hi, hz, hsz, hby⟩ := infoString
  obtain ⟨v', w', hrun, r1, r2, _⟩ := run_append_own (P := Tryz.prog) w B 45 o.type 9 i (.string ⟨#[]⟩) 1 16 undStrs hi hz hsz hby rfl (by decide) v ss.length (ss.map strV) hown ad 1 c [strV f] rfl (by
    intro j u hj
    match j, hj with
    | 0, hj =>
      have : strV f = u := by simpa using hj
      rw [← this]
      have e : ad.add 0 = ad := rfl
      rw [e]; exact hc0) (by
    intro u hu
    have : u = strV f := by simpa using hu
    rw [this]; rfl) (by unfold maxLen; omega) (by omega) hB
  have r1' : SRow B w' v' (ss ++ [f]) := by
    unfold SRow
    rw [List.map_append, List.length_append]
    exact r1
  refine wpList_plain hg fun K hK' => ?_
  unfold Oper.wp execOp
  simp only [hop, resolve, invoke, builtin, Sem.run_bind, Sem.run_pure, Result.andThen_ok, List.map_toArray, List.map_cons, List.map_nil, hs, hx, hrun]
  exact hK' _ _ (hK v' w' r1' r2)

def valuesP (fs : List Fd) (name : List UInt8) : List (List UInt8) := (fs.filter fun f => f.1 == name).map (·.2)

set_option maxHeartbeats 1600000 in
set_option maxRecDepth 100000 in
theorem values_any {B : Nat} {w : World} {v : Value} {fs : List Fd} (h : Hid (FRow B w v fs)) (name : List UInt8) (hl : fs.length ≤ 10000000) :
    Calls Tryz.prog 45 #[v, .string ⟨name.toArray⟩] w fun e w' => ∃ u, e = .returned u ∧ SRow w.heap.size w' u (valuesP fs name) ∧ Upd (fun _ => False) w w' := by
  obtain ⟨ao, cp, rfl, hcp⟩ := h.out.slice
  go_enter Tryz.func45, Tryz.ntmps45
  go_wp2_with fail
  go_loopw [5, 6] (fun uv iv wr => ∃ k : Nat, iv = .int .i64 k ∧ k ≤ fs.length ∧ Hid (SRow w.heap.size wr uv (valuesP (fs.take k) name) ∧ Upd (fun _ => False) w wr)) (fun _ iv _ => fs.length - (intOf iv).toNat)
  case atStart => exact ⟨0, rfl, Nat.zero_le _, SRow.nil _ _, Upd.refl _ _⟩
  case round =>
    obtain ⟨k, rfl, hk, hx⟩ := hrel
    obtain ⟨ao2, cp2, rfl, hcp2⟩ := hx.out.1.slice
    by_cases hlt : k < fs.length
    · obtain ⟨g, rfl, hc0, hc1⟩ := (h.out.keep hx.out.2 (fun _ _ h => h)).get k hlt
      have hvl : (valuesP (fs.take k) name).length ≤ 10000000 := by
        unfold valuesP
        rw [List.length_map]
        have := List.length_filter_le (fun f : Fd => f.1 == name) (fs.take k)
        rw [List.length_take] at this
        omega
      have hst : valuesP (fs.take (k + 1)) name = valuesP (fs.take k) name ++ (if fs[k].1 == name then [fs[k].2] else []) := by
        unfold valuesP
        rw [List.take_succ_eq_append_getElem hlt, List.filter_append, List.map_append]
        cases hq : fs[k].1 == name <;> simp [hq]
      unfold strV at hc0 hc1
      generalize fs[k] = f at *
      cases hq : f.1 == name
      · rw [hq] at hst
        have HE : Hid (SRow w.heap.size wr (.slice ao2 (valuesP (fs.take k) name).length cp2) (valuesP (fs.take (k + 1)) name) ∧ Upd (fun _ => False) w wr) := by
          show _ ∧ _
          rw [hst]
          simpa using hx.out
        clear hx hst
        go_wp2
        exact ⟨⟨k + 1, by go_num, by omega, HE⟩, by simp [intOf]; omega⟩
      · rw [hq] at hst
        have hwB : w.heap.size ≤ (wr.alloc (.cells #[.string ⟨f.2.toArray⟩] 9)).heap.size := by
          have := hx.out.2.size
          simp
          omega
        have HRw := hid (hx.out.1.keep ((Upd.refl (fun _ => False) wr).alloc (.cells #[.string ⟨f.2.toArray⟩] 9)) (fun _ _ h => h))
        have HN0 := hid (cell_of_heap (heap_alloc_new wr (.cells #[.string ⟨f.2.toArray⟩] 9)) 0)
        go_wp2_with (at_builtin; refine wpList_append_s (B := w.heap.size) rfl (.tmp 20) (.tmp 26) rfl (.slice ao2 (valuesP (fs.take k) name).length cp2) (valuesP (fs.take k) name) rfl HRw.out hwB ⟨wr.heap.size, 0, none⟩ 1 f.2 rfl HN0.out (by omega) ?_)
        intro v' W hr hg
        have HE : Hid (SRow w.heap.size W v' (valuesP (fs.take (k + 1)) name) ∧ Upd (fun _ => False) w W) := by
          refine ⟨by rw [hst]; exact hr, ?_⟩
          have U : Upd (fun j => (Value.slice ao2 (valuesP (fs.take k) name).length cp2).ownBlock = some j) wr W := ((Upd.refl _ wr).alloc _).grown hg (fun k _ e => e)
          have hs := hx.out.2.size
          exact ⟨U.os.trans hx.out.2.os, U.tape.trans hx.out.2.tape, U.output.trans hx.out.2.output, Nat.le_trans hs U.size, fun j hj hn => (U.block j (by omega) (fun e => by have := (hx.out.1.lt j e).1; omega)).trans (hx.out.2.block j hj hn)⟩
        obtain ⟨ao3, cp3, rfl, hcp3⟩ := hr.slice
        clear hx hst hr hg HRw HN0 hwB
        go_wp2
        exact ⟨⟨k + 1, by go_num, by omega, HE⟩, by simp [intOf]; omega⟩
    · have hk' : k = fs.length := by omega
      have HE : Hid (SRow w.heap.size wr (.slice ao2 (valuesP (fs.take k) name).length cp2) (valuesP fs name) ∧ Upd (fun _ => False) w wr) := by
        have := hx.out
        rw [hk', List.take_length] at this
        show _ ∧ _
        rw [hk', List.take_length]
        exact this
      clear hx hk'
      go_wp2
      go_ret
      exact ⟨_, rfl, HE.out.1, HE.out.2⟩

end Go.Proofs.YtiiapfkcmdkkoaaGreatDoor

/-
  The document's own reader: chunks, the pure part.
-/
namespace Go.Proofs.YtiiapfkcmdkkoaaGreatDoor
open Go.RowKit

/-- Behind the line of a chunk's number. -/
def Pn.c1 (p : Pn) : Pn := p.rowP 120 1 4
def Pn.c2 (p : Pn) : Pn := p.c1.exact [13, 10]
def Pn.cn (p : Pn) : Nat := hexVal (p.rowS 120 4)
/-- Behind a chunk's bytes. -/
def Pn.c3 (p : Pn) (n : Nat) : Pn := if p.on = true ∧ 0 < n then (if p.s.size - p.i < n then { p with i := p.s.size, more := true } else { p with i := p.i + n }) else p
def Pn.ct (p : Pn) (n : Nat) : List UInt8 := if p.on = true ∧ 0 < n then (p.s.data.toList.drop p.i).take n else []
def chunksP : Nat → Pn → Rq → Rq
  | 0, _, r => r
  | g + 1, p, r =>
    if p.c2.on = true ∧ 100 < r.text.length + p.cn then wrongR 413 else
    if ((p.c2.c3 p.cn).exact [13, 10]).bad = true then wrongR 400 else
    if ((p.c2.c3 p.cn).exact [13, 10]).more = true then { r with text := r.text ++ p.c2.ct p.cn, kind := 1 } else
    if p.cn = 0 then { r with text := r.text ++ p.c2.ct p.cn, kind := 2 } else chunksP g ((p.c2.c3 p.cn).exact [13, 10]) { r with text := r.text ++ p.c2.ct p.cn }

theorem rowS_in (p : Pn) (kind : Int) (most : Nat) : (∀ c ∈ p.rowS kind most, inK kind c = true) ∧ (p.rowS kind most).length ≤ most := by
  unfold Pn.rowS
  split
  · split
    · simp
    · have h1 := spanLen_in (inK kind) most (p.s.data.toList.drop p.i)
      have h2 := spanLen_le (inK kind) most (p.s.data.toList.drop p.i)
      have e : p.span kind most = spanLen (inK kind) most (p.s.data.toList.drop p.i) := rfl
      rw [e]
      refine ⟨fun c hc => ?_, by rw [List.length_take]; omega⟩
      obtain ⟨j, hj, rfl⟩ := List.getElem_of_mem hc
      rw [List.length_take] at hj
      obtain ⟨c', hc1, hc2⟩ := h1 j (by omega)
      rw [List.getElem_take]
      rw [List.getElem?_eq_getElem (by omega)] at hc1
      injection hc1 with hc1
      rw [hc1]
      exact hc2
  · simp
theorem cn_lt (p : Pn) : p.cn < 65536 := by
  have h := rowS_in p 120 4
  exact hexVal_lt _ (fun c hc => h.1 c hc) h.2
theorem exact1_on (p : Pn) (c : UInt8) (h : (p.exact1 c).on = true) : p.on = true ∧ (p.exact1 c).i = p.i + 1 := by
  have hp : p.on = true := by
    cases hp : p.on with
    | true => rfl
    | false => rw [exact1_off p c hp, hp] at h; cases h
  refine ⟨hp, ?_⟩
  unfold Pn.exact1 at h ⊢
  rw [if_pos hp] at h ⊢
  split
  · rename_i h1
    rw [if_pos h1] at h
    split
    · rfl
    · rename_i h2
      rw [if_neg h2] at h
      simp [Pn.on] at h
  · rename_i h1
    rw [if_neg h1] at h
    simp [Pn.on] at h
theorem exact_on2 : ∀ (t : List UInt8) (p : Pn), (p.exact t).on = true → p.on = true ∧ (p.exact t).i = p.i + t.length
  | [], p, h => ⟨h, rfl⟩
  | c :: t, p, h => by
    have h1 := exact_on2 t (p.exact1 c) h
    have h2 := exact1_on p c h1.1
    refine ⟨h2.1, ?_⟩
    have := h1.2
    rw [h2.2] at this
    show ((p.exact1 c).exact t).i = _
    rw [this, List.length_cons]
    omega
theorem c_s (p : Pn) : p.c1.s = p.s ∧ p.c2.s = p.s := by
  have h1 : p.c1.s = p.s := rowP_s p _ _ _
  exact ⟨h1, (exact_s [13, 10] p.c1).1.trans h1⟩
theorem c_i (p : Pn) (h : p.i ≤ p.s.size) : p.c1.i ≤ p.s.size ∧ p.c2.i ≤ p.s.size := by
  have h1 : p.c1.i ≤ p.s.size := (rowP_i p _ _ _ h).1
  refine ⟨h1, ?_⟩
  have := (exact_s [13, 10] p.c1).2 (by rw [(c_s p).1]; exact h1)
  rw [(c_s p).1] at this
  exact this
theorem c3_s (p : Pn) (n : Nat) : (p.c3 n).s = p.s := by
  unfold Pn.c3
  split
  · split <;> rfl
  · rfl
theorem c3_i (p : Pn) (n : Nat) (h : p.i ≤ p.s.size) : (p.c3 n).i ≤ p.s.size ∧ p.i ≤ (p.c3 n).i := by
  unfold Pn.c3
  split
  · split
    · exact ⟨Nat.le_refl _, h⟩
    · exact ⟨by show p.i + n ≤ _; omega, by show p.i ≤ p.i + n; omega⟩
  · exact ⟨h, Nat.le_refl _⟩
/-- A round that goes on has read something. -/
theorem c4_on (p : Pn) (h : p.i ≤ p.s.size) (hon : ((p.c2.c3 p.cn).exact [13, 10]).on = true) : p.i < ((p.c2.c3 p.cn).exact [13, 10]).i := by
  have h1 := (exact_on2 _ _ hon).2
  have h2 := (c3_i p.c2 p.cn (by rw [(c_s p).2]; exact (c_i p h).2)).2
  have h3 : p.c1.i ≤ p.c2.i := exact_mono _ _
  have h4 : p.i ≤ p.c1.i := (rowP_i p _ _ _ h).2
  simp only [List.length_cons, List.length_nil] at h1
  omega

def rqCells (r : Rq) : Array Value := #[.int .i64 r.kind, .int .i64 r.status, .string ⟨r.method.toArray⟩, .string ⟨r.target.toArray⟩, .bool r.close, .string ⟨r.text.toArray⟩]
abbrev zero6 : Obj := .cells #[.int .i64 0, .int .i64 0, .string ⟨#[]⟩, .string ⟨#[]⟩, .bool false, .string ⟨#[]⟩] 47
/-- Between two chunks. -/
structure ChAt (w wr : World) (P : Nat) (s : ByteArray) (q : Pn) (r : Rq) : Prop where
  pen : PenAt wr P q
  upd : Upd (fun k => k = P) w wr
  rq : wr.heap[w.heap.size]? = some (.cells (rqCells r) 47 (0, 0))
  res : wr.heap[w.heap.size + 1]? = some zero6
  eqs : q.s = s
  le : q.i ≤ s.size
theorem ChAt.same {w wr w1 : World} {P : Nat} {s : ByteArray} {q : Pn} {r : Rq} (h : ChAt w wr P s q r) (hu : Upd (fun _ => False) wr w1) : ChAt w w1 P s q r :=
  ⟨hu.keep h.pen (fun h => h), h.upd.trans (hu.mono (fun _ _ h => h.elim)), hu.keep h.rq (fun h => h), hu.keep h.res (fun h => h), h.eqs, h.le⟩
theorem ChAt.pn {w wr w1 : World} {P : Nat} {s : ByteArray} {q q' : Pn} {r : Rq} (h : ChAt w wr P s q r) (hP : P < w.heap.size) (hx : PenX wr w1 P q') (hs : q'.s = s) (hi : q'.i ≤ s.size) : ChAt w w1 P s q' r :=
  ⟨hx.1, h.upd.trans hx.2, hx.2.keep h.rq (by omega), hx.2.keep h.res (by omega), hs, hi⟩
theorem ChAt.set {w wr : World} {P : Nat} {s : ByteArray} {q : Pn} {r r' : Rq} (h : ChAt w wr P s q r) (hP : P < w.heap.size) (i : Nat) (v : Value) (hr : (rqCells r).setIfInBounds i v = rqCells r') : ChAt w (wr.setCell ⟨w.heap.size, i, none⟩ v) P s q r' := by
  have U : Upd (fun k => k = w.heap.size) wr (wr.setCell ⟨w.heap.size, i, none⟩ v) := Upd.one _ _ _ _
  refine ⟨U.keep h.pen (by omega), h.upd.setCell (p := ⟨w.heap.size, i, none⟩) (fun h => absurd h (Nat.lt_irrefl _)) _, ?_, U.keep h.res (by omega), h.eqs, h.le⟩
  have := heap_setCell h.rq i v
  rw [hr] at this
  exact this
theorem Upd.six {M : Nat → Prop} {w w1 : World} (hu : Upd M w w1) (b : Nat) (hb : w.heap.size ≤ b) (v0 v1 v2 v3 v4 v5 : Value) : Upd M w ((((((w1.setCell ⟨b, 0, none⟩ v0).setCell ⟨b, 1, none⟩ v1).setCell ⟨b, 2, none⟩ v2).setCell ⟨b, 3, none⟩ v3).setCell ⟨b, 4, none⟩ v4).setCell ⟨b, 5, none⟩ v5) :=
  ((hu.four b hb v0 v1 v2 v3).setCell (p := ⟨b, 4, none⟩) (fun h => absurd h (by show ¬ b < _; omega)) _).setCell (p := ⟨b, 5, none⟩) (fun h => absurd h (by show ¬ b < _; omega)) _
theorem cells6 {w1 : World} {b : Nat} {v0 v1 v2 v3 v4 v5 : Value} {t : TypeId} (h : w1.heap[b]? = some (.cells #[v0, v1, v2, v3, v4, v5] t (0, 0))) :
    (w1.cell? ⟨b, 0, none⟩ = some v0 ∧ w1.cell? ⟨b, 1, none⟩ = some v1 ∧ w1.cell? ⟨b, 2, none⟩ = some v2 ∧ w1.cell? ⟨b, 3, none⟩ = some v3 ∧ w1.cell? ⟨b, 4, none⟩ = some v4 ∧ w1.cell? ⟨b, 5, none⟩ = some v5) ∧
    (w1.frozen? ⟨b, 0, none⟩ = false ∧ w1.frozen? ⟨b, 1, none⟩ = false ∧ w1.frozen? ⟨b, 2, none⟩ = false ∧ w1.frozen? ⟨b, 3, none⟩ = false ∧ w1.frozen? ⟨b, 4, none⟩ = false ∧ w1.frozen? ⟨b, 5, none⟩ = false) :=
  ⟨⟨cell_of_heap h 0, cell_of_heap h 1, cell_of_heap h 2, cell_of_heap h 3, cell_of_heap h 4, cell_of_heap h 5⟩, ⟨unfrozen_of_heap h 0, unfrozen_of_heap h 1, unfrozen_of_heap h 2, unfrozen_of_heap h 3, unfrozen_of_heap h 4, unfrozen_of_heap h 5⟩⟩

end Go.Proofs.YtiiapfkcmdkkoaaGreatDoor
