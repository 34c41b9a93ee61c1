import Derived.Test.YtiiapfkcmdkkoaaGreatDoorQ33
/-
  The document's own reader: fields.
-/
namespace Go.Proofs.YtiiapfkcmdkkoaaGreatDoor
open Go.RowKit

/-- A field: its name, its value. -/
abbrev Fd := List UInt8 × List UInt8
def fdCells (fs : List Fd) : List Value := fs.flatMap fun f => [.string ⟨f.1.toArray⟩, .string ⟨f.2.toArray⟩]
/-- A row of fields, in a block that was not there at B. -/
def FRow (B : Nat) (w : World) (v : Value) (fs : List Fd) : Prop := w.ownsRow B 118 2 v fs.length (fdCells fs)
theorem FRow.nil (B : Nat) (w : World) : FRow B w (.slice none 0 0) [] := World.ownsRow_nil w B _ 2
theorem FRow.keep {B : Nat} {M : Nat → Prop} {w w' : World} {v : Value} {fs : List Fd} (h : FRow B w v fs) (hu : Upd M w w') (hm : ∀ k, v.ownBlock = some k → ¬ M k) : FRow B w' v fs := by
  refine ⟨h.1, ?_⟩
  rcases h.2 with h2 | ⟨g, cap, cur, hv, hg, hh, r⟩
  · exact Or.inl h2
  · exact Or.inr ⟨g, cap, cur, hv, hg, hu.keep hh (hm g (by rw [hv]; rfl)), r⟩
theorem FRow.lt {B : Nat} {w : World} {v : Value} {fs : List Fd} (h : FRow B w v fs) : ∀ k, v.ownBlock = some k → B ≤ k ∧ k < w.heap.size := fun k hk => World.ownsRow.lt h k hk
theorem FRow.slice {B : Nat} {w : World} {v : Value} {fs : List Fd} (h : FRow B w v fs) : ∃ ao cp, v = .slice ao fs.length cp ∧ fs.length ≤ cp := by
  rcases h.2 with ⟨h1, h2⟩ | ⟨g', cap', cur, hv, _, hh, hnc, hcm, hcs, htake⟩
  · exact ⟨none, 0, by rw [h1, h2], by omega⟩
  · exact ⟨_, _, hv, hnc⟩

theorem rowP_s (p : Pn) (kind : Int) (least most : Nat) : (p.rowP kind least most).s = p.s := by
  unfold Pn.rowP
  split
  · split <;> rfl
  · rfl
theorem span_le (p : Pn) (kind : Int) (most : Nat) (hi : p.i ≤ p.s.size) : p.i + p.span kind most ≤ p.s.size := by
  have := (spanLen_le (inK kind) most (p.s.data.toList.drop p.i)).2
  rw [List.length_drop, Array.length_toList] at this
  have e : p.s.data.size = p.s.size := rfl
  unfold Pn.span
  omega
theorem rowP_i (p : Pn) (kind : Int) (least most : Nat) (hi : p.i ≤ p.s.size) : (p.rowP kind least most).i ≤ p.s.size ∧ p.i ≤ (p.rowP kind least most).i := by
  have := span_le p kind most hi
  unfold Pn.rowP
  split
  · split
    · exact ⟨this, Nat.le_add_right _ _⟩
    · exact ⟨this, Nat.le_add_right _ _⟩
  · exact ⟨hi, Nat.le_refl _⟩
theorem rowP_on (p : Pn) (kind : Int) (least most : Nat) (h : (p.rowP kind least most).on = true) : p.on = true ∧ p.i + least ≤ (p.rowP kind least most).i := by
  unfold Pn.rowP at h ⊢
  by_cases ho : p.on = true
  · rw [if_pos ho] at h ⊢
    refine ⟨ho, ?_⟩
    by_cases hz : p.s.size ≤ p.i + p.span kind most
    · rw [if_pos hz] at h
      simp [Pn.on] at h
    · rw [if_neg hz] at h ⊢
      have : ¬ p.span kind most < least := by
        simp only [Pn.on, Bool.and_eq_true, Bool.not_eq_true', decide_eq_false_iff_not] at h
        exact h.2
      show p.i + least ≤ p.i + p.span kind most
      omega
  · rw [if_neg ho] at h
    exact absurd h ho
theorem exact1_mono (p : Pn) (c : UInt8) : p.i ≤ (p.exact1 c).i := by
  unfold Pn.exact1
  split
  · split
    · split
      · exact Nat.le_succ _
      · exact Nat.le_refl _
    · exact Nat.le_refl _
  · exact Nat.le_refl _
theorem exact_mono : ∀ (t : List UInt8) (p : Pn), p.i ≤ (p.exact t).i
  | [], _ => Nat.le_refl _
  | c :: t, p => Nat.le_trans (exact1_mono p c) (exact_mono t (p.exact1 c))
theorem exact_on : ∀ (t : List UInt8) (p : Pn), (p.exact t).on = true → p.on = true := by
  intro t p h
  cases hp : p.on
  · rw [exact_off t p hp, hp] at h; cases h
  · rfl

/-- One field. -/
def Pn.f1 (p : Pn) : Pn := p.rowP 110 1 20
def Pn.f2 (p : Pn) : Pn := p.f1.exact [58]
def Pn.f3 (p : Pn) : Pn := p.f2.rowP 118 0 p.s.size
def Pn.f4 (p : Pn) : Pn := p.f3.exact [13, 10]
def Pn.fd (p : Pn) : Fd := (smallL (p.rowS 110 20), trimR (p.f2.rowS 118 p.s.size))
theorem f_s (p : Pn) : p.f1.s = p.s ∧ p.f2.s = p.s ∧ p.f3.s = p.s ∧ p.f4.s = p.s := by
  have h1 : p.f1.s = p.s := rowP_s _ _ _ _
  have h2 : p.f2.s = p.s := (exact_s _ _).1.trans h1
  have h3 : p.f3.s = p.s := (rowP_s _ _ _ _).trans h2
  exact ⟨h1, h2, h3, (exact_s _ _).1.trans h3⟩
theorem f_i (p : Pn) (hi : p.i ≤ p.s.size) : p.f1.i ≤ p.s.size ∧ p.f2.i ≤ p.s.size ∧ p.f3.i ≤ p.s.size ∧ p.f4.i ≤ p.s.size := by
  obtain ⟨s1, s2, s3, s4⟩ := f_s p
  have h1 : p.f1.i ≤ p.s.size := (rowP_i p 110 1 20 hi).1
  have h2 : p.f2.i ≤ p.s.size := by have := (exact_s [58] p.f1).2 (by rw [s1]; exact h1); rw [s1] at this; exact this
  have h3 : p.f3.i ≤ p.s.size := by have := (rowP_i p.f2 118 0 p.s.size (by rw [s2]; exact h2)).1; rw [s2] at this; exact this
  have h4 : p.f4.i ≤ p.s.size := by have := (exact_s [13, 10] p.f3).2 (by rw [s3]; exact h3); rw [s3] at this; exact this
  exact ⟨h1, h2, h3, h4⟩
theorem f_on (p : Pn) (hi : p.i ≤ p.s.size) (h : p.f4.on = true) : p.i < p.f4.i := by
  obtain ⟨s1, s2, s3, s4⟩ := f_s p
  obtain ⟨i1, i2, i3, i4⟩ := f_i p hi
  have h3 : p.f3.on = true := exact_on _ _ h
  have h2 : p.f2.on = true := (rowP_on p.f2 118 0 p.s.size h3).1
  have h1 : p.f1.on = true := exact_on _ _ h2
  have k1 := (rowP_on p 110 1 20 h1).2
  have m1 : p.f1.i ≤ p.f2.i := exact_mono _ _
  have m2 : p.f2.i ≤ p.f3.i := (rowP_i p.f2 118 0 p.s.size (by rw [s2]; exact i2)).2
  have m3 : p.f3.i ≤ p.f4.i := exact_mono _ _
  have k2 : p.i + 1 ≤ p.f1.i := k1
  omega

/-- The fields, up to the empty line. -/
def fieldsP : Nat → Pn → List Fd → Pn × List Fd
  | 0, p, fs => (p, fs)
  | n + 1, p, fs => if p.on = true then (if p.s.data.toList[p.i]? = some 13 then (p.exact [13, 10], fs) else fieldsP n p.f4 (fs ++ [p.fd])) else (p, fs)
theorem fieldsP_off (n : Nat) (p : Pn) (fs : List Fd) (h : p.on = false) : fieldsP n p fs = (p, fs) := by
  cases n with
  | zero => rfl
  | succ n => simp only [fieldsP]; rw [if_neg (by rw [h]; decide)]

theorem rowS_le (p : Pn) (kind : Int) (most : Nat) : (p.rowS kind most).length ≤ p.s.size := by
  unfold Pn.rowS
  split
  · split
    · simp
    · rw [List.length_take, List.length_drop, Array.length_toList]
      have e : p.s.data.size = p.s.size := rfl
      omega
  · simp

theorem fdCells_snoc (fs : List Fd) (f : Fd) : fdCells (fs ++ [f]) = fdCells fs ++ [.string ⟨f.1.toArray⟩, .string ⟨f.2.toArray⟩] := by
  unfold fdCells
  rw [List.flatMap_append]
  simp
theorem infoField : ∃ i z, Tryz.prog.info? 118 = some i ∧ i.zero = some z ∧ i.size = 2 ∧ i.bytes = 32 ∧ z.cells.size = 2 := by
  have h : (Tryz.prog.info? 118).map (fun i => (i.zero, i.size, i.bytes)) = some (some (.agg #[.string ⟨#[]⟩, .string ⟨#[]⟩]), 2, 32) := by kernel_rfl
  cases hi : Tryz.prog.info? 118 with
  | none => rw [hi] at h; cases h
  | some i =>
    rw [hi] at h
    simp only [Option.map_some, Option.some.injEq, Prod.mk.injEq] at h
    exact ⟨i, _, rfl, h.1, h.2.1, h.2.2, rfl⟩
theorem undFields : Tryz.prog.underlying 89 = some (.slice 118) := by kernel_rfl

theorem wpList_append_fd {ops : Array Oper} {rest : List Oper} {o : Oper} {a : Act} {w : World} {Q : Exit → Act → World → Prop} {B : Nat}
    (hg : o.guard = none) (s x : Operand) (hop : o.op = Op.call { callee := Callee.builtin Builtin.append, args := #[s, x], argTypes := #[89, 89] })
    (v : Value) (fs : List Fd) (hs : a.eval s = v) (hown : FRow B w v fs) (hB : B ≤ w.heap.size) (ad : Addr) (c : Nat) (f : Fd) (hx : a.eval x = .slice (some ad) 1 c) (hc0 : w.cell? ad = some (.string ⟨f.1.toArray⟩)) (hc1 : w.cell? (ad.add 1) = some (.string ⟨f.2.toArray⟩)) (hb : fs.length ≤ 100000000)
    (hK : ∀ v' w', FRow B w' v' (fs ++ [f]) → w.grownBy w' v.ownBlock → wpList Tryz.prog ops Q rest (a.put o.dst v') w') :
    wpList Tryz.prog ops Q (o :: rest) a w := by
  obtain ⟨i, z, hi, hz, hsz, hby, hzs⟩ := infoField
  obtain ⟨v', w', hrun, r1, r2, _⟩ := run_append_own (P := Tryz.prog) w B 89 o.type 118 i z 2 32 undFields hi hz hsz hby hzs (by decide) v fs.length (fdCells fs) hown ad 1 c [.string ⟨f.1.toArray⟩, .string ⟨f.2.toArray⟩] rfl (by
    intro j u hj
    match j, hj with
    | 0, hj =>
      have : Value.string ⟨f.1.toArray⟩ = u := by simpa using hj
      rw [← this]
      have e : ad.add 0 = ad := rfl
      rw [e]; exact hc0
    | 1, hj =>
      have : Value.string ⟨f.2.toArray⟩ = u := by simpa using hj
      rw [← this]; exact hc1) (by
    intro u hu
    rcases List.mem_cons.1 hu with rfl | hu
    · rfl
    · have : u = .string ⟨f.2.toArray⟩ := by simpa using hu
      rw [this]; rfl) (by unfold maxLen; omega) (by omega) hB
  have r1' : FRow B w' v' (fs ++ [f]) := by
    unfold FRow
    rw [fdCells_snoc, List.length_append]
    exact r1
  refine wpList_plain hg fun K hK' => ?_
  unfold Oper.wp execOp
  simp only [hop, resolve, invoke, builtin, Sem.run_bind, Sem.run_pure, Result.andThen_ok, List.map_toArray, List.map_cons, List.map_nil, hs, hx, hrun]
  exact hK' _ _ (hK v' w' r1' r2)

end Go.Proofs.YtiiapfkcmdkkoaaGreatDoor

/-
  The document's own reader: fields, walked.
-/
namespace Go.Proofs.YtiiapfkcmdkkoaaGreatDoor
open Go.RowKit

/-- Between two fields. -/
structure FdAt (w wr : World) (P : Nat) (s : ByteArray) (q : Pn) (v : Value) (fs : List Fd) : Prop where
  pen : PenAt wr P q
  upd : Upd (fun k => k = P) w wr
  row : FRow w.heap.size wr v fs
  eqs : q.s = s
  le : q.i ≤ s.size
theorem FdAt.same {w wr w1 : World} {P : Nat} {s : ByteArray} {q : Pn} {v : Value} {fs : List Fd} (h : FdAt w wr P s q v fs) (hu : Upd (fun _ => False) wr w1) : FdAt w w1 P s q v fs :=
  ⟨hu.keep h.pen (fun h => h), h.upd.trans (hu.mono (fun _ _ h => h.elim)), h.row.keep hu (fun _ _ h => h), h.eqs, h.le⟩
theorem FdAt.pn {w wr w1 : World} {P : Nat} {s : ByteArray} {q q' : Pn} {v : Value} {fs : List Fd} (h : FdAt w wr P s q v fs) (hP : P < w.heap.size) (hx : PenX wr w1 P q') (hs : q'.s = s) (hi : q'.i ≤ s.size) : FdAt w w1 P s q' v fs :=
  ⟨hx.1, h.upd.trans hx.2, h.row.keep hx.2 (fun k hk e => by have := (h.row.lt k hk).1; have e' : k = P := e; omega), hs, hi⟩

theorem FdAt.app {w wr W : World} {P : Nat} {s : ByteArray} {q : Pn} {v v' : Value} {fs fs' : List Fd} {o : Obj} (h : FdAt w wr P s q v fs) (hP : P < w.heap.size) (hr : FRow w.heap.size W v' fs') (hg : (wr.alloc o).grownBy W v.ownBlock) : FdAt w W P s q v' fs' := by
  have hs := h.upd.size
  have U : Upd (fun k => v.ownBlock = some k) wr W := ((Upd.refl _ wr).alloc o).grown hg (fun k _ e => e)
  refine ⟨U.keep h.pen (fun e => ?_), ⟨U.os.trans h.upd.os, U.tape.trans h.upd.tape, U.output.trans h.upd.output, Nat.le_trans hs U.size, fun k hk hn => (U.block k (by omega) (fun e => ?_)).trans (h.upd.block k hk hn)⟩, hr, h.eqs, h.le⟩
  · have := (h.row.lt P e).1; omega
  · have := (h.row.lt k e).1; omega

set_option maxHeartbeats 3200000 in
set_option maxRecDepth 100000 in
theorem fields_any {w : World} {P : Nat} {p : Pn} (h : Hid (PenAt w P p)) (hi : p.i ≤ p.s.size) (hs : p.s.size ≤ 2000000) :
    Calls Tryz.prog 42 #[.pointer (some ⟨P, 0, none⟩)] w fun e w' => ∃ v, e = .returned v ∧ FdAt w w' P p.s (fieldsP (p.s.size + 1) p []).1 v (fieldsP (p.s.size + 1) p []).2 := by
  have hP := lt_of_heap h.out
  go_enter Tryz.func42, Tryz.ntmps42
  go_wp2_with fail
  go_loopg [3] (p.s.size + 1) (fun gn lv wr => ∃ (q : Pn) (fs : List Fd), Hid (FdAt w wr P p.s q lv fs) ∧ (q.on = true → p.s.size - q.i < gn) ∧ fs.length + gn ≤ p.s.size + 1 ∧ Hid (fieldsP gn q fs = fieldsP (p.s.size + 1) p []))
  case atStart => exact ⟨p, [], ⟨h.out, Upd.refl _ _, FRow.nil _ _, rfl, hi⟩, fun _ => by omega, by simp, rfl⟩
  case round =>
    obtain ⟨q, fs, hx, hgn, hfl, hf⟩ := hrel
    have HOn := hid (on_any (hid hx.out.pen))
    obtain ⟨ao, cp, rfl, hcp⟩ := hx.out.row.slice
    cases hon : q.on
    · rw [hon] at HOn
      have HE : Hid (FdAt w wr P p.s (fieldsP (p.s.size + 1) p []).1 (.slice ao fs.length cp) (fieldsP (p.s.size + 1) p []).2) := by
        show FdAt _ _ _ _ _ _ _
        rw [← hf.out, fieldsP_off _ _ _ hon]
        exact hx.out
      clear hx hf hgn hon
      go_wp2_with fail
      refine HOn.out.mono ?_
      rintro e w1 ⟨rfl, rfl⟩
      go_wp2
      go_ret
      exact ⟨_, rfl, HE.out⟩
    · rw [hon] at HOn
      have hqs := hx.out.eqs
      have hqi := hx.out.le
      obtain ⟨g, rfl⟩ : ∃ g, gk = g + 1 := ⟨gk - 1, by have := hgn hon; omega⟩
      have c0 : wr.cell? ⟨P, 0, none⟩ = some (.string q.s) := cell_of_heap hx.out.pen 0
      have c1 : wr.cell? ⟨P, 1, none⟩ = some (.int .i64 q.i) := cell_of_heap hx.out.pen 1
      rw [hqs] at c0
      by_cases h13 : q.s.data.toList[q.i]? = some 13
      · have hlt : q.i < p.s.size := by
          rw [hqs] at h13
          have := (List.getElem?_eq_some_iff.1 h13).1
          rw [Array.length_toList] at this
          exact this
        have hb : ((p.s[q.i].toNat : Int) == 13) = true := by
          rw [hqs, Array.getElem?_toList, Array.getElem?_eq_getElem hlt] at h13
          injection h13 with h13
          have : p.s[q.i] = 13 := h13
          rw [this]; rfl
        have HEx := hid (exact_any (hid hx.out.pen) (by rw [hqs]; exact hqi) (by rw [hqs]; omega) [13, 10] (by decide))
        have HE : Hid (∀ W, Upd (fun _ => False) wr W → Calls Tryz.prog 41 #[.pointer (some ⟨P, 0, none⟩), .string ⟨#[13, 10]⟩] W fun e w' => e = .returned (.tuple #[]) ∧ FdAt w w' P p.s (fieldsP (p.s.size + 1) p []).1 (.slice ao fs.length cp) (fieldsP (p.s.size + 1) p []).2) := by
          intro W hW
          have hx2 := hx.out.same hW
          refine (exact_any (hid hx2.pen) (by rw [hqs]; exact hqi) (by rw [hqs]; omega) [13, 10] (by decide)).mono ?_
          rintro e w' ⟨rfl, hq⟩
          refine ⟨rfl, ?_⟩
          rw [← hf.out]
          simp only [fieldsP]
          rw [if_pos hon, if_pos h13]
          have hes := exact_s [13, 10] q
          exact hx2.pn hP hq (hes.1.trans hqs) (by have := hes.2 (by rw [hqs]; exact hqi); rw [hqs] at this; exact this)
        have hlt' : (q.i : Int) < (p.s.size : Int) := by omega
        clear hx hf hgn hon h13 HEx hqs
        go_wp2_with fail
        refine HOn.out.mono ?_
        rintro e w1 ⟨rfl, rfl⟩
        clear HOn
        go_wp2_with fail
        go_quiet (fail)
        go_wp2_with fail
        refine (HE.out _ ((Upd.refl _ _).drewN _)).mono ?_
        rintro e w2 ⟨rfl, hq⟩
        have HQ := hid hq
        clear hq HE
        go_wp2
        go_ret
        exact ⟨_, rfl, HQ.out⟩
      · have HNx : Hid (fieldsP (g + 1) q fs = fieldsP g q.f4 (fs ++ [q.fd])) := by
          show _ = _
          simp only [fieldsP]
          rw [if_pos hon, if_neg h13]
        have hfs := f_s q
        have hfi := f_i q (by rw [hqs]; exact hqi)
        rw [hqs] at hfs hfi
        have HC1 : Hid (∀ W, Upd (fun _ => False) wr W → Calls Tryz.prog 40 #[.pointer (some ⟨P, 0, none⟩), .int .u8 110, .int .i64 1, .int .i64 20] W fun e w' => e = .returned (.string ⟨(q.rowS 110 20).toArray⟩) ∧ FdAt w w' P p.s q.f1 (.slice ao fs.length cp) fs) := by
          intro W hW
          have hx2 := hx.out.same hW
          refine (row_any (hid hx2.pen) (by rw [hqs]; exact hqi) (by rw [hqs]; omega) 110 (by omega) 1 20 (by decide) (by decide)).mono ?_
          rintro e w' ⟨rfl, hq⟩
          exact ⟨rfl, hx2.pn hP hq hfs.1 hfi.1⟩
        have HC2 : Hid (∀ W, FdAt w W P p.s q.f1 (.slice ao fs.length cp) fs → Calls Tryz.prog 41 #[.pointer (some ⟨P, 0, none⟩), .string ⟨#[58]⟩] W fun e w' => e = .returned (.tuple #[]) ∧ FdAt w w' P p.s q.f2 (.slice ao fs.length cp) fs) := by
          intro W hx2
          refine (exact_any (hid hx2.pen) (by rw [hfs.1]; exact hfi.1) (by rw [hfs.1]; omega) [58] (by decide)).mono ?_
          rintro e w' ⟨rfl, hq⟩
          exact ⟨rfl, hx2.pn hP hq hfs.2.1 hfi.2.1⟩
        have HC3 : Hid (∀ W, FdAt w W P p.s q.f2 (.slice ao fs.length cp) fs → Calls Tryz.prog 40 #[.pointer (some ⟨P, 0, none⟩), .int .u8 118, .int .i64 0, .int .i64 p.s.size] W fun e w' => e = .returned (.string ⟨(q.f2.rowS 118 p.s.size).toArray⟩) ∧ FdAt w w' P p.s q.f3 (.slice ao fs.length cp) fs) := by
          intro W hx2
          refine (row_any (hid hx2.pen) (by rw [hfs.2.1]; exact hfi.2.1) (by rw [hfs.2.1]; omega) 118 (by omega) 0 p.s.size (by decide) (by omega)).mono ?_
          rintro e w' ⟨rfl, hq⟩
          have e3 : q.f3 = q.f2.rowP 118 0 p.s.size := by unfold Pn.f3; rw [hqs]
          rw [← e3] at hq
          exact ⟨rfl, hx2.pn hP hq hfs.2.2.1 hfi.2.2.1⟩
        have HC4 : Hid (∀ W, FdAt w W P p.s q.f3 (.slice ao fs.length cp) fs → Calls Tryz.prog 41 #[.pointer (some ⟨P, 0, none⟩), .string ⟨#[13, 10]⟩] W fun e w' => e = .returned (.tuple #[]) ∧ FdAt w w' P p.s q.f4 (.slice ao fs.length cp) fs) := by
          intro W hx2
          refine (exact_any (hid hx2.pen) (by rw [hfs.2.2.1]; exact hfi.2.2.1) (by rw [hfs.2.2.1]; omega) [13, 10] (by decide)).mono ?_
          rintro e w' ⟨rfl, hq⟩
          exact ⟨rfl, hx2.pn hP hq hfs.2.2.2 hfi.2.2.2⟩
        have HL1 : Hid ((q.rowS 110 20).length ≤ 100000000 ∧ (q.f2.rowS 118 p.s.size).length ≤ 100000000) := by
          have h1 := rowS_le q 110 20
          have h2 := rowS_le q.f2 118 p.s.size
          rw [hqs] at h1
          rw [hfs.2.1] at h2
          exact ⟨by omega, by omega⟩
        have HProg : Hid (q.f4.on = true → p.s.size - q.f4.i < g) := by
          intro h4
          have := f_on q (by rw [hqs]; exact hqi) h4
          have := hgn hon
          have := hfi.2.2.2
          omega
        have HFd : Hid (q.fd = (smallL (q.rowS 110 20), trimR (q.f2.rowS 118 p.s.size))) := by show _ = _; unfold Pn.fd; rw [hqs]
        have hcase : (decide (q.i < p.s.size) = false ∧ p.s.size ≤ q.i) ∨ (∃ hlt : q.i < p.s.size, (q.i : Int) < (p.s.size : Int) ∧ ((p.s[q.i].toNat : Int) == 13) = false) := by
          by_cases hlt : q.i < p.s.size
          · refine Or.inr ⟨hlt, by omega, ?_⟩
            rw [hqs, Array.getElem?_toList, Array.getElem?_eq_getElem hlt] at h13
            have hne : ¬ p.s[q.i] = 13 := fun e => h13 (by rw [← e]; rfl)
            have : ¬ (p.s[q.i].toNat : Int) = 13 := fun e => hne (UInt8.toNat_inj.1 (by show p.s[q.i].toNat = 13; omega))
            simpa using this
          · exact Or.inl ⟨decide_eq_false (by omega), by omega⟩
        clear hx hgn hon h13 hfs hfi hqs
        generalize hA1 : q.rowS 110 20 = l1 at *
        generalize hA2 : q.f2.rowS 118 p.s.size = l2 at *
        clear hA1 hA2
        rcases hcase with ⟨hd, hlt⟩ | ⟨hlt, hlt', hb⟩
        all_goals
          go_wp2_with fail
          refine HOn.out.mono ?_
          rintro e w1 ⟨rfl, rfl⟩
          clear HOn
          go_wp2_with fail
          go_quiet (fail)
          go_wp2_with fail
          refine (HC1.out _ ((Upd.refl _ _).drewN _)).mono ?_
          rintro e w2 ⟨rfl, hq2⟩
          have HQ2 := hid hq2
          clear hq2 HC1
          go_wp2_with fail
          refine (HC2.out _ HQ2.out).mono ?_
          rintro e w3 ⟨rfl, hq3⟩
          have HQ3 := hid hq3
          have d0 : w3.cell? ⟨P, 0, none⟩ = some (.string q.f2.s) := cell_of_heap hq3.pen 0
          rw [hq3.eqs] at d0
          clear hq3 HC2 HQ2
          go_wp2_with fail
          refine (HC3.out _ HQ3.out).mono ?_
          rintro e w4 ⟨rfl, hq4⟩
          have HQ4 := hid hq4
          clear hq4 HC3 HQ3 d0
          go_wp2_with fail
          refine (HC4.out _ HQ4.out).mono ?_
          rintro e w5 ⟨rfl, hq5⟩
          have HQ5 := hid hq5
          clear hq5 HC4 HQ4
          go_wp2_with fail
          refine (small_any ⟨l1.toArray⟩ w5 (by have := HL1.out.1; show l1.toArray.size ≤ _; simpa using this)).mono ?_
          rintro e w6 ⟨rfl, hu6⟩
          have HQ6 := hid (HQ5.out.same hu6)
          clear hu6 HQ5
          go_wp2_with fail
          refine (trimmed_any l2 w6 HL1.out.2).mono ?_
          rintro e w7 ⟨rfl, rfl⟩
          have hwB : w.heap.size ≤ (w7.alloc (.cells #[.string ⟨(smallL l1).toArray⟩, .string ⟨(trimR l2).toArray⟩] 118)).heap.size := by
            have := HQ6.out.upd.size
            simp
            omega
          have HRw := hid (HQ6.out.row.keep ((Upd.refl (fun _ => False) w7).alloc (.cells #[.string ⟨(smallL l1).toArray⟩, .string ⟨(trimR l2).toArray⟩] 118)) (fun _ _ h => h))
          have hnew := heap_alloc_new w7 (.cells #[.string ⟨(smallL l1).toArray⟩, .string ⟨(trimR l2).toArray⟩] 118)
          have HN0 := hid (cell_of_heap hnew 0)
          have HN1 := hid (cell_of_heap hnew 1)
          clear hnew
          go_wp2_with (at_builtin; refine wpList_append_fd (B := w.heap.size) rfl (.tmp 46) (.tmp 52) rfl (.slice ao fs.length cp) fs rfl HRw.out hwB ⟨w7.heap.size, 0, none⟩ 1 (smallL l1, trimR l2) rfl HN0.out HN1.out (by omega) ?_)
          intro v' W hr hg
          have HF := hid (HQ6.out.app hP hr hg)
          obtain ⟨ao', cp', rfl, hcp'⟩ := hr.slice
          clear hr hg HQ6 HRw HN0 HN1 hwB
          go_wp2_with fail
          go_roundg g
          case measure => omega
          case rel =>
            refine ⟨q.f4, fs ++ [(smallL l1, trimR l2)], HF, HProg.out, by rw [List.length_append]; show fs.length + 1 + g ≤ _; omega, ?_⟩
            show _ = _
            rw [← hf.out, HNx.out, HFd.out]

end Go.Proofs.YtiiapfkcmdkkoaaGreatDoor
