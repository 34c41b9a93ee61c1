import Derived.Test.YtiiapfkcmdkkoaaGreatDoorQ31
import Derived.Deep.LoopGhost
import Derived.Deep.QuietTactic
import Derived.BigQuiet
/-
  The document's own reader: row.
-/
namespace Go.Proofs.YtiiapfkcmdkkoaaGreatDoor
open Go.RowKit

/-- How many stand at the front, at most n. -/
def spanLen (f : UInt8 → Bool) : Nat → List UInt8 → Nat
  | 0, _ => 0
  | _ + 1, [] => 0
  | n + 1, c :: l => if f c = true then spanLen f n l + 1 else 0
theorem spanLen_le (f : UInt8 → Bool) : ∀ (n : Nat) (l : List UInt8), spanLen f n l ≤ n ∧ spanLen f n l ≤ l.length
  | 0, _ => by simp [spanLen]
  | _ + 1, [] => by simp [spanLen]
  | n + 1, c :: l => by
    have := spanLen_le f n l
    simp only [spanLen, List.length_cons]
    split <;> omega
/-- What stands at the place where the row is over. -/
theorem spanLen_in (f : UInt8 → Bool) : ∀ (n : Nat) (l : List UInt8) (j : Nat), j < spanLen f n l → ∃ c, l[j]? = some c ∧ f c = true
  | 0, _, j, h => absurd h (Nat.not_lt_zero j)
  | _ + 1, [], j, h => absurd h (Nat.not_lt_zero j)
  | n + 1, c :: l, j, h => by
    simp only [spanLen] at h
    by_cases hc : f c = true
    · rw [if_pos hc] at h
      match j with
      | 0 => exact ⟨c, rfl, hc⟩
      | j + 1 => exact spanLen_in f n l j (by omega)
    · rw [if_neg hc] at h; exact absurd h (Nat.not_lt_zero j)
theorem spanLen_out (f : UInt8 → Bool) : ∀ (n : Nat) (l : List UInt8), spanLen f n l < n → ∀ c, l[spanLen f n l]? = some c → f c = false
  | 0, _, h, _, _ => absurd h (Nat.not_lt_zero _)
  | _ + 1, [], _, c, hc => by simp [spanLen] at hc
  | n + 1, b :: l, h, c, hc => by
    simp only [spanLen] at h hc
    by_cases hb : f b = true
    · rw [if_pos hb] at h hc
      exact spanLen_out f n l (by omega) c (by simpa using hc)
    · rw [if_neg hb] at hc
      have : b = c := by simpa using hc
      rw [← this]
      simpa using hb

/-- A call of a function of two arguments, as one step of a region that draws, behind a guard that holds. -/
theorem step_call2w {ops : Array Oper} {o : Oper} {a : Act} {w : World} {K : Act → World → Prop} {Q : Exit → Act → World → Prop} {E : Prop} {f : Nat} {v u : Value} {ts : Array TypeId} (R : Value → World → Prop)
    (x y : Operand) (hop : o.op = Op.call { callee := Callee.value (.func f), args := #[x, y], argTypes := ts }) (hent : Ent f) (hx : a.eval x = v) (hy : a.eval y = u)
    (hc : Calls Tryz.prog f #[v, u] w fun e w' => ∃ r, e = .returned r ∧ R r w') (hK : ∀ r w', R r w' → K (a.put o.dst r) w') (hw : Region.wanted o (yielded ops a.tmps) = true) :
    if Region.wanted o (yielded ops a.tmps) = true then Oper.wp Tryz.prog o a w K Q else E := by
  rw [if_pos hw]
  have hrun : (execOp a.eval o).run Tryz.prog w = .ok (.enter f #[v, u]) w := by
    have hf : a.eval (.func f) = .func (.func f) #[] #[] := rfl
    have he := hent #[v, u] w
    simp [execOp, hop, resolve, invoke, hf, hx, hy, Deferred.ofValue, he]
  unfold Oper.wp
  rw [hrun, Oper.upon_enter]
  refine hc.mono ?_
  rintro e w' ⟨r, rfl, hR⟩
  exact hK r w' hR
theorem ent64 : Ent 64 := enters_of Tryz.func64 (by kernel_rfl) rfl

def inK (kind : Int) (c : UInt8) : Bool := inB kind c.toNat
def Pn.span (p : Pn) (kind : Int) (most : Nat) : Nat := spanLen (inK kind) most (p.s.data.toList.drop p.i)
def Pn.rowP (p : Pn) (kind : Int) (least most : Nat) : Pn := if p.on = true then (if p.s.size ≤ p.i + p.span kind most then { p with i := p.i + p.span kind most, more := true } else { p with i := p.i + p.span kind most, bad := decide (p.span kind most < least) }) else p
def Pn.rowS (p : Pn) (kind : Int) (most : Nat) : List UInt8 := if p.on = true then (if p.s.size ≤ p.i + p.span kind most then [] else (p.s.data.toList.drop p.i).take (p.span kind most)) else []

set_option maxHeartbeats 1600000 in
set_option maxRecDepth 100000 in
theorem row_any {w : World} {P : Nat} {p : Pn} (h : Hid (PenAt w P p)) (hi : p.i ≤ p.s.size) (hs : p.s.size ≤ 100000000) (kind : Int) (hk : kind = 109 ∨ kind = 116 ∨ kind = 110 ∨ kind = 118 ∨ kind = 120) (least most : Nat) (hl : least ≤ 1000) (hm : most ≤ 100000000) :
    Calls Tryz.prog 40 #[.pointer (some ⟨P, 0, none⟩), .int .u8 kind, .int .i64 least, .int .i64 most] w fun e w' => e = .returned (.string ⟨(p.rowS kind most).toArray⟩) ∧ PenX w w' P (p.rowP kind least most) := by
  have c1 : w.cell? ⟨P, 1, none⟩ = some (.int .i64 p.i) := cell_of_heap h.out 1
  have HOn := hid (on_any h)
  cases hon : p.on
  · rw [hon] at HOn
    have HE : Hid (p.rowS kind most = [] ∧ p.rowP kind least most = p) := by
      show _ ∧ _
      unfold Pn.rowS Pn.rowP
      rw [hon]
      exact ⟨rfl, rfl⟩
    rw [HE.out.1, HE.out.2]
    go_enter Tryz.func40, Tryz.ntmps40
    go_wp2_with fail
    refine HOn.out.mono ?_
    rintro e w1 ⟨rfl, rfl⟩
    clear HOn
    go_wp2_with fail
    refine wp_loop_rounds 1 ?_
    rw [rounds_succ]
    go_wp2_with fail
    go_region
    all_goals go_wp2
    all_goals go_ret
    all_goals exact ⟨rfl, PenX.same ⟨h.out, Upd.refl _ _⟩ (by first | exact Upd.refl _ _ | exact (Upd.refl _ _).drew)⟩
  · rw [hon] at HOn
    go_enter Tryz.func40, Tryz.ntmps40
    go_wp2_with fail
    refine HOn.out.mono ?_
    rintro e w1 ⟨rfl, rfl⟩
    clear HOn
    go_wp2_with fail
    have hsp := spanLen_le (inK kind) most (p.s.data.toList.drop p.i)
    rw [List.length_drop, Array.length_toList] at hsp
    have hsz : p.s.data.size = p.s.size := rfl
    rw [hsz] at hsp
    clear hsz
    have HIn := hid (spanLen_in (inK kind) most (p.s.data.toList.drop p.i))
    have HOut := hid (spanLen_out (inK kind) most (p.s.data.toList.drop p.i))
    have HRow : Hid (p.rowP kind least most = (if p.s.size ≤ p.i + p.span kind most then { p with i := p.i + p.span kind most, more := true } else { p with i := p.i + p.span kind most, bad := decide (p.span kind most < least) }) ∧ p.rowS kind most = (if p.s.size ≤ p.i + p.span kind most then [] else (p.s.data.toList.drop p.i).take (p.span kind most))) := by
      show _ ∧ _
      unfold Pn.rowP Pn.rowS
      rw [if_pos hon, if_pos hon]
      exact ⟨rfl, rfl⟩
    have hsd : p.span kind most = spanLen (inK kind) most (p.s.data.toList.drop p.i) := rfl
    rw [← hsd] at hsp HIn HOut
    clear hsd
    generalize p.span kind most = sp at *
    go_loopg [] sp (fun gn wr => ∃ a : Nat, p.i ≤ a ∧ a + gn = p.i + sp ∧ Hid (PenX w1 wr P { p with i := a }))
    case atStart => exact ⟨p.i, Nat.le_refl _, rfl, h.out, Upd.refl _ _⟩
    case round =>
      obtain ⟨a, ha1, ha2, hx⟩ := hrel
      have d0 : wr.cell? ⟨P, 0, none⟩ = some (.string p.s) := cell_of_heap hx.out.1 0
      have d1 : wr.cell? ⟨P, 1, none⟩ = some (.int .i64 a) := cell_of_heap hx.out.1 1
      have f1 : wr.frozen? ⟨P, 1, none⟩ = false := unfrozen_of_heap hx.out.1 1
      have f2 : wr.frozen? ⟨P, 2, none⟩ = false := unfrozen_of_heap hx.out.1 2
      have f3 : wr.frozen? ⟨P, 3, none⟩ = false := unfrozen_of_heap hx.out.1 3
      have hbyte : ∀ hh : a < p.s.size, (p.s.data.toList.drop p.i)[a - p.i]? = some p.s[a] := by
        intro hh
        rw [List.getElem?_drop, Nat.add_sub_cancel' ha1, Array.getElem?_toList, Array.getElem?_eq_getElem hh]
        rfl
      have HBy := hid hbyte
      clear hbyte
      by_cases hlt : a < p.i + sp
      · have hsz : a < p.s.size := by omega
        obtain ⟨c, hc1, hc2⟩ := HIn.out (a - p.i) (by omega)
        rw [HBy.out hsz] at hc1
        injection hc1 with hc1
        rw [← hc1] at hc2
        have HCall := hid (rIn_any kind (p.s[a].toNat : Int) hk)
        have hc3 : inB kind (p.s[a].toNat : Int) = true := hc2
        rw [hc3] at HCall
        have HE : Hid (∀ n, PenX w1 ((wr.drewN n).setCell ⟨P, 1, none⟩ (.int .i64 ((a : Int) + 1))) P { p with i := a + 1 }) := fun n => (hx.out.same ((Upd.refl _ _).drewN n)).setI (a + 1)
        clear hx HIn HOut HRow HBy hc1 hc2 hc3
        go_wp2_with fail
        have hd1 : (a : Int) < (p.s.size : Int) := by omega
        have hd2 : (a : Int) - (p.i : Int) < (most : Int) := by omega
        have hd0 : (0 : Int) ≤ (a : Int) := by omega
        go_quiet (first | (go_at_call 64; refine Calls.quiet_of_same (HCall.out _)))
        go_wp2
        go_roundg (gk - 1)
        case measure => omega
        case rel => exact ⟨a + 1, by omega, by omega, HE.out nq⟩
      · obtain rfl : a = p.i + sp := by omega
        have hbad : p.bad = false := by
          unfold Pn.on at hon
          have : p.more = false ∧ p.bad = false := by simpa using hon
          exact this.2
        by_cases hsz : p.i + sp < p.s.size
        · have HRes : Hid (p.rowP kind least most = { p with i := p.i + sp, bad := decide (sp < least) } ∧ p.rowS kind most = (p.s.data.toList.drop p.i).take sp) := by
            show _ ∧ _
            have := HRow.out
            rw [if_neg (by omega), if_neg (by omega)] at this
            exact this
          have HX : Hid ((p.s.extract p.i (p.i + sp)) = ⟨((p.s.data.toList.drop p.i).take sp).toArray⟩) := by
            show _ = _
            apply ByteArray.ext
            apply Array.ext'
            simp only [ByteArray.data_extract, Array.toList_extract]
            rw [List.extract_eq_take_drop, Nat.add_sub_cancel_left]
          have HE : Hid (∀ W, Upd (fun _ => False) wr W → PenX w1 W P { p with i := p.i + sp, bad := false }) := by
            intro W hW
            have := hx.out.same hW
            rw [hbad] at this
            exact this
          have HE2 : Hid (∀ W, Upd (fun _ => False) wr W → PenX w1 (W.setCell ⟨P, 3, none⟩ (.bool true)) P { p with i := p.i + sp, bad := true }) := fun W hW => (HE.out W hW).setBad
          have d3 : wr.cell? ⟨P, 3, none⟩ = some (.bool p.bad) := cell_of_heap hx.out.1 3
          rw [hbad] at d3
          have HBy' := hid (HBy.out hsz)
          have HCall := hid (rIn_any kind (p.s[p.i + sp].toNat : Int) hk)
          have HCase : Hid ((sp = most) ∨ (sp < most ∧ inB kind (p.s[p.i + sp].toNat : Int) = false)) := by
            show _ ∨ _
            by_cases hsm : sp = most
            · exact Or.inl hsm
            · refine Or.inr ⟨by omega, ?_⟩
              have := HBy'.out
              rw [Nat.add_sub_cancel_left] at this
              exact HOut.out (by omega) _ this
          have hz1 : ((p.i + sp : Nat) : Int) < (p.s.size : Int) := by omega
          clear hx HIn HOut HRow HBy HBy' hon hbad
          have hA1 : ((p.i + sp : Nat) : Int) - (p.i : Int) = (sp : Int) := by omega
          generalize hA : p.i + sp = a at *
          have hz3 : decide ((p.s.size : Int) ≤ (a : Int)) = false := decide_eq_false (by omega)
          have hz4 : ¬ ((p.s.size : Int) ≤ (a : Int)) := by omega
          have hpi : (p.i : Int) ≤ (a : Int) := by omega
          rcases HCase.out with hm1 | ⟨hm1, hm2⟩
          · have hd2 : decide ((sp : Int) < (most : Int)) = false := decide_eq_false (by omega)
            clear HCase
            by_cases hls : sp < least
            · have hl1 : (sp : Int) < (least : Int) := by omega
              go_wp2_with fail
              go_quiet (fail)
              go_wp2_with fail
              go_quiet (fail)
              go_wp2_with fail
              go_quiet (fail)
              go_wp2
              go_ret
              refine ⟨by rw [HRes.out.2, ← HX.out]; rfl, ?_⟩
              rw [HRes.out.1, decide_eq_true hls]
              first
                | exact PenX.same (HE2.out _ (by first | exact ((Upd.refl _ _).drewN _).drewN _ | exact (Upd.refl _ _).drewN _)) ((Upd.refl _ _).drewN _)
                | exact HE2.out _ (by first | exact (((Upd.refl _ _).drewN _).drewN _).drewN _ | exact ((Upd.refl _ _).drewN _).drewN _ | exact (Upd.refl _ _).drewN _)
            · have hl1 : ¬ (sp : Int) < (least : Int) := by omega
              go_wp2_with fail
              go_quiet (fail)
              go_wp2_with fail
              go_quiet (fail)
              go_wp2_with fail
              go_quiet (fail)
              go_wp2
              go_ret
              refine ⟨by rw [HRes.out.2, ← HX.out]; rfl, ?_⟩
              rw [HRes.out.1, decide_eq_false hls]
              exact HE.out _ (by first | exact (((Upd.refl _ _).drewN _).drewN _).drewN _ | exact ((Upd.refl _ _).drewN _).drewN _ | exact (Upd.refl _ _).drewN _)
          · have hd2 : (sp : Int) < (most : Int) := by omega
            rw [hm2] at HCall
            clear HCase hm2
            by_cases hls : sp < least
            · have hl1 : (sp : Int) < (least : Int) := by omega
              go_wp2_with fail
              go_quiet (first | (go_at_call 64; refine Calls.quiet_of_same (HCall.out _)))
              go_wp2_with fail
              go_quiet (fail)
              go_wp2_with fail
              go_quiet (fail)
              go_wp2
              go_ret
              refine ⟨by rw [HRes.out.2, ← HX.out]; rfl, ?_⟩
              rw [HRes.out.1, decide_eq_true hls]
              first
                | exact PenX.same (HE2.out _ (by first | exact ((Upd.refl _ _).drewN _).drewN _ | exact (Upd.refl _ _).drewN _)) ((Upd.refl _ _).drewN _)
                | exact HE2.out _ (by first | exact (((Upd.refl _ _).drewN _).drewN _).drewN _ | exact ((Upd.refl _ _).drewN _).drewN _ | exact (Upd.refl _ _).drewN _)
            · have hl1 : ¬ (sp : Int) < (least : Int) := by omega
              go_wp2_with fail
              go_quiet (first | (go_at_call 64; refine Calls.quiet_of_same (HCall.out _)))
              go_wp2_with fail
              go_quiet (fail)
              go_wp2_with fail
              go_quiet (fail)
              go_wp2
              go_ret
              refine ⟨by rw [HRes.out.2, ← HX.out]; rfl, ?_⟩
              rw [HRes.out.1, decide_eq_false hls]
              exact HE.out _ (by first | exact (((Upd.refl _ _).drewN _).drewN _).drewN _ | exact ((Upd.refl _ _).drewN _).drewN _ | exact (Upd.refl _ _).drewN _)
        · have hge : p.s.size ≤ p.i + sp := by omega
          have HRes : Hid (p.rowP kind least most = { p with i := p.i + sp, more := true } ∧ p.rowS kind most = []) := by
            show _ ∧ _
            have := HRow.out
            rw [if_pos hge, if_pos hge] at this
            exact this
          have HE : Hid (∀ W, Upd (fun _ => False) wr W → PenX w1 (W.setCell ⟨P, 2, none⟩ (.bool true)) P { p with i := p.i + sp, more := true }) := fun W hW => (hx.out.same hW).setMore
          have d2 : wr.cell? ⟨P, 2, none⟩ = some (.bool p.more) := cell_of_heap hx.out.1 2
          generalize hA : p.i + sp = a at *
          have hd1 : decide ((a : Int) < (p.s.size : Int)) = false := decide_eq_false (by omega)
          clear hx HIn HOut HRow HBy hon hbad
          have hd3 : (p.s.size : Int) ≤ (a : Int) := by omega
          go_wp2_with fail
          go_quiet (fail)
          go_wp2_with fail
          go_quiet (fail)
          go_wp2
          go_ret
          refine ⟨by rw [HRes.out.2]; rfl, ?_⟩
          rw [HRes.out.1]
          exact HE.out _ (by first | exact ((Upd.refl _ _).drewN _).drewN _ | exact (Upd.refl _ _).drewN _)

end Go.Proofs.YtiiapfkcmdkkoaaGreatDoor

/-
  The document's own reader: wrong, hex, length.
-/
namespace Go.Proofs.YtiiapfkcmdkkoaaGreatDoor
open Go.RowKit

/-- What is known of a request. -/
structure Rq where
  kind : Nat
  status : Nat
  method : List UInt8
  target : List UInt8
  close : Bool
  text : List UInt8
def rqV (r : Rq) : Value := .agg #[.int .i64 r.kind, .int .i64 r.status, .string ⟨r.method.toArray⟩, .string ⟨r.target.toArray⟩, .bool r.close, .string ⟨r.text.toArray⟩]
def wrongR (n : Nat) : Rq := ⟨3, n, [], [], false, []⟩

theorem ret_int' {k : IntKind} {a b : Int} (h : a = b) : Ending.returned (.int k a) = .returned (.int k b) := by rw [h]

set_option maxHeartbeats 400000 in
theorem wrong_any (n : Nat) (w : World) : Calls Tryz.prog 44 #[.int .i64 n] w fun e w' => e = .returned (rqV (wrongR n)) ∧ Upd (fun _ => False) w w' := by
  go_enter Tryz.func44, Tryz.ntmps44
  go_wp2
  exact bodyPost_ret (v := rqV (wrongR n)) (by simp [results, Tryz.results44, go_sem, rqV, wrongR]) rfl ⟨rfl, by first | exact (Upd.refl _ _).alloc _ | exact ((Upd.refl _ _).alloc _).alloc _⟩

set_option maxHeartbeats 400000 in
theorem hex_any (c : UInt8) (hc : isSignB c.toNat = true) (w : World) : Calls Tryz.prog 87 #[.int .u8 c.toNat] w fun e w' => e = .returned (.int .i64 (hexDig c)) ∧ w' = w := by
  have hlt : c.toNat < 256 := c.toNat_lt
  unfold isSignB isDigB at hc
  simp at hc
  unfold hexDig
  go_enter Tryz.func87, Tryz.ntmps87
  go_wp2
  all_goals
    go_ret
    exact ⟨ret_int' (by omega), rfl⟩

/-- The number that a Content-Length tells; -1: none. -/
def lenOf (l : List UInt8) : Int := if l.length < 1 ∨ 9 < l.length then -1 else if allDig l then (decVal l : Int) else -1

set_option maxHeartbeats 800000 in
set_option maxRecDepth 100000 in
theorem length_any (s : ByteArray) (w : World) (hs : s.size ≤ 100000000) : Calls Tryz.prog 67 #[.string s] w fun e w' => e = .returned (.int .i64 (lenOf s.data.toList)) ∧ w' = w := by
  have hsz : s.data.toList.length = s.size := size_list s
  by_cases h1 : s.size < 1
  · have HS : Hid (lenOf s.data.toList = -1) := by show _ = _; simp only [lenOf, hsz]; rw [if_pos (Or.inl h1)]
    rw [HS.out]
    clear hsz
    go_enter Tryz.func67, Tryz.ntmps67
    go_wp2
    go_ret
    exact ⟨rfl, rfl⟩
  by_cases h2 : 9 < s.size
  · have HS : Hid (lenOf s.data.toList = -1) := by show _ = _; simp only [lenOf, hsz]; rw [if_pos (Or.inr h2)]
    rw [HS.out]
    clear hsz
    go_enter Tryz.func67, Tryz.ntmps67
    go_wp2
    go_ret
    exact ⟨rfl, rfl⟩
  have HS : Hid (lenOf s.data.toList = if allDig s.data.toList then (decVal s.data.toList : Int) else -1) := by show _ = _; simp only [lenOf, hsz]; rw [if_neg (by omega)]
  have HZ := hid hsz
  clear hsz
  go_enter Tryz.func67, Tryz.ntmps67
  go_wp2_with fail
  go_loop [3, 4] (fun n i => ∃ k : Nat, k ≤ s.size ∧ i = .int .i64 k ∧ n = .int .i64 (decVal (s.data.toList.take k)) ∧ Hid (allDig (s.data.toList.take k) = true)) (fun _ i => s.size - (intOf i).toNat)
  case atStart => exact ⟨0, Nat.zero_le _, rfl, rfl, rfl⟩
  case round =>
    obtain ⟨k, hk, rfl, rfl, hd⟩ := hrel
    have hv := decVal_lt _ hd.out
    have hl : (s.data.toList.take k).length ≤ 9 := by rw [List.length_take]; omega
    have hv2 : decVal (s.data.toList.take k) ≤ 1000000000 := Nat.le_trans (Nat.le_of_lt hv) (Nat.le_trans (Nat.pow_le_pow_right (by omega) hl) (by decide))
    clear hv hl
    by_cases hlt : k < s.size
    · have hts := take_snoc' s k hlt
      cases hb : isDigB s[k].toNat
      · have HB : Hid (lenOf s.data.toList = -1) := by
          show _ = _
          rw [HS.out, if_neg]
          intro ha
          have : isDigB s[k].toNat = true := by
            have hm : s[k] ∈ s.data.toList := by
              have := List.getElem_mem (l := s.data.toList) (n := k) (by rw [HZ.out]; exact hlt)
              exact this
            exact (List.all_eq_true.1 ha) _ hm
          rw [hb] at this; cases this
        clear hts
        go_wp2_with (go_at_call 86; refine (rDigit_any _ _).mono ?_; rw [hb]; rintro e w' ⟨rfl, rfl⟩)
        go_ret
        exact ⟨by rw [HB.out]; rfl, rfl⟩
      · have hr : 48 ≤ (s[k].toNat : Int) ∧ (s[k].toNat : Int) ≤ 57 := by simpa [isDigB] using hb
        obtain ⟨hr1, hr2⟩ := hr
        have HV : Hid (decVal (s.data.toList.take (k + 1)) = decVal (s.data.toList.take k) * 10 + (s[k].toNat - 48)) := by show _ = _; rw [hts, decVal_snoc]
        have HD : Hid (allDig (s.data.toList.take (k + 1)) = true) := by show _ = _; rw [hts, allDig_snoc, hd.out, hb]; rfl
        clear hts
        go_wp2_with (go_at_call 86; refine (rDigit_any _ _).mono ?_; rw [hb]; rintro e w' ⟨rfl, rfl⟩)
        go_round
        case rel => exact ⟨k + 1, by omega, by go_num, by rw [HV.out]; simp only [Value.int.injEq, true_and]; omega, HD⟩
        case measure => simp [intOf]; omega
    · have hkl : s.data.toList.take k = s.data.toList := List.take_of_length_le (by rw [HZ.out]; omega)
      have HB : Hid (lenOf s.data.toList = (decVal (s.data.toList.take k) : Int)) := by show _ = _; rw [HS.out, hkl, if_pos]; rw [hkl] at hd; exact hd
      clear hkl
      go_wp2
      go_ret
      exact ⟨by rw [HB.out]; rfl, rfl⟩

end Go.Proofs.YtiiapfkcmdkkoaaGreatDoor
