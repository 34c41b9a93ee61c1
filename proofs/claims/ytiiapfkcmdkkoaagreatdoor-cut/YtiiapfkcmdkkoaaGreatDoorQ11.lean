import Derived.Test.YtiiapfkcmdkkoaaGreatDoorQ10
import Derived.Lib.AppendIntMem
/-
  The server's answers: faultStatus, reply, bytes.
-/
namespace Go.Proofs.YtiiapfkcmdkkoaaGreatDoor
open Go.RowKit Go.MapKept

def faultSt (f : Nat) : List UInt8 := if f = 2 then st413 else if f = 3 then st431 else st400

set_option maxHeartbeats 400000 in
theorem faultStatus_any (f : Nat) (w : World) : Calls Tryz.prog 113 #[.int .i64 f] w fun e w' => e = .returned (.string ⟨(faultSt f).toArray⟩) ∧ w' = w := by
  by_cases h2 : f = 2
  · subst h2
    go_enter Tryz.func113, Tryz.ntmps113
    go_wp2
    go_ret
    exact ⟨rfl, rfl⟩
  have e2 : ((f : Int) == 2) = false := by rw [beq_eq_false_iff_ne]; omega
  by_cases h3 : f = 3
  · subst h3
    go_enter Tryz.func113, Tryz.ntmps113
    go_wp2
    go_ret
    exact ⟨rfl, rfl⟩
  have e3 : ((f : Int) == 3) = false := by rw [beq_eq_false_iff_ne]; omega
  have HS : Hid (faultSt f = st400) := by show _ = _; unfold faultSt; rw [if_neg h2, if_neg h3]
  rw [HS.out]
  clear h2 h3
  go_enter Tryz.func113, Tryz.ntmps113
  go_wp2
  go_ret
  exact ⟨rfl, rfl⟩

def replyAns (L : Texts) (u : Int) (dr : Bool) (q : Req) : Ans := if q.fault = 0 then { serveAns L u q with last := q.close || dr } else ⟨faultSt q.fault, 0, [], true⟩
def replyL (L : Texts) (u : Int) (q : Req) : Texts := if q.fault = 0 then serveL L u q else L
def replyU (L : Texts) (u : Int) (q : Req) : Int := if q.fault = 0 then serveU L u q else u

set_option maxHeartbeats 800000 in
theorem reply_any {w : World} {S s m cm wb made : Nat} {dr : Bool} {L : Texts} {u : Int} (h : Hid (SrvT w S s m cm wb made dr L u)) (q : Req) (ht : q.target.length ≤ 1000) (hx : q.body.length ≤ 100) (hL : Hid (∀ p ∈ L, p.2.length ≤ 100)) (hu0 : -100000 ≤ u) (hu1 : u ≤ 100000) :
    Calls Tryz.prog 90 #[.pointer (some ⟨S, 0, none⟩), .agg (reqCells q)] w fun e w' => e = .returned (ansV (replyAns L u dr q)) ∧ Upd (fun k => k = s ∨ k = m) w w' ∧ SrvT w' S s m cm wb made dr (replyL L u q) (replyU L u q) := by
  have hU0 : Upd (fun _ => False) w ((w.alloc (.cells (reqCells q) 160)).alloc zero4) := ((Upd.refl _ w).alloc _).alloc _
  have HS0 : Hid (SrvT ((w.alloc (.cells (reqCells q) 160)).alloc zero4) S s m cm wb made dr L u) := h.out.keep hU0 (fun h => h) (fun h => h) (fun h => h)
  have HU0 : Hid (Upd (fun _ => False) w ((w.alloc (.cells (reqCells q) 160)).alloc zero4)) := hU0
  have hSl := lt_of_heap h.out.blk
  obtain ⟨ls, lm⟩ := h.out.sto.ne4
  obtain ⟨nS, nm⟩ := h.out.ne
  clear hU0
  by_cases hf : q.fault = 0
  · have HA : Hid (replyAns L u dr q = { serveAns L u q with last := q.close || dr } ∧ replyL L u q = serveL L u q ∧ replyU L u q = serveU L u q) := by
      show _ ∧ _ ∧ _
      unfold replyAns replyL replyU; rw [if_pos hf, if_pos hf, if_pos hf]; exact ⟨rfl, rfl, rfl⟩
    rw [HA.out.1, HA.out.2.1, HA.out.2.2]
    have HG := Calls.mono (serve_any HS0 q ht hx hL hu0 hu1) (fun e w' h => (show Hid (e = .returned (ansV (serveAns L u q)) ∧ Upd (fun k => k = s ∨ k = m) ((w.alloc (.cells (reqCells q) 160)).alloc zero4) w' ∧ SrvT w' S s m cm wb made dr (serveL L u q) (serveU L u q)) from h))
    have HC : Hid (Calls _ _ _ _ _) := HG
    have e0 : ((q.fault : Int) != 0) = false := by rw [hf]; rfl
    clear HG HA hf
    generalize serveAns L u q = a at HC ⊢
    generalize serveL L u q = L' at HC ⊢
    generalize serveU L u q = u' at HC ⊢
    unfold reqCells at *
    go_enter Tryz.func90, Tryz.ntmps90
    go_wp2_with fail
    refine HC.out.mono ?_
    intro e w1 hh
    obtain ⟨rfl, hu, hs⟩ := hh.out
    clear hh
    have hn : w1.heap[w.heap.size + 1]? = some zero4 := hu.keep (by simp only [hpush, Array.getElem?_push, Array.size_push]; repeat (first | rw [if_pos trivial] | rw [if_pos (by omega)] | rw [if_neg (by omega)])) (by omega)
    have hq := hu.keep (b := w.heap.size) (o := .cells #[.int .i64 q.fault, .string ⟨q.method.toArray⟩, .string ⟨q.target.toArray⟩, .string ⟨q.body.toArray⟩, .bool q.close] 160 (0, 0)) (by simp only [hpush, Array.getElem?_push, Array.size_push]; repeat (first | rw [if_pos trivial] | rw [if_pos (by omega)] | rw [if_neg (by omega)])) (by omega)
    have cq4 : w1.cell? ⟨w.heap.size, 4, none⟩ = some (.bool q.close) := cell_of_heap hq 4
    have hqlt := lt_of_heap hq
    obtain ⟨d0, d1, d2, d3, g0, g1, g2, g3⟩ := cells4 hn
    have hlt := lt_of_heap hn
    have cS2 : w1.cell? ⟨S, 2, none⟩ = some (.bool dr) := cell_of_heap hs.blk 2
    have HU : Hid (Upd (fun k => k = s ∨ k = m) w w1) := (HU0.out.mono (fun _ _ h => h.elim)).trans hu
    have HS : Hid (SrvT w1 S s m cm wb made dr L' u') := hs
    have hSl1 := lt_of_heap hs.blk
    clear hu hn hs hq
    unfold ansV
    have eq4 : ∀ o, (w1.alloc o).cell? ⟨w.heap.size, 4, none⟩ = some (.bool q.close) := fun o => (World.cell?_alloc_past _ _ _ hqlt).trans cq4
    have eS2 : ∀ o, (w1.alloc o).cell? ⟨S, 2, none⟩ = some (.bool dr) := fun o => (World.cell?_alloc_past _ _ _ hSl1).trans cS2
    cases hcl : q.close <;> rw [hcl] at eq4 <;> have HCL := (show Hid (q.close = _) from hcl) <;> clear hcl cq4
    · go_wp2
      refine bodyPost_ret (v := ansV { a with last := dr }) (by simp [results, Tryz.results90, go_sem, d0, d1, d2, d3, ansV, hlt]) rfl ⟨by rw [HCL.out]; rfl, ?_, ?_⟩
      · exact (HU.out.four _ (by omega) _ _ _ _).alloc _
      · exact (HS.out.four _ (by omega) (by omega) (by omega) _ _ _ _).keep ((Upd.refl (fun _ => False) _).alloc _) (fun h => h) (fun h => h) (fun h => h)
    · go_wp2
      refine bodyPost_ret (v := ansV { a with last := true }) (by simp [results, Tryz.results90, go_sem, d0, d1, d2, d3, ansV, hlt]) rfl ⟨by rw [HCL.out]; rfl, ?_, ?_⟩
      · exact (HU.out.four _ (by omega) _ _ _ _).alloc _
      · exact (HS.out.four _ (by omega) (by omega) (by omega) _ _ _ _).keep ((Upd.refl (fun _ => False) _).alloc _) (fun h => h) (fun h => h) (fun h => h)
  · have HA : Hid (replyAns L u dr q = ⟨faultSt q.fault, 0, [], true⟩ ∧ replyL L u q = L ∧ replyU L u q = u) := by
      show _ ∧ _ ∧ _
      unfold replyAns replyL replyU; rw [if_neg hf, if_neg hf, if_neg hf]; exact ⟨rfl, rfl, rfl⟩
    rw [HA.out.1, HA.out.2.1, HA.out.2.2]
    have e0 : ((q.fault : Int) != 0) = true := by rw [bne_iff_ne]; omega
    clear hf HA
    unfold reqCells at *
    go_enter Tryz.func90, Tryz.ntmps90
    go_wp2_with fail
    refine (faultStatus_any q.fault _).mono ?_
    rintro e w1 ⟨rfl, hw⟩
    rw [hw]; clear hw w1
    go_wp2
    refine bodyPost_ret (v := ansV ⟨faultSt q.fault, 0, [], true⟩) (by simp [results, Tryz.results90, go_sem, ansV]) rfl ⟨rfl, ((Upd.refl _ _).alloc _).alloc _, ?_⟩
    exact h.out.keep (((Upd.refl (fun _ => False) _).alloc _).alloc _) (fun h => h) (fun h => h) (fun h => h)

def crlf : List UInt8 := [13, 10]
def httpL : List UInt8 := [72, 84, 84, 80, 47, 49, 46, 49, 32]
def clL : List UInt8 := [67, 111, 110, 116, 101, 110, 116, 45, 76, 101, 110, 103, 116, 104, 58, 32]
def ccL : List UInt8 := [67, 111, 110, 110, 101, 99, 116, 105, 111, 110, 58, 32, 99, 108, 111, 115, 101, 13, 10]
/-- The bytes of an answer. -/
def Ans.bytes (a : Ans) : List UInt8 :=
  ((httpL ++ a.status ++ crlf) ++ (if a.status = st204 then [] else clL ++ Lib.itoa a.length ++ crlf)) ++ (if a.last then ccL else []) ++ crlf ++ a.text

abbrev Tab (w : World) : Prop := Lib.TabIs Tryz.prog w "internal/strconv.uint64pow10" .u64 Lib.pow10Tab

theorem ba_app (a b : List UInt8) : ((⟨a.toArray⟩ : ByteArray) ++ ⟨b.toArray⟩) = ⟨(a ++ b).toArray⟩ := by
  apply ByteArray.ext
  rw [ByteArray.data_append]
  simp
theorem ret_str {a b : ByteArray} (h : a = b) : Ending.returned (.string a) = .returned (.string b) := by rw [h]
theorem itoa_len (n : Nat) (h : n ≤ 100) : (Lib.itoa n).length ≤ 3 := by
  have : ∀ n : Fin 101, (Lib.itoa (n.val : Int)).length ≤ 3 := by decide +kernel
  exact this ⟨n, by omega⟩

/-- Itoa of a small number. -/
theorem itoa_any (n : Nat) (hn : n ≤ 100) (w : World) (hT : Tab w) : Calls Tryz.prog 125 #[.int .i64 n] w fun e w' => e = .returned (.string ⟨(Lib.itoa n).toArray⟩) ∧ Upd (fun _ => False) w w' := by
  refine Calls.mono (Tryz.strconv_Itoa n (by omega) (by omega) w hT) ?_
  rintro e w' ⟨rfl, k, os, rfl⟩
  refine ⟨rfl, rfl, rfl, rfl, ?_, fun j hj _ => ?_⟩
  · show w.heap.size ≤ (w.heap ++ os).size
    simp
  · show (w.heap ++ os)[j]? = _
    rw [Array.getElem?_append_left hj]

set_option maxHeartbeats 800000 in
theorem bytes_any (a : Ans) (w : World) (hT : Hid (Tab w)) (h1 : a.status.length ≤ 100) (h2 : a.length ≤ 100) (h3 : a.text.length ≤ 100) :
    Calls Tryz.prog 112 #[ansV a] w fun e w' => e = .returned (.string ⟨a.bytes.toArray⟩) ∧ Upd (fun _ => False) w w' := by
  have hi := itoa_len a.length h2
  have HI : Hid (∀ o, Calls Tryz.prog 125 #[.int .i64 a.length] (w.alloc o) fun e w' => e = .returned (.string ⟨(Lib.itoa a.length).toArray⟩) ∧ Upd (fun _ => False) (w.alloc o) w') := fun o => itoa_any a.length h2 _ (Lib.tabIs_alloc hT.out o)
  unfold ansV
  by_cases h4 : a.status = st204
  · have e4 : (a.status == [50, 48, 52, 32, 78, 111, 32, 67, 111, 110, 116, 101, 110, 116]) = true := by rw [h4]; decide
    have HB : Hid (a.bytes = (httpL ++ a.status ++ crlf) ++ [] ++ (if a.last then ccL else []) ++ crlf ++ a.text) := by show _ = _; unfold Ans.bytes; rw [if_pos h4]
    clear h4
    cases hl : a.last
    · have HC : Hid ((⟨httpL.toArray⟩ ++ ⟨a.status.toArray⟩ ++ ⟨crlf.toArray⟩ ++ ⟨crlf.toArray⟩ ++ ⟨a.text.toArray⟩ : ByteArray) = ⟨a.bytes.toArray⟩) := by
        show _ = _
        rw [HB.out, hl]; simp only [ba_app, List.append_assoc]; simp
      clear HB
      go_enter Tryz.func112, Tryz.ntmps112
      go_wp2
      go_ret
      exact ⟨ret_str HC.out, (Upd.refl _ _).alloc _⟩
    · have HC : Hid ((⟨httpL.toArray⟩ ++ ⟨a.status.toArray⟩ ++ ⟨crlf.toArray⟩ ++ ⟨ccL.toArray⟩ ++ ⟨crlf.toArray⟩ ++ ⟨a.text.toArray⟩ : ByteArray) = ⟨a.bytes.toArray⟩) := by
        show _ = _
        rw [HB.out, hl]; simp only [ba_app, List.append_assoc]; simp
      clear HB
      go_enter Tryz.func112, Tryz.ntmps112
      go_wp2
      go_ret
      exact ⟨ret_str HC.out, (Upd.refl _ _).alloc _⟩
  · have e4 : (a.status == [50, 48, 52, 32, 78, 111, 32, 67, 111, 110, 116, 101, 110, 116]) = false := beq_eq_false_iff_ne.2 h4
    have HB : Hid (a.bytes = (httpL ++ a.status ++ crlf) ++ (clL ++ Lib.itoa a.length ++ crlf) ++ (if a.last then ccL else []) ++ crlf ++ a.text) := by show _ = _; unfold Ans.bytes; rw [if_neg h4]
    clear h4
    cases hl : a.last
    · have HC : Hid ((⟨httpL.toArray⟩ ++ ⟨a.status.toArray⟩ ++ ⟨crlf.toArray⟩ ++ (⟨clL.toArray⟩ ++ ⟨(Lib.itoa a.length).toArray⟩ ++ ⟨crlf.toArray⟩) ++ ⟨crlf.toArray⟩ ++ ⟨a.text.toArray⟩ : ByteArray) = ⟨a.bytes.toArray⟩) := by
        show _ = _
        rw [HB.out, hl]; simp only [ba_app, List.append_assoc]; simp
      clear HB
      generalize Lib.itoa a.length = it at hi HI HC
      go_enter Tryz.func112, Tryz.ntmps112
      go_wp2_with fail
      refine (HI.out _).mono ?_
      rintro e w1 ⟨rfl, hu⟩
      have hb0 := hu.keep (b := w.heap.size) (o := .cells #[.string ⟨a.status.toArray⟩, .int .i64 a.length, .string ⟨a.text.toArray⟩, .bool false] 156 (0, 0)) (by rw [hpush]; simp) (fun h => h)
      obtain ⟨d0, d1, d2, d3, g0, g1, g2, g3⟩ := cells4 hb0
      have HU : Hid (Upd (fun _ => False) w w1) := ((Upd.refl _ w).alloc _).trans hu
      clear hu hb0
      go_wp2
      go_ret
      exact ⟨ret_str HC.out, HU.out⟩
    · have HC : Hid ((⟨httpL.toArray⟩ ++ ⟨a.status.toArray⟩ ++ ⟨crlf.toArray⟩ ++ (⟨clL.toArray⟩ ++ ⟨(Lib.itoa a.length).toArray⟩ ++ ⟨crlf.toArray⟩) ++ ⟨ccL.toArray⟩ ++ ⟨crlf.toArray⟩ ++ ⟨a.text.toArray⟩ : ByteArray) = ⟨a.bytes.toArray⟩) := by
        show _ = _
        rw [HB.out, hl]; simp only [ba_app, List.append_assoc]; simp
      clear HB
      generalize Lib.itoa a.length = it at hi HI HC
      go_enter Tryz.func112, Tryz.ntmps112
      go_wp2_with fail
      refine (HI.out _).mono ?_
      rintro e w1 ⟨rfl, hu⟩
      have hb0 := hu.keep (b := w.heap.size) (o := .cells #[.string ⟨a.status.toArray⟩, .int .i64 a.length, .string ⟨a.text.toArray⟩, .bool true] 156 (0, 0)) (by rw [hpush]; simp) (fun h => h)
      obtain ⟨d0, d1, d2, d3, g0, g1, g2, g3⟩ := cells4 hb0
      have HU : Hid (Upd (fun _ => False) w w1) := ((Upd.refl _ w).alloc _).trans hu
      clear hu hb0
      go_wp2
      go_ret
      exact ⟨ret_str HC.out, HU.out⟩

end Go.Proofs.YtiiapfkcmdkkoaaGreatDoor

/-
  Request, NewReader.
-/
namespace Go.Proofs.YtiiapfkcmdkkoaaGreatDoor
open Go.RowKit Go.MapKept

/-- What a reader that is over has read. -/
def RS.req (σ : RS) : Req := ⟨σ.fault, σ.method, 47 :: σ.path, σ.body, σ.close⟩

abbrev zero5 : Obj := .cells #[.int .i64 0, .string ⟨#[]⟩, .string ⟨#[]⟩, .string ⟨#[]⟩, .bool false] 160

set_option maxHeartbeats 1000000 in
set_option maxRecDepth 100000 in
theorem request_any {F : Nat → Prop} {w : World} {r : Nat} {σ : RS} (h : Hid (Rd F w r σ)) (g : Hid (Good σ)) :
    Calls Tryz.prog 171 #[.pointer (some ⟨r, 0, none⟩)] w fun e w' => e = .returned (.agg (reqCells σ.req)) ∧ Upd (fun _ => False) w w' := by
  obtain ⟨sv, ⟨R, hB⟩, hC⟩ := h.out
  have hU0 : Upd (fun _ => False) w (w.alloc zero5) := (Upd.refl _ w).alloc _
  have hB0 := hB.keep hU0 (fun _ _ h => h)
  have hz : (w.alloc zero5).heap[w.heap.size]? = some zero5 := by rw [hpush]; simp
  have hsz : w.heap.size < (w.alloc zero5).heap.size := by simp
  have hne : w.heap.size ≠ r := by have := lt_of_heap hB.blk; omega
  have l4 : σ.method.length ≤ 200 := g.out.size 4 (by simp [IsRow])
  have l5 : σ.path.length ≤ 200 := g.out.size 5 (by simp [IsRow])
  have l12 : σ.body.length ≤ 200 := g.out.size 12 (by simp [IsRow])
  have HU0 : Hid (Upd (fun _ => False) w (w.alloc zero5)) := hU0
  clear hB hC hU0 h g
  have HP : Hid ((⟨#[47]⟩ ++ ⟨σ.path.toArray⟩ : ByteArray) = ⟨(47 :: σ.path).toArray⟩) := ba_app [47] σ.path
  have c3 : (w.alloc zero5).cell? ⟨r, 3, none⟩ = some (.int .i64 σ.fault) := hB0.cell 3
  have c4 : (w.alloc zero5).cell? ⟨r, 4, none⟩ = some (R 4) := hB0.cell 4
  have c5 : (w.alloc zero5).cell? ⟨r, 5, none⟩ = some (R 5) := hB0.cell 5
  have c8 : (w.alloc zero5).cell? ⟨r, 8, none⟩ = some (.bool σ.close) := hB0.cell 8
  have c12 : (w.alloc zero5).cell? ⟨r, 12, none⟩ = some (R 12) := hB0.cell 12
  have v4 := row_string' (hB0.row 4 (by simp [IsRow])) (Upd.refl _ (w.alloc zero5)).drew
  have v5 := row_string' (hB0.row 5 (by simp [IsRow])) (Upd.refl _ (w.alloc zero5)).drew
  have v12 := row_string' (hB0.row 12 (by simp [IsRow])) (Upd.refl _ (w.alloc zero5)).drew
  have z0 := cell_of_heap hz 0
  have z1 := cell_of_heap hz 1
  have z2 := cell_of_heap hz 2
  have z3 := cell_of_heap hz 3
  have z4 := cell_of_heap hz 4
  have y0 := unfrozen_of_heap hz 0
  have y1 := unfrozen_of_heap hz 1
  have y2 := unfrozen_of_heap hz 2
  have y3 := unfrozen_of_heap hz 3
  have y4 := unfrozen_of_heap hz 4
  simp only [List.getElem?_toArray, List.getElem?_cons_zero, List.getElem?_cons_succ] at z0 z1 z2 z3 z4
  unfold RS.get at v4 v5 v12
  simp only at v4 v5 v12
  clear hB0 hz
  generalize R 4 = x4 at *
  generalize R 5 = x5 at *
  generalize R 12 = x12 at *
  go_enter Tryz.func171, Tryz.ntmps171
  go_wp2
  generalize (w.alloc zero5) = W at *
  go_region
  all_goals
    go_wp2
    refine bodyPost_ret (v := .agg (reqCells σ.req)) (by simp [results, Tryz.results171, go_sem, reqCells, RS.req, z0, z1, z2, z3, z4, HP.out]) rfl ⟨rfl, ?_⟩
    exact ((HU0.out.four _ (Nat.le_refl _) _ _ _ _).setCell (p := ⟨w.heap.size, 4, none⟩) (fun h => absurd h (by show ¬ w.heap.size < w.heap.size; exact Nat.lt_irrefl _)) _).drew

end Go.Proofs.YtiiapfkcmdkkoaaGreatDoor
