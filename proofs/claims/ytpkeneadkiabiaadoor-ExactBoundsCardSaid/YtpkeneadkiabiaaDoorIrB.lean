/- Texts of code of this program, checked against its dump. -/
import Derived.Test.YtpkeneadkiabiaaDoorV8
import Derived.Test.YtpkeneadkiabiaaDoorChecked
namespace Go.Proofs.YtpkeneadkiabiaaDoor
open Go Go.Vh
end Go.Proofs.YtpkeneadkiabiaaDoor


/- Texts of code of this program, checked against its dump. -/
namespace Go.Proofs.YtpkeneadkiabiaaDoor
open Go Go.Vh
end Go.Proofs.YtpkeneadkiabiaaDoor


/- Texts of code of this program, checked against its dump. -/
namespace Go.Proofs.YtpkeneadkiabiaaDoor
open Go Go.Vh
end Go.Proofs.YtpkeneadkiabiaaDoor

