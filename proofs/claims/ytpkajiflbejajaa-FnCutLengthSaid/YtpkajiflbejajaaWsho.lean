/-
  The walks of the model's functions that look for holes. Conditions: where the list lies, and its length.
-/
import Derived.Test.YtpkajiflbejajaaHol
import Derived.Test.YtpkajiflbejajaaWeq
import Derived.Test.YtpkajiflbejajaaWcn
import Derived.Test.YtpkajiflbejajaaWcu
namespace Go.Proofs.Ytpkajiflbejajaa
open Go.RowKit
set_option linter.unusedVariables false

end Go.Proofs.Ytpkajiflbejajaa
